/- Which op a value is. -/
import Derived.Test.YteenmffhbgpahaaDoorProg
import Derived.Stop.Asserts
import Derived.KernelRfl
namespace Go.Proofs.YteenmffhbgpahaaDoor
set_option linter.unusedVariables false
set_option linter.unusedSimpArgs false

theorem ta_hit {P : Program} {A : TypeId} {u : TypeDesc} (hu : P.underlying A = some u) (hn : ∀ m, u ≠ .interface m) (v : Value) (xT : TypeId) (w : World) :
    (Instr.typeAssert (.iface A v) xT A true).run P w = .ok (.tuple #[v, .bool true]) w := by
  cases u with
  | interface m => exact absurd rfl (hn m)
  | _ => simp [Instr.typeAssert, run_underlying hu]
theorem ta_miss {P : Program} {A t : TypeId} {u : TypeDesc} {z : Value} (hu : P.underlying A = some u) (hn : ∀ m, u ≠ .interface m) (hz : (P.info? A).map (·.zero) = some (some z)) (ht : t ≠ A) (v : Value) (xT : TypeId) (w : World) :
    (Instr.typeAssert (.iface t v) xT A true).run P w = .ok (.tuple #[z, .bool false]) w := by
  obtain ⟨j, hj, hz'⟩ := Option.map_eq_some_iff.1 hz
  cases u with
  | interface m => exact absurd rfl (hn m)
  | _ => simp [Instr.typeAssert, run_underlying hu, ht, zeroValue, typeInfo, hj, hz']

theorem is_varOp (v : Value) (xT : TypeId) (w : World) : (Instr.typeAssert (.iface 78 v) xT 78 true).run Tryd.prog w = .ok (.tuple #[v, .bool true]) w := ta_hit Tryd.underlying78 (fun _ h => by cases h) v xT w
theorem no_bitsOp_varOp (v : Value) (xT : TypeId) (w : World) : (Instr.typeAssert (.iface 80 v) xT 78 true).run Tryd.prog w = .ok (.tuple #[.agg #[.string ⟨#[]⟩, .int .i64 0], .bool false]) w := ta_miss Tryd.underlying78 (fun _ h => by cases h) (by kernel_rfl) (by decide) v xT w
theorem no_partOp_varOp (v : Value) (xT : TypeId) (w : World) : (Instr.typeAssert (.iface 82 v) xT 78 true).run Tryd.prog w = .ok (.tuple #[.agg #[.string ⟨#[]⟩, .int .i64 0], .bool false]) w := ta_miss Tryd.underlying78 (fun _ h => by cases h) (by kernel_rfl) (by decide) v xT w
theorem no_widenOp_varOp (v : Value) (xT : TypeId) (w : World) : (Instr.typeAssert (.iface 84 v) xT 78 true).run Tryd.prog w = .ok (.tuple #[.agg #[.string ⟨#[]⟩, .int .i64 0], .bool false]) w := ta_miss Tryd.underlying78 (fun _ h => by cases h) (by kernel_rfl) (by decide) v xT w
theorem no_turnOp_varOp (v : Value) (xT : TypeId) (w : World) : (Instr.typeAssert (.iface 86 v) xT 78 true).run Tryd.prog w = .ok (.tuple #[.agg #[.string ⟨#[]⟩, .int .i64 0], .bool false]) w := ta_miss Tryd.underlying78 (fun _ h => by cases h) (by kernel_rfl) (by decide) v xT w
theorem no_repOp_varOp (v : Value) (xT : TypeId) (w : World) : (Instr.typeAssert (.iface 88 v) xT 78 true).run Tryd.prog w = .ok (.tuple #[.agg #[.string ⟨#[]⟩, .int .i64 0], .bool false]) w := ta_miss Tryd.underlying78 (fun _ h => by cases h) (by kernel_rfl) (by decide) v xT w
theorem no_catOp_varOp (v : Value) (xT : TypeId) (w : World) : (Instr.typeAssert (.iface 90 v) xT 78 true).run Tryd.prog w = .ok (.tuple #[.agg #[.string ⟨#[]⟩, .int .i64 0], .bool false]) w := ta_miss Tryd.underlying78 (fun _ h => by cases h) (by kernel_rfl) (by decide) v xT w
theorem is_bitsOp (v : Value) (xT : TypeId) (w : World) : (Instr.typeAssert (.iface 80 v) xT 80 true).run Tryd.prog w = .ok (.tuple #[v, .bool true]) w := ta_hit Tryd.underlying80 (fun _ h => by cases h) v xT w
theorem no_partOp_bitsOp (v : Value) (xT : TypeId) (w : World) : (Instr.typeAssert (.iface 82 v) xT 80 true).run Tryd.prog w = .ok (.tuple #[.agg #[.int .i64 0, .slice none 0 0], .bool false]) w := ta_miss Tryd.underlying80 (fun _ h => by cases h) (by kernel_rfl) (by decide) v xT w
theorem no_widenOp_bitsOp (v : Value) (xT : TypeId) (w : World) : (Instr.typeAssert (.iface 84 v) xT 80 true).run Tryd.prog w = .ok (.tuple #[.agg #[.int .i64 0, .slice none 0 0], .bool false]) w := ta_miss Tryd.underlying80 (fun _ h => by cases h) (by kernel_rfl) (by decide) v xT w
theorem no_turnOp_bitsOp (v : Value) (xT : TypeId) (w : World) : (Instr.typeAssert (.iface 86 v) xT 80 true).run Tryd.prog w = .ok (.tuple #[.agg #[.int .i64 0, .slice none 0 0], .bool false]) w := ta_miss Tryd.underlying80 (fun _ h => by cases h) (by kernel_rfl) (by decide) v xT w
theorem no_repOp_bitsOp (v : Value) (xT : TypeId) (w : World) : (Instr.typeAssert (.iface 88 v) xT 80 true).run Tryd.prog w = .ok (.tuple #[.agg #[.int .i64 0, .slice none 0 0], .bool false]) w := ta_miss Tryd.underlying80 (fun _ h => by cases h) (by kernel_rfl) (by decide) v xT w
theorem no_catOp_bitsOp (v : Value) (xT : TypeId) (w : World) : (Instr.typeAssert (.iface 90 v) xT 80 true).run Tryd.prog w = .ok (.tuple #[.agg #[.int .i64 0, .slice none 0 0], .bool false]) w := ta_miss Tryd.underlying80 (fun _ h => by cases h) (by kernel_rfl) (by decide) v xT w
theorem is_partOp (v : Value) (xT : TypeId) (w : World) : (Instr.typeAssert (.iface 82 v) xT 82 true).run Tryd.prog w = .ok (.tuple #[v, .bool true]) w := ta_hit Tryd.underlying82 (fun _ h => by cases h) v xT w
theorem no_widenOp_partOp (v : Value) (xT : TypeId) (w : World) : (Instr.typeAssert (.iface 84 v) xT 82 true).run Tryd.prog w = .ok (.tuple #[.agg #[.int .i64 0, .int .i64 0], .bool false]) w := ta_miss Tryd.underlying82 (fun _ h => by cases h) (by kernel_rfl) (by decide) v xT w
theorem no_turnOp_partOp (v : Value) (xT : TypeId) (w : World) : (Instr.typeAssert (.iface 86 v) xT 82 true).run Tryd.prog w = .ok (.tuple #[.agg #[.int .i64 0, .int .i64 0], .bool false]) w := ta_miss Tryd.underlying82 (fun _ h => by cases h) (by kernel_rfl) (by decide) v xT w
theorem no_repOp_partOp (v : Value) (xT : TypeId) (w : World) : (Instr.typeAssert (.iface 88 v) xT 82 true).run Tryd.prog w = .ok (.tuple #[.agg #[.int .i64 0, .int .i64 0], .bool false]) w := ta_miss Tryd.underlying82 (fun _ h => by cases h) (by kernel_rfl) (by decide) v xT w
theorem no_catOp_partOp (v : Value) (xT : TypeId) (w : World) : (Instr.typeAssert (.iface 90 v) xT 82 true).run Tryd.prog w = .ok (.tuple #[.agg #[.int .i64 0, .int .i64 0], .bool false]) w := ta_miss Tryd.underlying82 (fun _ h => by cases h) (by kernel_rfl) (by decide) v xT w
theorem is_widenOp (v : Value) (xT : TypeId) (w : World) : (Instr.typeAssert (.iface 84 v) xT 84 true).run Tryd.prog w = .ok (.tuple #[v, .bool true]) w := ta_hit Tryd.underlying84 (fun _ h => by cases h) v xT w
theorem no_turnOp_widenOp (v : Value) (xT : TypeId) (w : World) : (Instr.typeAssert (.iface 86 v) xT 84 true).run Tryd.prog w = .ok (.tuple #[.agg #[.string ⟨#[]⟩, .int .i64 0], .bool false]) w := ta_miss Tryd.underlying84 (fun _ h => by cases h) (by kernel_rfl) (by decide) v xT w
theorem no_repOp_widenOp (v : Value) (xT : TypeId) (w : World) : (Instr.typeAssert (.iface 88 v) xT 84 true).run Tryd.prog w = .ok (.tuple #[.agg #[.string ⟨#[]⟩, .int .i64 0], .bool false]) w := ta_miss Tryd.underlying84 (fun _ h => by cases h) (by kernel_rfl) (by decide) v xT w
theorem no_catOp_widenOp (v : Value) (xT : TypeId) (w : World) : (Instr.typeAssert (.iface 90 v) xT 84 true).run Tryd.prog w = .ok (.tuple #[.agg #[.string ⟨#[]⟩, .int .i64 0], .bool false]) w := ta_miss Tryd.underlying84 (fun _ h => by cases h) (by kernel_rfl) (by decide) v xT w
theorem is_turnOp (v : Value) (xT : TypeId) (w : World) : (Instr.typeAssert (.iface 86 v) xT 86 true).run Tryd.prog w = .ok (.tuple #[v, .bool true]) w := ta_hit Tryd.underlying86 (fun _ h => by cases h) v xT w
theorem no_repOp_turnOp (v : Value) (xT : TypeId) (w : World) : (Instr.typeAssert (.iface 88 v) xT 86 true).run Tryd.prog w = .ok (.tuple #[.agg #[.string ⟨#[]⟩, .int .i64 0], .bool false]) w := ta_miss Tryd.underlying86 (fun _ h => by cases h) (by kernel_rfl) (by decide) v xT w
theorem no_catOp_turnOp (v : Value) (xT : TypeId) (w : World) : (Instr.typeAssert (.iface 90 v) xT 86 true).run Tryd.prog w = .ok (.tuple #[.agg #[.string ⟨#[]⟩, .int .i64 0], .bool false]) w := ta_miss Tryd.underlying86 (fun _ h => by cases h) (by kernel_rfl) (by decide) v xT w
theorem is_repOp (v : Value) (xT : TypeId) (w : World) : (Instr.typeAssert (.iface 88 v) xT 88 true).run Tryd.prog w = .ok (.tuple #[v, .bool true]) w := ta_hit Tryd.underlying88 (fun _ h => by cases h) v xT w
theorem no_catOp_repOp (v : Value) (xT : TypeId) (w : World) : (Instr.typeAssert (.iface 90 v) xT 88 true).run Tryd.prog w = .ok (.tuple #[.agg #[.int .i64 0], .bool false]) w := ta_miss Tryd.underlying88 (fun _ h => by cases h) (by kernel_rfl) (by decide) v xT w

end Go.Proofs.YteenmffhbgpahaaDoor
