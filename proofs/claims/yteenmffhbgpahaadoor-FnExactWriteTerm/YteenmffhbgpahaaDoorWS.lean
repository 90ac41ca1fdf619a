/- What the given WriteBits answers. -/
import Derived.Test.YteenmffhbgpahaaDoorWM
import Derived.Test.YteenmffhbgpahaaDoorD1
import Derived.Test.YteenmffhbgpahaaDoorZWF
import Derived.ArgAppend
import Derived.Deep.RegionLawGrows
import Derived.Test.YteenmffhbgpahaaDoorG1
import Derived.Laws.IdiomStrings
import Derived.Lib.SmallJoins
namespace Go.Proofs.YteenmffhbgpahaaDoor
set_option linter.unusedVariables false
set_option linter.unusedSimpArgs false
open Go.RowKit

/-- Bytes in a row of the call's own, or in one that a constant was laid in. -/
def Ou (w : World) (base : Nat) (v : Value) (l : List Nat) : Prop :=
  OwB w base v l ∨ ∃ g, v = .slice (some ⟨g, 0, none⟩) l.length l.length ∧ base ≤ g ∧ ∀ i, i < l.length → w.cell? ⟨g, i, none⟩ = some (.int .u8 ((l.getD i 0 : Nat) : Int))

theorem OwB.base {w : World} {b b' : Nat} {v : Value} {l : List Nat} (h : OwB w b v l) (hb : b' ≤ b) : OwB w b' v l := by
  obtain ⟨h1, h2⟩ := h
  refine ⟨h1, ?_⟩
  rcases h2 with h2 | ⟨g, cap, cur, rfl, hg, r⟩
  · exact .inl h2
  · exact .inr ⟨g, cap, cur, rfl, Nat.le_trans hb hg, r⟩

theorem Ou.next {w w' : World} {b : Nat} {v : Value} {l : List Nat} (h : Ou w b v l) (hb : Below w.heap.size w w') : Ou w' b v l := by
  rcases h with h | ⟨g, hv, hg, hc⟩
  · exact .inl (h.kept hb)
  · refine .inr ⟨g, hv, hg, fun i hi => ?_⟩
    have h1 := hc i hi
    rw [hb.cell (p := ⟨g, i, none⟩) (by exact block_lt_of_cell h1)]; exact h1

theorem Ou.shape {w : World} {b : Nat} {v : Value} {l : List Nat} (h : Ou w b v l) (hl : l.length ≤ 4194304) (hx : ∀ x ∈ l, x < 256) (h0 : l ≠ []) :
    ∃ g o c, v = .slice (some ⟨g, o, none⟩) l.length c ∧ ∀ i, i < l.length → w.cell? ⟨g, o + i, none⟩ = some (.int .u8 ((l.getD i 0 : Nat) : Int)) := by
  rcases h with h | ⟨g, hv, hg, hc⟩
  · obtain ⟨a, c, rfl, ⟨_, _, h3⟩, -, -⟩ := h.shape hl hx
    rcases h3 with h3 | ⟨g, o, rfl, hc⟩
    · exact absurd h3 h0
    · exact ⟨g, o, c, rfl, hc⟩
  · exact ⟨g, 0, _, hv, fun i hi => by rw [Nat.zero_add]; exact hc i hi⟩

theorem back_txt (w : World) (g o c : Nat) (l : List Nat) (hx : ∀ x ∈ l, x < 256) (hc : ∀ i, i < l.length → w.cell? ⟨g, o + i, none⟩ = some (.int .u8 ((l.getD i 0 : Nat) : Int))) :
    (convert 61 9 (.slice (some ⟨g, o, none⟩) l.length c)).run Tryd.prog w = .ok (.string (txt l)) w := by
  have h := run_convert_bytes_back (P := Tryd.prog) w 61 9 5 ⟨g, o, none⟩ c (l.map UInt8.ofNat) Tryd.underlying61 Tryd.underlying5 Tryd.underlying9 (fun j hj => by
    have hj' : j < l.length := by simpa using hj
    rw [Addr.add_lit, hc j hj']
    have e : l.getD j 0 = l[j] := by simp [List.getD, hj']
    have hb := hx l[j] (List.getElem_mem _)
    rw [e]
    simp [Nat.mod_eq_of_lt hb])
  rw [List.length_map] at h
  exact h

/-- 'append(out, y)' there. -/
theorem wpList_appO (w : World) {ops : Array Oper} {rest : List Oper} {o : Oper} {a : Act} {Q : Exit → Act → World → Prop} (hgd : o.guard = none) (s x : Operand)
    (ho : o.op = .call { callee := .builtin .append, args := #[s, x], argTypes := #[61, 61] })
    (base : Nat) (v : Value) (bs : List Nat) (y : Nat) (hs : a.eval s = v) (hown : Ou w base v bs) (g : Nat) (hx : a.eval x = .slice (some ⟨g, 0, none⟩) 1 1)
    (hnew : w.cell? ⟨g, 0, none⟩ = some (.int .u8 (y : Int))) (hl : bs.length ≤ 4194304) (hbase : base ≤ w.heap.size)
    (h : ∀ v' w', OwB w' base v' (bs ++ [y]) → Below base w w' → wpList Tryd.prog ops Q rest (a.put o.dst v') w') : wpList Tryd.prog ops Q (o :: rest) a w := by
  rcases hown with hown | ⟨g0, hv, hg0, hc⟩
  · exact wpList_appB w hgd s x ho base v bs y hs hown g hx hnew hl hbase fun v' w' h1 h2 => h v' w' h1 ((Below.refl base w).grown h2 hbase (fun k hk => hown.own k hk))
  · obtain ⟨i0, hi, hz0, hz1, hz2⟩ := info_parts Tryd.infoU8
    rw [hv] at hs
    refine wpList_append_grows w hgd s x 61 ho 5 i0 (.int .u8 0) 1 1 Tryd.underlying61 hi hz0 hz1 hz2 rfl (by decide) (some ⟨g0, 0, none⟩) bs.length bs.length (u8s bs) hs (by simp) (by simp [u8s]) ?_ ⟨g, 0, none⟩ 1 1 [.int .u8 (y : Int)] hx rfl ?_ ?_ (by omega) (by unfold maxLen; omega) (by omega) ?_
    · intro b hb j u hj
      cases hb
      have hj' : j < bs.length := by
        have := (List.getElem?_eq_some_iff.1 hj).1
        simpa [u8s] using this
      rw [Addr.add_lit, Nat.zero_add, hc j hj']
      simp [u8s, hj'] at hj
      rw [← hj]
      simp [List.getD, hj']
    · intro j u hj
      match j, hj with
      | 0, hj => simp at hj; subst hj; simpa [Addr.add] using hnew
    · intro u hu; simp at hu; subst hu; rfl
    · intro v' w' h1 h2
      refine h v' w' (OwB.base (b := w.heap.size) ?_ hbase) ((Below.refl base w).grown h2 hbase (fun k hk => by cases hk))
      unfold OwB
      simpa [u8s] using h1

theorem step_appO (w : World) {ops : Array Oper} {o : Oper} {a : Act} {K : Act → World → Prop} {Q : Exit → Act → World → Prop} {E : Prop} (hgd : o.guard = none) (s x : Operand)
    (ho : o.op = .call { callee := .builtin .append, args := #[s, x], argTypes := #[61, 61] })
    (base : Nat) (v : Value) (bs : List Nat) (y : Nat) (hs : a.eval s = v) (hown : Ou w base v bs) (g : Nat) (hx : a.eval x = .slice (some ⟨g, 0, none⟩) 1 1)
    (hnew : w.cell? ⟨g, 0, none⟩ = some (.int .u8 (y : Int))) (hl : bs.length + 1 ≤ 4194304) (hbase : base ≤ w.heap.size)
    (h : ∀ v' w', OwB w' base v' (bs ++ [y]) → Below base w w' → K (a.put o.dst v') w') :
    if Region.wanted o (yielded ops a.tmps) = true then Oper.wp Tryd.prog o a w K Q else E := by
  rcases hown with hown | ⟨g0, hv, hg0, hc⟩
  · refine step_appBs w hgd s x ho base v bs [y] hs hown g 0 1 hx (fun i hi => ?_) (by simpa using hl) hbase fun v' w' h1 h2 => h v' w' h1 ((Below.refl base w).grown h2 hbase (fun k hk => hown.own k hk))
    match i, hi with
    | 0, _ => simpa using hnew
  · obtain ⟨i0, hi, hz0, hz1, hz2⟩ := info_parts Tryd.infoU8
    rw [hv] at hs
    refine step_append_grows hgd s x 61 ho 5 i0 (.int .u8 0) 1 1 Tryd.underlying61 hi hz0 hz1 hz2 rfl (by decide) (some ⟨g0, 0, none⟩) bs.length bs.length (u8s bs) hs (by simp) (by simp [u8s]) ?_ ⟨g, 0, none⟩ 1 1 [.int .u8 (y : Int)] hx rfl ?_ ?_ (by omega) (by unfold maxLen; omega) (by omega) ?_
    · intro b hb j u hj
      cases hb
      have hj' : j < bs.length := by
        have := (List.getElem?_eq_some_iff.1 hj).1
        simpa [u8s] using this
      rw [Addr.add_lit, Nat.zero_add, hc j hj']
      simp [u8s, hj'] at hj
      rw [← hj]
      simp [List.getD, hj']
    · intro j u hj
      match j, hj with
      | 0, hj => simp at hj; subst hj; simpa [Addr.add] using hnew
    · intro u hu; simp at hu; subst hu; rfl
    · intro v' w' h1 h2
      refine h v' w' (OwB.base (b := w.heap.size) ?_ hbase) ((Below.refl base w).grown h2 hbase (fun k hk => by cases hk))
      unfold OwB
      simpa [u8s] using h1

theorem sig_int (z : Int) (n : Nat) (hz : z = (n : Int)) (hn : n < 16) {h : z.toNat < ByteArray.size { data := #[48, 49, 50, 51, 52, 53, 54, 55, 56, 57, 97, 98, 99, 100, 101, 102] }} : (({ data := #[48, 49, 50, 51, 52, 53, 54, 55, 56, 57, 97, 98, 99, 100, 101, 102] } : ByteArray)[z.toNat]'h).toNat = sig n := by
  subst hz
  have : ∀ n, (hn : n < 16) → (({ data := #[48, 49, 50, 51, 52, 53, 54, 55, 56, 57, 97, 98, 99, 100, 101, 102] } : ByteArray)[((n : Nat) : Int).toNat]'hn).toNat = sig n := by decide
  exact this n hn

theorem cell_new (w : World) (x : Value) (t : TypeId) : (w.alloc (Obj.cells #[x] t)).drew.cell? ⟨w.heap.size, 0, none⟩ = some x := by
  show (w.alloc (Obj.cells #[x] t)).cell? _ = _
  rw [World.cell?_alloc_mark]; rfl

theorem le_dA (w : World) (o : Obj) {n : Nat} (h : n ≤ w.heap.size) : n ≤ (w.alloc o).drew.heap.size := by
  show n ≤ (w.alloc o).heap.size
  simp; omega
theorem undrewB {w w' : World} {o : Obj} {B : Nat} (h : Below B (w.alloc o).drew w') (hB : B ≤ w.heap.size) : Below B w w' :=
  ((Below.refl B w).alloc hB o).trans ⟨h.os, h.tape, h.output, h.size, h.block⟩

theorem u8_small {x : Int} (h1 : 0 ≤ x) (h2 : x ≤ 255) : IntKind.u8.wrap x = x := by
  simp [IntKind.wrap, IntKind.signed, IntKind.bits]
  omega

set_option maxHeartbeats 2000000 in
set_option maxRecDepth 100000 in
theorem specWrite_x (V : Nat) (a : Option Addr) (c : Nat) (xs : List Nat) (w : World) (hr : Rd w a xs) (hok : rightB V xs = true) (h4 : V % 4 = 0) :
    Calls Tryd.prog 29 #[.agg #[.int .i64 V, .slice a xs.length c]] w fun e w' => e = .returned (.string (txt (writeL V xs))) ∧ Below w.heap.size w w' := by
  obtain ⟨hV1, hV2, hVl⟩ := right_W hok
  have hxl : V ≤ 64 * xs.length := by omega
  have hx := hr.2.1
  obtain ⟨C, hC⟩ : ∃ C : Nat, V = C * 4 := ⟨V / 4, by omega⟩
  have hR : writeL V xs = [35, 120] ++ wTo true xs C C := by rw [writeL, if_pos h4, show V / 4 = C by omega]
  rw [hR]
  have HC : Hid _ := hC
  clear hC
  have bA0 := Blk.new w (Value.int IntKind.i64 V) (Value.slice a xs.length c) 52
  have B0 : Below w.heap.size w (w.alloc (Obj.cells #[Value.int IntKind.i64 V, Value.slice a xs.length c] 52)) := Ba (Below.refl _ _) _
  have hok0 := specOk_any V a c xs _ (hr.later B0)
  rw [hok] at hok0
  have hm : ((V : Int) % 4 == 0) = true := by simp; omega
  have hm2 : ((V : Int) % 4 != 0) = false := by simp; omega
  clear hR hok
  go_enter Tryd.func29, Tryd.ntmps29
  go_wp2_with fail
  refine hok0.mono ?_
  rintro e w1 ⟨rfl, hb1⟩
  have bA1 := bA0.next hb1
  have B1 := chain B0 hb1
  clear hok0 hb1 bA0 B0
  obtain ⟨k0, k1⟩ := bA1.cells
  have l1 := bA1.lt
  go_wp2_with fail
  refine (l1List_any V a c xs _ (hr.later B1) hxl (by omega)).mono ?_
  rintro e w2 ⟨v2, rfl, how2, hb2⟩
  have bA2 := bA1.next hb2
  have B2 := chain B1 hb2
  obtain ⟨a2, c2, rfl, hrb2, -, -⟩ := how2.shape (by rw [bitsTo_len]; omega) (fun x hx => by have := bitsTo_le xs V x hx; omega)
  clear k0 k1 l1 bA1 B1 hb2
  obtain ⟨k0, k1⟩ := bA2.cells
  have l2 := bA2.lt
  go_wp2_with fail
  refine (l1Turned_any _ _ _ _ hrb2).mono ?_
  rintro e w3 ⟨v3, rfl, how3, hb3⟩
  have bA3 := bA2.next hb3
  have B3 := chain B2 hb3
  have hLl : (bitsTo xs V).reverse.length = V := by rw [List.length_reverse, bitsTo_len]
  have hLle : ∀ x ∈ (bitsTo xs V).reverse, x ≤ 1 := fun x hx => bitsTo_le xs V x (List.mem_reverse.1 hx)
  have hLg : ∀ i, i < V → (bitsTo xs V).reverse.getD i 0 = bit xs (V - 1 - i) := fun i hi => by
    simp only [List.getD]
    rw [List.getElem?_reverse (by rw [bitsTo_len]; exact hi), bitsTo_len]
    simp [bitsTo, bit, show V - 1 - i < V by omega]
  generalize (bitsTo xs V).reverse = L at *
  obtain ⟨a3, c3, rfl, hrb3, -, -⟩ := how3.shape (by omega) (fun x hx => by have := hLle x hx; omega)
  have HLl : Hid _ := hLl
  have HLle : Hid _ := hLle
  have HLg : Hid _ := hLg
  clear hLl hLle hLg how2 hrb2 bA2 B2 hb3 how3 k0 k1 l2
  obtain ⟨k0, k1⟩ := bA3.cells
  have l3 := bA3.lt
  have hcv1 := Joins.run_convert_bytes_const_at (P := Tryd.prog) w3 61 5 #[.int .u8 35, .int .u8 98] 2 2 w3.heap.size rfl Tryd.underlying61 Tryd.underlying5
  have hcv2 := Joins.run_convert_bytes_const_at (P := Tryd.prog) (w3.alloc (Obj.cells #[Value.int IntKind.u8 35, Value.int IntKind.u8 98] 5 (2, 3))) 61 5 #[.int .u8 35, .int .u8 120] 2 2 (w3.heap.size + 1) (by simp) Tryd.underlying61 Tryd.underlying5
  go_wp2_with fail
  clear hcv1 hcv2
  have hou : Ou ((w3.alloc (Obj.cells #[Value.int IntKind.u8 35, Value.int IntKind.u8 98] 5 (2, 3))).alloc (Obj.cells #[Value.int IntKind.u8 35, Value.int IntKind.u8 120] 5 (2, 3))) w3.heap.size (.slice (some ⟨(w3.heap.size + 1),0, none⟩) 2 2) [35, 120] := .inr ⟨(w3.heap.size + 1), rfl, by omega, fun i hi => by
    rw [Joins.cell_alloc_mark_at _ _ _ _ _ _ (by simp)]
    match i, hi with
    | 0, _ => rfl
    | 1, _ => rfl⟩
  have hb4 : Below w3.heap.size w3 ((w3.alloc (Obj.cells #[Value.int IntKind.u8 35, Value.int IntKind.u8 98] 5 (2, 3))).alloc (Obj.cells #[Value.int IntKind.u8 35, Value.int IntKind.u8 120] 5 (2, 3))) := Ba (Ba (Below.refl _ _) _) _
  have hs3 := B3.size
  generalize ((w3.alloc (Obj.cells #[Value.int IntKind.u8 35, Value.int IntKind.u8 98] 5 (2, 3))).alloc (Obj.cells #[Value.int IntKind.u8 35, Value.int IntKind.u8 120] 5 (2, 3))) = w4 at *
  go_loopw [4, 5] (fun v i wr => ∃ k : Nat, k ≤ V ∧ i = .int .i64 k ∧ Ou wr w3.heap.size v ([35, 120] ++ wTo true xs C ((k + 3) / 4)) ∧ Below w3.heap.size w3 wr ∧ w3.heap.size ≤ wr.heap.size) (fun _ i _ => V - (intOf i).toNat)
  case atStart => exact ⟨0, Nat.zero_le _, rfl, hou, hb4, hb4.size⟩
  case round =>
    clear hou hb4
    obtain ⟨k, hk, rfl, hou, hb, hsz⟩ := hrel
    obtain ⟨k0, k1⟩ := (bA3.next hb).cells
    have hrr := hrb3.later hb
    have hLi : (L.length : Int) = (V : Int) := by rw [HLl.out]
    by_cases hlt : k < V
    · obtain ⟨-, -, h | ⟨bl, ol, rfl, hcl⟩⟩ := hrr
      · subst h; have := HLl.out; simp at this; omega
      have HCL : Hid _ := hcl
      have hki : (k : Int) < (L.length : Int) := by rw [HLl.out]; omega
      by_cases hk4 : k % 4 = 0
      · have hle : ∀ i, i < V → L.getD i 0 ≤ 1 := fun i hi => by
          have e : L.getD i 0 = L[i]'(by have := HLl.out; omega) := by simp [List.getD, show i < L.length by have := HLl.out; omega]
          rw [e]; exact HLle.out _ (List.getElem_mem _)
        have hk3 : k + 3 < V := by omega
        have c0' := hcl k (by have := HLl.out; omega)
        have c1' := hcl (k + 1) (by have := HLl.out; omega)
        have c2' := hcl (k + 2) (by have := HLl.out; omega)
        have c3' := hcl (k + 3) (by have := HLl.out; omega)
        have y0' := hle k (by omega)
        have y1' := hle (k + 1) (by omega)
        have y2' := hle (k + 2) (by omega)
        have y3' := hle (k + 3) (by omega)
        have z0 := HLg.out k (by omega)
        have z1 := HLg.out (k + 1) (by omega)
        have z2 := HLg.out (k + 2) (by omega)
        have z3 := HLg.out (k + 3) (by omega)
        generalize L.getD k 0 = p0 at *
        generalize L.getD (k + 1) 0 = p1 at *
        generalize L.getD (k + 2) 0 = p2 at *
        generalize L.getD (k + 3) 0 = p3 at *
        have Z0 : Hid _ := z0
        have Z1 : Hid _ := z1
        have Z2 : Hid _ := z2
        have Z3 : Hid _ := z3
        have hki1 : (k : Int) + 1 < (L.length : Int) := by rw [HLl.out]; omega
        have hki2 : (k : Int) + 2 < (L.length : Int) := by rw [HLl.out]; omega
        have hki3 : (k : Int) + 3 < (L.length : Int) := by rw [HLl.out]; omega
        have hkm : ((k : Int) % 4 == 0) = true := by simp; omega
        have hW1 : IntKind.u8.wrap (8 * (p0 : Int)) = 8 * (p0 : Int) := u8_small (by omega) (by omega)
        have hW2 : IntKind.u8.wrap (4 * (p1 : Int)) = 4 * (p1 : Int) := u8_small (by omega) (by omega)
        have hW3 : IntKind.u8.wrap (8 * (p0 : Int) + 4 * (p1 : Int)) = 8 * (p0 : Int) + 4 * (p1 : Int) := u8_small (by omega) (by omega)
        have hW4 : IntKind.u8.wrap (2 * (p2 : Int)) = 2 * (p2 : Int) := u8_small (by omega) (by omega)
        have hW5 : IntKind.u8.wrap (8 * (p0 : Int) + 4 * (p1 : Int) + 2 * (p2 : Int)) = 8 * (p0 : Int) + 4 * (p1 : Int) + 2 * (p2 : Int) := u8_small (by omega) (by omega)
        have hW6 : IntKind.u8.wrap (8 * (p0 : Int) + 4 * (p1 : Int) + 2 * (p2 : Int) + (p3 : Int)) = 8 * (p0 : Int) + 4 * (p1 : Int) + 2 * (p2 : Int) + (p3 : Int) := u8_small (by omega) (by omega)
        have hI1 : IntKind.i64.wrap ((k : Int) + 1) = (k : Int) + 1 := by rw [IntKind.wrap_i64]; omega
        have hI2 : IntKind.i64.wrap ((k : Int) + 2) = (k : Int) + 2 := by rw [IntKind.wrap_i64]; omega
        have hI3 : IntKind.i64.wrap ((k : Int) + 3) = (k : Int) + 3 := by rw [IntKind.wrap_i64]; omega
        have hN1 : (0 : Int) ≤ 8 * (p0 : Int) + 4 * (p1 : Int) + 2 * (p2 : Int) + (p3 : Int) := by omega
        have hN2 : 8 * (p0 : Int) + 4 * (p1 : Int) + 2 * (p2 : Int) + (p3 : Int) < 16 := by omega
        have blt := block_lt_of_cell c0'
        have blt3 : bl < w3.heap.size := by
          rcases hrb3.2.2 with h | ⟨b', o', e, hc'⟩
          · have := HLl.out; rw [h] at this; simp at this; omega
          · cases e; exact block_lt_of_cell (hc' 0 (by have := HLl.out; omega))
        have hbl : ([35, 120] ++ wTo true xs C ((k + 3) / 4)).length + 1 ≤ 4194304 := by rw [List.length_append, wTo_len]; simp; have := HC.out; omega
        have HB : Hid _ := hb
        clear z0 z1 z2 z3 hcl hle hb hrb3
        generalize hOL : [35, 120] ++ wTo true xs C ((k + 3) / 4) = OL at *
        have HOL : Hid _ := hOL
        clear hOL
        go_wp2_with fail
        go_region_held_law (fun u => u.cell? ⟨bl, ol + k, none⟩ = some (.int .u8 (p0 : Int)) ∧ u.cell? ⟨bl, ol + (k + 1), none⟩ = some (.int .u8 (p1 : Int)) ∧ u.cell? ⟨bl, ol + (k + 2), none⟩ = some (.int .u8 (p2 : Int)) ∧ u.cell? ⟨bl, ol + (k + 3), none⟩ = some (.int .u8 (p3 : Int)))
          (first | (refine ⟨?_, ?_, ?_, ?_⟩ <;> assumption) | exact ⟨(acell _ _ _ blt).trans c0', (acell _ _ _ blt).trans c1', (acell _ _ _ blt).trans c2', (acell _ _ _ blt).trans c3'⟩)
          (first
            | (refine step_appO _ rfl _ _ rfl w3.heap.size _ OL (sig (8 * p0 + 4 * p1 + 2 * p2 + p3)) rfl (hou.next ((Ba (Below.refl _ _) _).drew)) wr.heap.size rfl ((cell_new _ _ _).trans (by rw [sig_int _ (8 * p0 + 4 * p1 + 2 * p2 + p3) (by omega) (by omega)])) hbl (le_dA wr _ hsz) ?_; intro v5 w5 how5 hb5; have e0 := (hb5.cell (p := ⟨bl, ol + k, none⟩) blt3).trans ((acell _ _ _ blt).trans c0'); have e1 := (hb5.cell (p := ⟨bl, ol + (k + 1), none⟩) blt3).trans ((acell _ _ _ blt).trans c1'); have e2 := (hb5.cell (p := ⟨bl, ol + (k + 2), none⟩) blt3).trans ((acell _ _ _ blt).trans c2'); have e3 := (hb5.cell (p := ⟨bl, ol + (k + 3), none⟩) blt3).trans ((acell _ _ _ blt).trans c3')))
        all_goals
          have B5 : Below w3.heap.size w3 w5 := HB.out.trans ((undrewB hb5 hsz))
          have H5 : Hid (OwB w5 w3.heap.size v5 (OL ++ [sig (8 * p0 + 4 * p1 + 2 * p2 + p3)])) := how5
          clear how5 hou hb5
          go_wp2
          go_roundw
          case rel =>
            refine ⟨k + 1, by omega, by go_num, .inl ?_, B5, B5.size⟩
            have h := H5.out
            rw [← HOL.out, List.append_assoc] at h
            rw [show (k + 1 + 3) / 4 = (k + 3) / 4 + 1 by omega, wTo]
            have e : dig true xs ((C - 1 - (k + 3) / 4) * (if true = true then 4 else 1)) = 8 * p0 + 4 * p1 + 2 * p2 + p3 := by
              have hc := HC.out
              rw [dig, if_pos rfl]
              simp only [if_true]
              rw [Z0.out, Z1.out, Z2.out, Z3.out]
              rw [show (C - 1 - (k + 3) / 4) * 4 + 3 = V - 1 - k by omega, show (C - 1 - (k + 3) / 4) * 4 + 2 = V - 1 - (k + 1) by omega, show (C - 1 - (k + 3) / 4) * 4 + 1 = V - 1 - (k + 2) by omega, show (C - 1 - (k + 3) / 4) * 4 = V - 1 - (k + 3) by omega]
            rw [e]; exact h
          case measure => simp [intOf]; omega
      · have hkm : ((k : Int) % 4 == 0) = false := by simp; omega
        have HO : Hid _ := hou
        have HB : Hid _ := hb
        clear hcl hou hb
        go_wp2
        go_roundw
        case rel => exact ⟨k + 1, by omega, by go_num, by rw [show (k + 1 + 3) / 4 = (k + 3) / 4 by omega]; exact HO.out, HB.out, hsz⟩
        case measure => simp [intOf]; omega
    · have ek : (k + 3) / 4 = C := by have := HC.out; omega
      rw [ek] at hou
      have hall : ∀ y ∈ [35, 120] ++ wTo true xs C C, y < 256 := fun y hy => by
        rcases List.mem_append.1 hy with h | h
        · simp at h; omega
        · exact wTo_lt _ _ _ _ y h
      obtain ⟨g5, o5, c5, rfl, hc5⟩ := hou.shape (by rw [List.length_append, wTo_len]; simp; have := HC.out; omega) hall (by simp)
      have hcv := back_txt wr g5 o5 c5 _ hall hc5
      have BW : Hid _ := chain B3 hb
      clear hc5 hall hou hb ek
      generalize hLw : [35, 120] ++ wTo true xs C C = Lw at *
      have HLW : Hid _ := hLw
      clear hLw
      go_wp2
      go_ret
      refine ⟨?_, BW.out⟩
      show Ending.returned (Value.string (txt Lw)) = _
      rw [← HLW.out]
      rfl

set_option maxHeartbeats 2000000 in
set_option maxRecDepth 100000 in
theorem specWrite_b (V : Nat) (a : Option Addr) (c : Nat) (xs : List Nat) (w : World) (hr : Rd w a xs) (hok : rightB V xs = true) (h4 : ¬ V % 4 = 0) :
    Calls Tryd.prog 29 #[.agg #[.int .i64 V, .slice a xs.length c]] w fun e w' => e = .returned (.string (txt (writeL V xs))) ∧ Below w.heap.size w w' := by
  obtain ⟨hV1, hV2, hVl⟩ := right_W hok
  have hxl : V ≤ 64 * xs.length := by omega
  have hx := hr.2.1
  obtain ⟨C, hC⟩ : ∃ C : Nat, V = C * 1 := ⟨V / 1, by omega⟩
  have hR : writeL V xs = [35, 98] ++ wTo false xs C C := by rw [writeL, if_neg h4, show V = C by omega]
  rw [hR]
  have HC : Hid _ := hC
  clear hC
  have bA0 := Blk.new w (Value.int IntKind.i64 V) (Value.slice a xs.length c) 52
  have B0 : Below w.heap.size w (w.alloc (Obj.cells #[Value.int IntKind.i64 V, Value.slice a xs.length c] 52)) := Ba (Below.refl _ _) _
  have hok0 := specOk_any V a c xs _ (hr.later B0)
  rw [hok] at hok0
  have hm : ((V : Int) % 4 == 0) = false := by simp; omega
  have hm2 : ((V : Int) % 4 != 0) = true := by simp; omega
  clear hR hok
  go_enter Tryd.func29, Tryd.ntmps29
  go_wp2_with fail
  refine hok0.mono ?_
  rintro e w1 ⟨rfl, hb1⟩
  have bA1 := bA0.next hb1
  have B1 := chain B0 hb1
  clear hok0 hb1 bA0 B0
  obtain ⟨k0, k1⟩ := bA1.cells
  have l1 := bA1.lt
  go_wp2_with fail
  refine (l1List_any V a c xs _ (hr.later B1) hxl (by omega)).mono ?_
  rintro e w2 ⟨v2, rfl, how2, hb2⟩
  have bA2 := bA1.next hb2
  have B2 := chain B1 hb2
  obtain ⟨a2, c2, rfl, hrb2, -, -⟩ := how2.shape (by rw [bitsTo_len]; omega) (fun x hx => by have := bitsTo_le xs V x hx; omega)
  clear k0 k1 l1 bA1 B1 hb2
  obtain ⟨k0, k1⟩ := bA2.cells
  have l2 := bA2.lt
  go_wp2_with fail
  refine (l1Turned_any _ _ _ _ hrb2).mono ?_
  rintro e w3 ⟨v3, rfl, how3, hb3⟩
  have bA3 := bA2.next hb3
  have B3 := chain B2 hb3
  have hLl : (bitsTo xs V).reverse.length = V := by rw [List.length_reverse, bitsTo_len]
  have hLle : ∀ x ∈ (bitsTo xs V).reverse, x ≤ 1 := fun x hx => bitsTo_le xs V x (List.mem_reverse.1 hx)
  have hLg : ∀ i, i < V → (bitsTo xs V).reverse.getD i 0 = bit xs (V - 1 - i) := fun i hi => by
    simp only [List.getD]
    rw [List.getElem?_reverse (by rw [bitsTo_len]; exact hi), bitsTo_len]
    simp [bitsTo, bit, show V - 1 - i < V by omega]
  generalize (bitsTo xs V).reverse = L at *
  obtain ⟨a3, c3, rfl, hrb3, -, -⟩ := how3.shape (by omega) (fun x hx => by have := hLle x hx; omega)
  have HLl : Hid _ := hLl
  have HLle : Hid _ := hLle
  have HLg : Hid _ := hLg
  clear hLl hLle hLg how2 hrb2 bA2 B2 hb3 how3 k0 k1 l2
  obtain ⟨k0, k1⟩ := bA3.cells
  have l3 := bA3.lt
  have hcv1 := Joins.run_convert_bytes_const_at (P := Tryd.prog) w3 61 5 #[.int .u8 35, .int .u8 98] 2 2 w3.heap.size rfl Tryd.underlying61 Tryd.underlying5
  go_wp2_with fail
  clear hcv1
  have hou : Ou (w3.alloc (Obj.cells #[Value.int IntKind.u8 35, Value.int IntKind.u8 98] 5 (2, 3))) w3.heap.size (.slice (some ⟨w3.heap.size,0, none⟩) 2 2) [35, 98] := .inr ⟨w3.heap.size, rfl, by omega, fun i hi => by
    rw [World.cell?_alloc_mark]
    match i, hi with
    | 0, _ => rfl
    | 1, _ => rfl⟩
  have hb4 : Below w3.heap.size w3 (w3.alloc (Obj.cells #[Value.int IntKind.u8 35, Value.int IntKind.u8 98] 5 (2, 3))) := Ba (Below.refl _ _) _
  have hs3 := B3.size
  generalize (w3.alloc (Obj.cells #[Value.int IntKind.u8 35, Value.int IntKind.u8 98] 5 (2, 3))) = w4 at *
  go_loopw [4, 5] (fun v i wr => ∃ k : Nat, k ≤ V ∧ i = .int .i64 k ∧ Ou wr w3.heap.size v ([35, 98] ++ wTo false xs C (k)) ∧ Below w3.heap.size w3 wr ∧ w3.heap.size ≤ wr.heap.size) (fun _ i _ => V - (intOf i).toNat)
  case atStart => exact ⟨0, Nat.zero_le _, rfl, hou, hb4, hb4.size⟩
  case round =>
    clear hou hb4
    obtain ⟨k, hk, rfl, hou, hb, hsz⟩ := hrel
    obtain ⟨k0, k1⟩ := (bA3.next hb).cells
    have hrr := hrb3.later hb
    have hLi : (L.length : Int) = (V : Int) := by rw [HLl.out]
    by_cases hlt : k < V
    · obtain ⟨-, -, h | ⟨bl, ol, rfl, hcl⟩⟩ := hrr
      · subst h; have := HLl.out; simp at this; omega
      have HCL : Hid _ := hcl
      have hcell := hcl k (by have := HLl.out; omega)
      have hy1 : L.getD k 0 ≤ 1 := by
        have e : L.getD k 0 = L[k]'(by have := HLl.out; omega) := by simp [List.getD, show k < L.length by have := HLl.out; omega]
        rw [e]; exact HLle.out _ (List.getElem_mem _)
      have hyb := HLg.out k hlt
      generalize L.getD k 0 = y at *
      have HYB : Hid _ := hyb
      have hki : (k : Int) < (L.length : Int) := by rw [HLl.out]; omega
      have hbl : ([35, 98] ++ wTo false xs C k).length ≤ 4194304 := by rw [List.length_append, wTo_len]; simp; have := HC.out; omega
      have HB : Hid _ := hb
      have blt := block_lt_of_cell hcell
      clear hcl hyb hb hrb3
      generalize hOL : [35, 98] ++ wTo false xs C k = OL at *
      have HOL : Hid _ := hOL
      clear hOL
      go_wp2_with (at_builtin; refine wpList_appO _ rfl _ _ rfl w3.heap.size _ OL (48 + y) rfl (hou.next (Ba (Below.refl _ _) _)) wr.heap.size rfl (by simp) hbl (by simp; omega) ?_)
      intro v5 w5 how5 hb5
      have B5 : Below w3.heap.size w3 w5 := (HB.out.trans ((Ba (Below.refl _ _) _).mono hsz)).trans hb5
      have H5 : Hid (OwB w5 w3.heap.size v5 (OL ++ [48 + y])) := how5
      clear how5 hou hb5
      go_wp2
      go_roundw
      case rel =>
        refine ⟨k + 1, by omega, by go_num, .inl ?_, B5, B5.size⟩
        have h := H5.out
        rw [← HOL.out, List.append_assoc] at h
        rw [wTo]
        have e : sig (dig false xs ((C - 1 - k) * (if false = true then 4 else 1))) = 48 + y := by
          have e1 : (C - 1 - k) * (if false = true then 4 else 1) = V - 1 - k := by have := HC.out; simp; omega
          rw [e1, dig, if_neg (by simp), ← HYB.out]
          have : y = 0 ∨ y = 1 := by omega
          rcases this with rfl | rfl <;> rfl
        rw [e]; exact h
      case measure => simp [intOf]; omega
    · have ek : k = C := by have := HC.out; omega
      rw [ek] at hou
      have hall : ∀ y ∈ [35, 98] ++ wTo false xs C C, y < 256 := fun y hy => by
        rcases List.mem_append.1 hy with h | h
        · simp at h; omega
        · exact wTo_lt _ _ _ _ y h
      obtain ⟨g5, o5, c5, rfl, hc5⟩ := hou.shape (by rw [List.length_append, wTo_len]; simp; have := HC.out; omega) hall (by simp)
      have hcv := back_txt wr g5 o5 c5 _ hall hc5
      have BW : Hid _ := chain B3 hb
      clear hc5 hall hou hb ek
      generalize hLw : [35, 98] ++ wTo false xs C C = Lw at *
      have HLW : Hid _ := hLw
      clear hLw
      go_wp2
      go_ret
      refine ⟨?_, BW.out⟩
      show Ending.returned (Value.string (txt Lw)) = _
      rw [← HLW.out]
      rfl

end Go.Proofs.YteenmffhbgpahaaDoor
