/- Which op a right node is, and its head. -/
import Derived.Test.YteenmffhbgpahaaDoorWTH
import Derived.Test.YteenmffhbgpahaaDoorWTD
namespace Go.Proofs.YteenmffhbgpahaaDoor
set_option linter.unusedVariables false
set_option linter.unusedSimpArgs false
open Go.RowKit

/-- The words of the program's forms. -/
def GW (w : World) : Prop := ∀ m, 5 ≤ m → m ≤ 8 → w.cell? ⟨0, m * 4, none⟩ = some (.string (txt (wordN (m : Int))))
theorem GW.later {w w' : World} (h : GW w) (hb : Below w.heap.size w w') : GW w' := fun m h1 h2 => by
  have := h m h1 h2
  rw [kcell hb _ _ (block_lt_of_cell this)]; exact this

theorem opOfW_zero (a : Option Addr) (nd c : Nat) (vr A B bw : Int) (wa ka : Option Addr) (wl wc kl kc : Nat) (w : World) (hG : GW w) :
    Calls Tryd.prog 21 #[.slice a nd c, .agg #[.int .i64 5, .int .i64 vr, .int .i64 A, .int .i64 B, .int .i64 bw, .slice wa wl wc, .slice ka kl kc]] w fun e w' => e = .returned (.iface 84 (.agg #[.string (txt (wordN 5)), .int .i64 A])) ∧ Below w.heap.size w w' := by
  have hb0 : Below w.heap.size w (w.alloc (Obj.cells #[Value.int .i64 5, Value.int .i64 vr, Value.int .i64 A, Value.int .i64 B, Value.int .i64 bw, Value.slice wa wl wc, Value.slice ka kl kc] 54)) := (Below.refl _ _).alloc (Nat.le_refl _) _
  have B0 := kide hb0
  clear hb0
  have h0 : w.cell? ⟨0, 20, none⟩ = some (.string (txt (wordN 5))) := hG 5 (by omega) (by omega)
  generalize txt (wordN 5) = s at *
  have l0 : 0 < w.heap.size := block_lt_of_cell h0
  go_enter Tryd.func21, Tryd.ntmps21
  go_wp2_with fail
  go_quiet (fail)
  go_wp2_with fail
  go_ret
  exact ⟨rfl, below_drewN B0.out _⟩

theorem opOfW_sign (a : Option Addr) (nd c : Nat) (vr A B bw : Int) (wa ka : Option Addr) (wl wc kl kc : Nat) (w : World) (hG : GW w) :
    Calls Tryd.prog 21 #[.slice a nd c, .agg #[.int .i64 6, .int .i64 vr, .int .i64 A, .int .i64 B, .int .i64 bw, .slice wa wl wc, .slice ka kl kc]] w fun e w' => e = .returned (.iface 84 (.agg #[.string (txt (wordN 6)), .int .i64 A])) ∧ Below w.heap.size w w' := by
  have hb0 : Below w.heap.size w (w.alloc (Obj.cells #[Value.int .i64 6, Value.int .i64 vr, Value.int .i64 A, Value.int .i64 B, Value.int .i64 bw, Value.slice wa wl wc, Value.slice ka kl kc] 54)) := (Below.refl _ _).alloc (Nat.le_refl _) _
  have B0 := kide hb0
  clear hb0
  have h0 : w.cell? ⟨0, 24, none⟩ = some (.string (txt (wordN 6))) := hG 6 (by omega) (by omega)
  generalize txt (wordN 6) = s at *
  have l0 : 0 < w.heap.size := block_lt_of_cell h0
  go_enter Tryd.func21, Tryd.ntmps21
  go_wp2_with fail
  go_quiet (fail)
  go_wp2_with fail
  go_ret
  exact ⟨rfl, below_drewN B0.out _⟩

theorem opOfW_left (a : Option Addr) (nd c : Nat) (vr A B bw : Int) (wa ka : Option Addr) (wl wc kl kc : Nat) (w : World) (hG : GW w) :
    Calls Tryd.prog 21 #[.slice a nd c, .agg #[.int .i64 7, .int .i64 vr, .int .i64 A, .int .i64 B, .int .i64 bw, .slice wa wl wc, .slice ka kl kc]] w fun e w' => e = .returned (.iface 86 (.agg #[.string (txt (wordN 7)), .int .i64 A])) ∧ Below w.heap.size w w' := by
  have hb0 : Below w.heap.size w (w.alloc (Obj.cells #[Value.int .i64 7, Value.int .i64 vr, Value.int .i64 A, Value.int .i64 B, Value.int .i64 bw, Value.slice wa wl wc, Value.slice ka kl kc] 54)) := (Below.refl _ _).alloc (Nat.le_refl _) _
  have B0 := kide hb0
  clear hb0
  have h0 : w.cell? ⟨0, 28, none⟩ = some (.string (txt (wordN 7))) := hG 7 (by omega) (by omega)
  generalize txt (wordN 7) = s at *
  have l0 : 0 < w.heap.size := block_lt_of_cell h0
  go_enter Tryd.func21, Tryd.ntmps21
  go_wp2_with fail
  go_quiet (fail)
  go_wp2_with fail
  go_ret
  exact ⟨rfl, below_drewN B0.out _⟩

theorem opOfW_right (a : Option Addr) (nd c : Nat) (vr A B bw : Int) (wa ka : Option Addr) (wl wc kl kc : Nat) (w : World) (hG : GW w) :
    Calls Tryd.prog 21 #[.slice a nd c, .agg #[.int .i64 8, .int .i64 vr, .int .i64 A, .int .i64 B, .int .i64 bw, .slice wa wl wc, .slice ka kl kc]] w fun e w' => e = .returned (.iface 86 (.agg #[.string (txt (wordN 8)), .int .i64 A])) ∧ Below w.heap.size w w' := by
  have hb0 : Below w.heap.size w (w.alloc (Obj.cells #[Value.int .i64 8, Value.int .i64 vr, Value.int .i64 A, Value.int .i64 B, Value.int .i64 bw, Value.slice wa wl wc, Value.slice ka kl kc] 54)) := (Below.refl _ _).alloc (Nat.le_refl _) _
  have B0 := kide hb0
  clear hb0
  have h0 : w.cell? ⟨0, 32, none⟩ = some (.string (txt (wordN 8))) := hG 8 (by omega) (by omega)
  generalize txt (wordN 8) = s at *
  have l0 : 0 < w.heap.size := block_lt_of_cell h0
  go_enter Tryd.func21, Tryd.ntmps21
  go_wp2_with fail
  go_quiet (fail)
  go_wp2_with fail
  go_ret
  exact ⟨rfl, below_drewN B0.out _⟩

/-- A node's op, and its head's text. -/
theorem opHead (a : Option Addr) (c : Nat) (ds : List Dc) (x : Tc) (wa ka : Option Addr) (wc kc : Nat) (w : World) (hr : RdD w a ds) (hw : Rd w wa x.ws) (hrt : rtN ds.length x) (hG : GW w) (hP : GP w) :
    ∃ v : Value, (∀ u, Below w.heap.size w u → Calls Tryd.prog 21 #[.slice a ds.length c, .agg #[.int .i64 x.op, .int .i64 x.vr, .int .i64 x.a, .int .i64 x.b, .int .i64 x.bw, .slice wa x.ws.length wc, .slice ka x.ks.length kc]] u fun e w' => e = .returned v ∧ Below u.heap.size u w') ∧
      (∀ u, Below w.heap.size w u → Calls Tryd.prog 20 #[v] u fun e w' => e = .returned (.string (txt (hdT ds x))) ∧ Below u.heap.size u w') := by
  have hro := rt_op hrt
  obtain ⟨-, -, hna, hnb⟩ := hrt
  obtain ⟨op, vr, A, B, bw, ws, ks⟩ := x
  simp only [] at hro hna hnb hw ⊢
  have hdl := hr.1
  rcases hro with ⟨rfl, -, hv1, hv2⟩ | ⟨rfl, -, hrb⟩ | ⟨h3, h9, -⟩
  · obtain ⟨m, rfl⟩ : ∃ m : Nat, vr = (m : Int) := ⟨vr.toNat, by omega⟩
    have hm : m < ds.length := by omega
    have gd : ds[m]? = some (ds.getD m (.empty, 0)) := by simp [List.getD, hm]
    have ht : txt (hdT ds ⟨1, (m : Int), A, B, bw, ws, ks⟩) = (ds.getD m (.empty, 0)).1 := by
      unfold hdT
      rw [if_pos rfl, txt_blT]
      rfl
    refine ⟨.iface 78 (.agg #[.string (ds.getD m (.empty, 0)).1, .int .i64 (ds.getD m (.empty, 0)).2]), fun u hu => ?_, fun u hu => ?_⟩
    · obtain ⟨-, -, h | ⟨b, o, rfl, hc⟩⟩ := hr.later hu
      · subst h; simp at hm
      obtain ⟨c0, c1⟩ := hc m _ gd
      exact opOf_var _ _ _ _ _ _ _ _ _ _ _ _ _ u b o m _ _ rfl rfl hm hdl c0 c1
    · rw [ht]; exact headVar _ _ u
  · have ht : hdT ds ⟨2, vr, A, B, bw, ws, ks⟩ = writeR bw ws := by
      unfold hdT
      rw [if_neg (by simp), if_pos rfl]
    rw [ht]
    exact ⟨_, fun u hu => opOf_bits _ _ _ _ _ _ _ _ _ _ _ _ _ u, fun u hu => headBits bw ws wa wc u (hw.later hu) hrb⟩
  · have hh : hdT ds ⟨op, vr, A, B, bw, ws, ks⟩ = (40 :: wordN op) ++ ((if 4 ≤ op then 32 :: decN A.toNat else []) ++ (if op = 4 then 32 :: decN B.toNat else [])) := by
      unfold hdT
      simp only []
      rw [if_neg (by omega), if_neg (by omega)]
    have c32 : ∀ l : List Nat, 32 :: l = [32] ++ l := fun _ => rfl
    rw [hh]
    rcases (by omega : op = 3 ∨ op = 4 ∨ op = 5 ∨ op = 6 ∨ op = 7 ∨ op = 8 ∨ op = 9) with rfl | rfl | rfl | rfl | rfl | rfl | rfl
    · rw [if_neg (show ¬ (4 : Int) ≤ 3 by omega), if_neg (show ¬ (3 : Int) = 4 by omega)]
      exact ⟨_, fun u hu => opOf_cat _ _ _ _ _ _ _ _ _ _ _ _ _ u, fun u hu => headCat u⟩
    · obtain ⟨a0, a1⟩ := hna (by omega)
      obtain ⟨b0, b1⟩ := hnb (by omega)
      obtain ⟨M, rfl⟩ : ∃ m : Nat, A = (m : Int) := ⟨A.toNat, by omega⟩
      obtain ⟨N, rfl⟩ : ∃ m : Nat, B = (m : Int) := ⟨B.toNat, by omega⟩
      rw [if_pos (by omega), if_pos (by omega), Int.toNat_natCast, Int.toNat_natCast]
      refine ⟨_, fun u hu => opOf_part _ _ _ _ _ _ _ _ _ _ _ _ _ u, fun u hu => ?_⟩
      have h := headPart M N (by omega) (by omega) u (hP.later hu)
      have e : txt ((40 :: wordN 4) ++ ((32 :: decN M) ++ (32 :: decN N))) = ⟨#[40, 112, 97, 114, 116, 32]⟩ ++ txt (decN M) ++ ⟨#[32]⟩ ++ txt (decN N) := by
        rw [show (40 :: wordN 4) ++ ((32 :: decN M) ++ (32 :: decN N)) = [40, 112, 97, 114, 116, 32] ++ decN M ++ [32] ++ decN N by simp [wordN]]
        simp only [txt_appT]
        rfl
      rw [e]
      exact h
    · obtain ⟨a0, a1⟩ := hna (by omega)
      obtain ⟨M, rfl⟩ : ∃ m : Nat, A = (m : Int) := ⟨A.toNat, by omega⟩
      rw [if_pos (by omega), if_neg (by omega), Int.toNat_natCast]
      refine ⟨_, fun u hu => opOfW_zero _ _ _ _ _ _ _ _ _ _ _ _ _ u (hG.later hu), fun u hu => ?_⟩
      have h := headWiden (txt (wordN 5)) (by rw [txt_sizeT]; exact wordN_len _) M (by omega) u (hP.later hu)
      have e : txt ((40 :: wordN 5) ++ ((32 :: decN M) ++ [])) = ⟨#[40]⟩ ++ txt (wordN 5) ++ ⟨#[32]⟩ ++ txt (decN M) := by
        rw [show (40 :: wordN 5) ++ ((32 :: decN M) ++ []) = [40] ++ wordN 5 ++ [32] ++ decN M by simp]
        simp only [txt_appT]
        rfl
      rw [e]
      exact h
    · obtain ⟨a0, a1⟩ := hna (by omega)
      obtain ⟨M, rfl⟩ : ∃ m : Nat, A = (m : Int) := ⟨A.toNat, by omega⟩
      rw [if_pos (by omega), if_neg (by omega), Int.toNat_natCast]
      refine ⟨_, fun u hu => opOfW_sign _ _ _ _ _ _ _ _ _ _ _ _ _ u (hG.later hu), fun u hu => ?_⟩
      have h := headWiden (txt (wordN 6)) (by rw [txt_sizeT]; exact wordN_len _) M (by omega) u (hP.later hu)
      have e : txt ((40 :: wordN 6) ++ ((32 :: decN M) ++ [])) = ⟨#[40]⟩ ++ txt (wordN 6) ++ ⟨#[32]⟩ ++ txt (decN M) := by
        rw [show (40 :: wordN 6) ++ ((32 :: decN M) ++ []) = [40] ++ wordN 6 ++ [32] ++ decN M by simp]
        simp only [txt_appT]
        rfl
      rw [e]
      exact h
    · obtain ⟨a0, a1⟩ := hna (by omega)
      obtain ⟨M, rfl⟩ : ∃ m : Nat, A = (m : Int) := ⟨A.toNat, by omega⟩
      rw [if_pos (by omega), if_neg (by omega), Int.toNat_natCast]
      refine ⟨_, fun u hu => opOfW_left _ _ _ _ _ _ _ _ _ _ _ _ _ u (hG.later hu), fun u hu => ?_⟩
      have h := headTurn (txt (wordN 7)) (by rw [txt_sizeT]; exact wordN_len _) M (by omega) u (hP.later hu)
      have e : txt ((40 :: wordN 7) ++ ((32 :: decN M) ++ [])) = ⟨#[40]⟩ ++ txt (wordN 7) ++ ⟨#[32]⟩ ++ txt (decN M) := by
        rw [show (40 :: wordN 7) ++ ((32 :: decN M) ++ []) = [40] ++ wordN 7 ++ [32] ++ decN M by simp]
        simp only [txt_appT]
        rfl
      rw [e]
      exact h
    · obtain ⟨a0, a1⟩ := hna (by omega)
      obtain ⟨M, rfl⟩ : ∃ m : Nat, A = (m : Int) := ⟨A.toNat, by omega⟩
      rw [if_pos (by omega), if_neg (by omega), Int.toNat_natCast]
      refine ⟨_, fun u hu => opOfW_right _ _ _ _ _ _ _ _ _ _ _ _ _ u (hG.later hu), fun u hu => ?_⟩
      have h := headTurn (txt (wordN 8)) (by rw [txt_sizeT]; exact wordN_len _) M (by omega) u (hP.later hu)
      have e : txt ((40 :: wordN 8) ++ ((32 :: decN M) ++ [])) = ⟨#[40]⟩ ++ txt (wordN 8) ++ ⟨#[32]⟩ ++ txt (decN M) := by
        rw [show (40 :: wordN 8) ++ ((32 :: decN M) ++ []) = [40] ++ wordN 8 ++ [32] ++ decN M by simp]
        simp only [txt_appT]
        rfl
      rw [e]
      exact h
    · obtain ⟨a0, a1⟩ := hna (by omega)
      obtain ⟨M, rfl⟩ : ∃ m : Nat, A = (m : Int) := ⟨A.toNat, by omega⟩
      rw [if_pos (by omega), if_neg (by omega), Int.toNat_natCast]
      refine ⟨_, fun u hu => opOf_rep _ _ _ _ _ _ _ _ _ _ _ _ _ u, fun u hu => ?_⟩
      have h := headRep M (by omega) u (hP.later hu)
      have e : txt ((40 :: wordN 9) ++ ((32 :: decN M) ++ [])) = ⟨#[40, 114, 101, 112, 32]⟩ ++ txt (decN M) := by
        rw [show (40 :: wordN 9) ++ ((32 :: decN M) ++ []) = [40, 114, 101, 112, 32] ++ decN M by simp [wordN]]
        simp only [txt_appT]
        rfl
      rw [e]
      exact h

end Go.Proofs.YteenmffhbgpahaaDoor
