/- Several texts in one. -/
import Derived.Test.YtkkboaiablfdbaaGreatDoorSA
import Derived.Test.YtkkboaiablfdbaaGreatDoorZKX
import Derived.Handy
import Derived.Test.YtkkboaiablfdbaaGreatDoorTNA
import Derived.Lib.AppendZeros
import Derived.Test.YtkkboaiablfdbaaGreatDoorZRA
import Derived.Test.YtkkboaiablfdbaaGreatDoorQK

/- slices.Contains of numbers. -/
namespace Go.Proofs.YtkkboaiablfdbaaGreatDoor
set_option linter.unusedVariables false
set_option linter.unusedSimpArgs false
open Go.RowKit

set_option maxHeartbeats 1000000 in
theorem indexI_any (x : Int) (a : Option Addr) (c n : Nat) (ks : List Int) (w : World) (hr : RdI w a ks) (hn : ks.length = n) :
    Calls Tryz.prog 40 #[.slice a n c, .int .i64 x] w fun e w' => ∃ r : Int, e = .returned (.int .i64 r) ∧ decide (0 ≤ r) = decide (x ∈ ks) ∧ w' = w := by
  have HN := kide hn
  have HL : Hid (n ≤ 1048576) := by show _ ≤ _; rw [← hn]; exact hr.1
  obtain ⟨V, hV⟩ : ∃ V, decide (x ∈ ks) = V := ⟨_, rfl⟩
  rw [hV]
  have HV := kide hV
  clear hn hV
  go_enter Tryz.func40, Tryz.ntmps40
  go_wp2_with fail
  go_loopw [8] (fun i wr => ∃ k : Nat, k ≤ n ∧ i = .int .i64 (k : Int) ∧ (∀ j y, j < k → ks[j]? = some y → y ≠ x) ∧ wr = w) (fun i _ => n - (intOf i).toNat)
  case atStart => exact ⟨0, Nat.zero_le _, rfl, (fun j y h => by omega), rfl⟩
  case round =>
    obtain ⟨k, hk, rfl, hz, hw⟩ := hrel
    obtain rfl := hw.symm
    have HZ := kide hz
    by_cases hlt : k < n
    · obtain ⟨-, -, h | ⟨b, o, rfl, hc⟩⟩ := hr
      · have := HN.out; rw [h] at this; simp at this; omega
      obtain ⟨y, gy⟩ : ∃ y, ks[k]? = some y := ⟨ks[k]'(by rw [HN.out]; exact hlt), List.getElem?_eq_getElem _⟩
      have p0 := hc k (by rw [HN.out]; exact hlt)
      rw [show ks.getD k 0 = y by rw [List.getD_eq_getElem?_getD, gy]; rfl] at p0
      have HG := kide gy
      have i0 : (k : Int) < (n : Int) := by omega
      have HKL := kide hlt
      clear hc hz gy hk hlt hw
      by_cases hxy : x = y
      · have e1 : (x == y) = true := by simp [hxy]
        have HM : Hid (V = true) := HV.out.symm.trans (decide_eq_true (by rw [hxy]; exact List.mem_of_getElem? HG.out))
        clear hxy
        go_wp2_with fail
        go_ret
        exact ⟨_, rfl, by rw [HM.out]; exact decide_eq_true (by omega), rfl⟩
      · have e1 : (x == y) = false := by simp [hxy]
        have HX := kide hxy
        clear hxy
        go_wp2_with fail
        have t9 : wrap64 ((k : Int) + 1) = ((k + 1 : Nat) : Int) := by
          have := HKL.out
          have := HL.out
          unfold wrap64
          omega
        rw [t9]
        clear t9
        go_roundw
        case rel =>
          refine ⟨k + 1, HKL.out, rfl, fun j z hj hz => ?_, by first | rfl | trivial⟩
          by_cases hjk : j = k
          · subst hjk
            rw [HG.out] at hz
            cases hz
            exact fun e => HX.out e.symm
          · exact HZ.out j z (by omega) hz
        case measure => have := HKL.out; simp only [intOf, Int.toNat_natCast]; omega
    · have i0 : ¬ (k : Int) < (n : Int) := by omega
      have HM : Hid (V = false) := HV.out.symm.trans (decide_eq_false (fun hm => by
        obtain ⟨j, hj⟩ := List.getElem?_of_mem hm
        have := (List.getElem?_eq_some_iff.1 hj).1
        exact HZ.out j x (by have := HN.out; omega) hj rfl))
      clear hz hlt hk hw
      go_wp2_with fail
      go_ret
      exact ⟨-1, rfl, by rw [HM.out]; rfl, rfl⟩

set_option maxHeartbeats 1000000 in
theorem containsI_any (x : Int) (a : Option Addr) (c n : Nat) (ks : List Int) (w : World) (hr : RdI w a ks) (hn : ks.length = n) :
    Calls Tryz.prog 25 #[.slice a n c, .int .i64 x] w fun e w' => e = .returned (.bool (decide (x ∈ ks))) ∧ w' = w := by
  have HI := kide (indexI_any x a c n ks w hr hn)
  generalize decide (x ∈ ks) = Z at *
  clear hr hn
  go_enter Tryz.func25, Tryz.ntmps25
  go_wp2_with fail
  refine Calls.mono HI.out ?_
  rintro e w1 ⟨r, rfl, hr, hw⟩
  obtain rfl := hw.symm
  have HR := kide hr
  clear hr hw
  go_wp2_with fail
  go_ret
  exact ⟨ret_bool HR.out, rfl⟩

end Go.Proofs.YtkkboaiablfdbaaGreatDoor

/- append(nodes, list...). -/
namespace Go.Proofs.YtkkboaiablfdbaaGreatDoor
set_option linter.unusedVariables false
set_option linter.unusedSimpArgs false
open Go.RowKit

theorem tgc_one (l : List Tg) : ∀ u ∈ tgc l, u.oneCell' = true := by
  induction l with
  | nil => intro u hu; cases hu
  | cons x t ih =>
    intro u hu
    simp [tgc, tgv] at hu
    rcases hu with rfl | rfl | rfl | rfl | rfl | rfl | rfl | hu
    · rfl
    · rfl
    · rfl
    · rfl
    · rfl
    · rfl
    · rfl
    · exact ih u hu
theorem RdT.cells {w : World} {b o : Nat} {l : List Tg} (h : RdT w (some ⟨b, o, none⟩) l) : ∀ j u, (tgc l)[j]? = some u → w.cell? ((⟨b, o, none⟩ : Addr).add j) = some u := fun j u hj => by
  have hjl := (List.getElem?_eq_some_iff.1 hj).1
  rw [tgc_len] at hjl
  obtain ⟨x, hx⟩ : ∃ x, l[j / 7]? = some x := ⟨l[j / 7]'(by omega), List.getElem?_eq_getElem _⟩
  have e := tgc_get (j % 7) (Nat.mod_lt _ (by decide)) hx
  rw [show j / 7 * 7 + j % 7 = j by omega, hj] at e
  obtain ⟨-, h0 | ⟨b', o', eq, hc⟩⟩ := h
  · rw [h0] at hx; simp at hx
  · cases eq
    obtain ⟨⟨f0, f1, f2, f3, f4, f5, f6⟩, -⟩ := hc _ x hx
    rw [Addr.add_lit]
    have hj7 : o + j = o + j / 7 * 7 + j % 7 := by omega
    rw [hj7]
    have h7 : j % 7 < 7 := Nat.mod_lt _ (by decide)
    generalize j % 7 = r at *
    match r, h7, e with
    | 0, _, e => simp [tgv] at e; subst e; exact f0
    | 1, _, e => simp [tgv] at e; subst e; exact f1
    | 2, _, e => simp [tgv] at e; subst e; exact f2
    | 3, _, e => simp [tgv] at e; subst e; exact f3
    | 4, _, e => simp [tgv] at e; subst e; exact f4
    | 5, _, e => simp [tgv] at e; subst e; exact f5
    | 6, _, e => simp [tgv] at e; subst e; exact f6
    | r + 7, h, _ => omega
theorem OT.bel {w w' : World} {B : Nat} {v : Value} {l : List Tg} (h : OT w B v l) (hg : w.grownBy w' v.ownBlock) (hB : B ≤ w.heap.size) : Below B w w' :=
  ⟨hg.os, hg.tape, hg.output, hg.size, fun k hk => hg.block k (by omega) (fun e => by have := (h.lt e.symm).1; omega)⟩
/-- Nodes that can be read, be there none, appended to an owned row. -/
theorem wpList_appTs (w : World) {ops : Array Oper} {rest : List Oper} {o : Oper} {a : Act} {Q : Exit → Act → World → Prop} (hgd : o.guard = none) (s x : Operand)
    (ho : o.op = .call { callee := .builtin .append, args := #[s, x], argTypes := #[28, 28] })
    (B : Nat) (v : Value) (l ys : List Tg) (hs : a.eval s = v) (hown : OT w B v l) (g o' m c : Nat) (hx : a.eval x = .slice (some ⟨g, o', none⟩) m c) (hm : ys.length = m)
    (hr : RdT w (some ⟨g, o', none⟩) ys) (hl : l.length + m ≤ 1073741824) (hB : B ≤ w.heap.size)
    (h : ∀ v' w', OT w' B v' (l ++ ys) → w.grownBy w' v.ownBlock → wpList Tryz.prog ops Q rest (a.put o.dst v') w') : wpList Tryz.prog ops Q (o :: rest) a w := by
  obtain ⟨i0, hi, hz0, hz1, hz2⟩ := info_parts Tryz.infoTNode
  refine wpList_append_own w hgd s x 28 ho B 53 i0 _ 7 88 Tryz.underlying28 hi hz0 hz1 hz2 rfl (by decide) v l.length (tgc l) hs hown ⟨g, o', none⟩ m c (tgc ys) hx (by rw [tgc_len, hm]) hr.cells (tgc_one ys) (by unfold maxLen; omega) (by omega) hB ?_
  intro v' w' h1 h2 _
  refine h v' w' ?_ h2
  unfold OT
  rw [tgc_append, List.length_append, hm]
  exact h1


end Go.Proofs.YtkkboaiablfdbaaGreatDoor

/- What Replace answers; rightness of decls. -/
namespace Go.Proofs.YtkkboaiablfdbaaGreatDoor
set_option linter.unusedVariables false
set_option linter.unusedSimpArgs false
open Go.RowKit

def RetRp (w : World) (X : List Tc × Bool) (e : Ending) (w' : World) : Prop := ∃ v l, e = .returned (.tuple #[.agg #[v], .bool X.2]) ∧ Ts w' w.heap.size v l ∧ l.map Tg.ct = X.1 ∧ Below w.heap.size w w'

theorem wid_dcl {ds : List Dc} {ns : List Tc} (h : 0 ≤ widR ds ns) : dclR ds = true ∧ ¬ (widthsR ds ns).length = 0 := by
  have h0 : ¬ (widthsR ds ns).length = 0 := fun e => by unfold widR at h; rw [if_pos e] at h; omega
  refine ⟨?_, h0⟩
  unfold widthsR at h0
  split at h0
  · rename_i hc
    simp only [Bool.and_eq_true] at hc
    exact hc.1.1
  · simp at h0
theorem dcl_pos {ds : List Dc} (h : dclR ds = true) {d : Dc} (hd : d ∈ ds) : 1 ≤ d.2 := by
  have := (dclR_iff.1 h).2.1 d hd
  simp only [dcOk, wOk, Bool.and_eq_true, decide_eq_true_eq] at this
  omega

end Go.Proofs.YtkkboaiablfdbaaGreatDoor
