/- Numbers that rise, apart from sides that are right; what the program's idsOk answers. -/
import Derived.Test.YthgamfklfjjdoaaDoorIE
import Derived.Handy
namespace Go.Proofs.YthgamfklfjjdoaaDoor
set_option linter.unusedVariables false
set_option linter.unusedSimpArgs false
open Go.RowKit

/-- Numbers that rise, above a last one. -/
def idR : Int → List Lc → Bool
  | _, [] => true
  | last, l :: t => decide (last < l.id ∧ l.id ≤ 1000000) && idR l.id t

def idsR (ls : List Lc) : Bool := decide (ls.length ≤ 60) && idR 0 ls

theorem goL_eq (ds : List Dc) (last : Int) (ls : List Lc) : goL ds last ls = (idR last ls && ls.all (sideR ds)) := by
  induction ls generalizing last with
  | nil => rfl
  | cons l t ih =>
    rw [goL, idR, List.all_cons, ih]
    cases decide (last < l.id ∧ l.id ≤ 1000000) <;> cases sideR ds l <;> cases idR l.id t <;> simp

theorem litR_eq (ds : List Dc) (ls : List Lc) : litR ds ls = (dclR ds && idsR ls && ls.all (sideR ds)) := by
  unfold litR idsR
  rw [goL_eq]
  cases dclR ds <;> cases decide (ls.length ≤ 60) <;> simp

theorem idR_step {last : Int} {ls : List Lc} {k : Nat} {l : Lc} (h : ls[k]? = some l) : idR last (ls.drop k) = (decide (last < l.id ∧ l.id ≤ 1000000) && idR l.id (ls.drop (k + 1))) := by
  obtain ⟨hk, rfl⟩ := List.getElem?_eq_some_iff.1 h
  rw [List.drop_eq_getElem_cons hk, idR]

theorem all_step {p : Lc → Bool} {ls : List Lc} {k : Nat} {l : Lc} (h : ls[k]? = some l) : (ls.drop k).all p = (p l && (ls.drop (k + 1)).all p) := by
  obtain ⟨hk, rfl⟩ := List.getElem?_eq_some_iff.1 h
  rw [List.drop_eq_getElem_cons hk, List.all_cons]

set_option maxHeartbeats 1000000 in
set_option maxRecDepth 100000 in
theorem idsOk_any (b : Option Addr) (c2 n : Nat) (xs : List Lg) (w : World) (hs : RdL w b xs) (hn : xs.length = n) :
    Calls Tryd.prog 25 #[.slice b n c2] w fun e w' => e = .returned (.bool (idsR (xs.map Lg.ct))) ∧ Below w.heap.size w w' := by
  have hl2 := hs.1
  rw [hn] at hl2
  have HRL := kide (fun u (hu : Below w.heap.size w u) => hs.later hu)
  have HN := kide hn
  by_cases h60 : n ≤ 60
  · generalize hZ : idsR (xs.map Lg.ct) = Z
    have HZ : Hid (idR 0 (xs.map Lg.ct) = Z) := by
      show _ = _
      rw [← hZ, idsR]
      simp [hn, h60]
    clear hZ hs hn
    go_enter Tryd.func25, Tryd.ntmps25
    go_wp2_with fail
    go_loopw [3, 11] (fun l i wr => ∃ (k : Nat) (last : Int), k ≤ n ∧ i = .int .i64 k ∧ l = .int .i64 last ∧ in64 last ∧ idR last ((xs.map Lg.ct).drop k) = Z ∧ Below w.heap.size w wr) (fun _ i _ => n - (intOf i).toNat)
    case atStart => exact ⟨0, 0, Nat.zero_le _, rfl, rfl, by unfold in64; omega, by rw [List.drop_zero]; exact HZ.out, Below.refl _ _⟩
    case round =>
      obtain ⟨k, last, hk, rfl, rfl, hin, hq, hbel⟩ := hrel
      have HB := kide hbel
      have HIN := kide hin
      by_cases hlt : k < n
      · obtain ⟨-, h | ⟨b1, o1, rfl, hc⟩⟩ := HRL.out wr hbel
        · have := HN.out; subst h; simp at this; omega
        obtain ⟨⟨id, q, ss, sa, sc, ts, ta, tc⟩, hx⟩ : ∃ x, xs[k]? = some x := ⟨_, List.getElem?_eq_getElem (by rw [HN.out]; exact hlt)⟩
        obtain ⟨⟨p0, p1, p2, p3⟩, pr, pr2, hid⟩ := hc k _ hx
        simp only [] at p0 p1 p2 p3 pr pr2 hid
        rw [idR_step (l := ⟨id, q, ss.map Tg.ct, ts.map Tg.ct⟩) (by rw [List.getElem?_map, hx]; rfl)] at hq
        simp only [] at hq
        have HQ := kide hq
        have hki : (k : Int) < (n : Int) := by omega
        have HA := kide (HB.out.alloc HB.out.size (.cells #[Value.int .i64 id, Value.bool q, Value.slice sa ss.length sc, Value.slice ta ts.length tc] 54))
        have HID := kide hid
        generalize ss.length = m1 at *
        generalize ts.length = m2 at *
        clear hc hx hq hbel pr pr2 hin hid
        by_cases h1 : id ≤ last
        · have HF : Hid (Z = false) := by
            show _ = _
            rw [← HQ.out, decide_eq_false (by omega)]
            rfl
          go_wp2_with fail
          go_ret
          exact ⟨ret_bool HF.out.symm, HA.out⟩
        by_cases h2 : 1000000 < id
        · have HF : Hid (Z = false) := by
            show _ = _
            rw [← HQ.out, decide_eq_false (by omega)]
            rfl
          go_wp2_with fail
          go_ret
          exact ⟨ret_bool HF.out.symm, HA.out⟩
        have hdt : decide (last < id ∧ id ≤ 1000000) = true := decide_eq_true (by omega)
        rw [hdt, Bool.true_and] at HQ
        clear hdt
        go_wp2_with fail
        go_roundw
        case rel => exact ⟨k + 1, id, by omega, by go_num, rfl, HID.out, HQ.out, HA.out⟩
        case measure => simp [intOf]; omega
      · have e : k = n := by omega
        rw [e, List.drop_of_length_le (by simp [HN.out]), idR] at hq
        have HQ := kide hq
        clear hq hin
        go_wp2_with fail
        go_ret
        exact ⟨ret_bool HQ.out, HB.out⟩
  · have hR : idsR (xs.map Lg.ct) = false := by simp [idsR, hn]; omega
    rw [hR]
    clear hR hs hn
    have h61 : (60 : Int) < (n : Int) := by omega
    go_enter Tryd.func25, Tryd.ntmps25
    go_wp2_with fail
    go_ret
    exact ⟨rfl, Below.refl _ _⟩

end Go.Proofs.YthgamfklfjjdoaaDoor
