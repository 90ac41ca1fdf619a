/- Parts of flat forms, on the given side. -/
import Derived.Test.YtfanddpncipkkaaZFL
import Derived.Test.YtfanddpncipkkaaFNW
import Derived.Test.YtfanddpncipkkaaZFH
import Derived.Handy
namespace Go.Proofs.Ytfanddpncipkkaa
set_option linter.unusedVariables false
set_option linter.unusedSimpArgs false
open Go.RowKit

/-- The answer: a part. -/
def fptR (ds : List Dc) (fs : List Sc) (hi lo : Int) : List Sc × Bool := if flatR ds fs = true ∧ 0 ≤ lo ∧ lo ≤ hi ∧ hi < sumS fs then (formB (((formP fs).drop lo.toNat).take (hi.toNat + 1 - lo.toNat)), true) else ([], false)
theorem OS5.low {w : World} {B B' : Nat} {v : Value} {l : List Sg} (h : OS5 w B v l) (hB : B' ≤ B) : OS5 w B' v l := by
  obtain ⟨h1, h2⟩ := h
  refine ⟨h1, ?_⟩
  rcases h2 with h2 | ⟨g, cap, cur, rfl, hg, hh, r⟩
  · exact .inl h2
  · exact .inr ⟨g, cap, cur, rfl, by omega, hh, r⟩
/-- Segments as an answer. -/
def RetF (R : List Sc × Bool) (w : World) (e : Ending) (w' : World) : Prop := ∃ v l, e = .returned (.tuple #[v, .bool R.2]) ∧ l.map Sg.ct = R.1 ∧ Ss w' w.heap.size v l ∧ Below w.heap.size w w'

theorem formP_in {ds : List Dc} {fs : List Sc} (hd : dclR ds = true) (h : ∀ s ∈ fs, sgOk ds s = true) : ∀ p ∈ formP fs, (p.1 < 0 → 0 ≤ p.2 ∧ p.2 ≤ 1) ∧ (¬ p.1 < 0 → 0 ≤ p.2 ∧ p.2 ≤ 4096) := fun p hp => by
  obtain ⟨s, hs, hp⟩ := List.mem_flatMap.1 hp
  obtain ⟨k, hk, rfl⟩ := List.mem_map.1 hp
  have hk' := List.mem_range.1 hk
  have hb := sgOk_bounds hd (h s hs)
  unfold segP
  by_cases e : s.v < 0
  · rw [if_pos e]
    refine ⟨fun _ => ?_, fun h9 => absurd (by simp : ((-1 : Int), _).1 < 0) h9⟩
    simp only []
    cases tb s.ws k <;> simp
  · rw [if_neg e]
    refine ⟨fun h9 => absurd h9 e, fun _ => ?_⟩
    have e1 : s.v ≠ -1 := by omega
    obtain ⟨a, b, c, d, f⟩ := sgOk_vr (h s hs) e1
    have hw : (ds.getD s.v.toNat (.empty, 0)).2 ≤ 4096 := by
      have hl : s.v.toNat < ds.length := by omega
      have := dclR_wd hd (k := s.v.toNat) (List.getElem?_eq_getElem hl)
      simp [List.getD, hl]
      exact this.2
    simp only []
    omega

theorem rdp_slice {w : World} {g lo n m : Nat} {ps : List Ib} (h : RdP w (some ⟨g, 0, none⟩) ps) (hn : lo + n ≤ ps.length) : RdP w (some ⟨g, lo * 2, none⟩) ((ps.drop lo).take n) := by
  obtain ⟨h1, h2⟩ := h
  refine ⟨by simp; omega, ?_⟩
  rcases h2 with h2 | ⟨b, o, e, hc⟩
  · left; rw [h2]; simp
  · cases e
    right
    refine ⟨g, lo * 2, rfl, fun i p hp => ?_⟩
    have hi : i < n := by
      have := (List.getElem?_eq_some_iff.1 hp).1
      simp at this
      omega
    rw [List.getElem?_take, if_pos hi, List.getElem?_drop] at hp
    have := hc (lo + i) p hp
    rw [show 0 + (lo + i) * 2 = lo * 2 + i * 2 by omega] at this
    exact this

theorem rds_words {w : World} {a : Option Addr} {xs : List Sg} (h : RdS w a xs) : ∀ s ∈ xs.map Sg.ct, ∀ y ∈ s.ws, y < 18446744073709551616 := fun s hs => by
  obtain ⟨x, hx, rfl⟩ := List.mem_map.1 hs
  obtain ⟨i, hi⟩ := List.getElem?_of_mem hx
  rcases h.2 with h2 | ⟨b, o, -, hc⟩
  · rw [h2] at hi; simp at hi
  · exact (hc i x hi).2.1.2.1

set_option maxHeartbeats 1000000 in
set_option maxRecDepth 100000 in
theorem specPart_any (da fa : Option Addr) (dc fc nf : Nat) (ds : List Dc) (xs : List Sg) (hi lo : Int) (w : World) (hd : RdD w da ds) (hr : RdS w fa xs) (hnf : xs.length = nf) (hi1 : in64 hi) (lo1 : in64 lo) :
    Calls Try.prog 8 #[.slice da ds.length dc, .slice fa nf fc, .int .i64 hi, .int .i64 lo] w (RetF (fptR ds (xs.map Sg.ct) hi lo) w) := by
  have HFO := kide (specFlat_any fa da fc dc nf ds xs w hd hr hnf)
  have hwd := rds_words hr
  obtain ⟨R, hR⟩ : ∃ R, fptR ds (xs.map Sg.ct) hi lo = R := ⟨_, rfl⟩
  rw [hR]
  have HR := kide hR
  obtain ⟨nd, hnd⟩ : ∃ n, ds.length = n := ⟨_, rfl⟩
  rw [hnd] at HFO ⊢
  cases hF : flatR ds (xs.map Sg.ct) with
  | false =>
    rw [hF] at HFO
    obtain rfl : R = ([], false) := by rw [← hR]; unfold fptR; rw [if_neg]; simp [hF]
    clear hR hF
    go_enter Try.func8, Try.ntmps8
    go_wp2_with fail
    refine Calls.mono HFO.out ?_
    rintro e w2 ⟨rfl, hb2⟩
    have B2 := kide hb2
    clear hb2
    go_wp2_with fail
    exact bodyPost_ret (v := .tuple #[.slice (some ⟨w2.heap.size, 0, none⟩) 0 0, .bool false]) (by simp [results, Try.results8, go_sem]) rfl ⟨_, [], rfl, rfl, ⟨OS5.empty w2 _ B2.out.size, by simp⟩, B2.out.trans (((Below.refl _ _).alloc (Nat.le_refl _) _).mono B2.out.size)⟩
  | true =>
    rw [hF] at HFO
    have hF2 := hF
    rw [flatR_form] at hF2
    simp only [Bool.and_eq_true] at hF2
    obtain ⟨hall, hs1, hs2, hl2⟩ := formR_sum hF2.1 hF2.2
    have HL5 := kide (fun u (hu : Below w.heap.size w u) => l5Bits_any fa fc nf ds xs u (hr.later hu) hnf hF2.1 hF2.2)
    have hfl := formP_len (xs.map Sg.ct) (fun s hs => by have := (hall s hs).2.1; omega)
    have HIN := kide (formP_in hF2.1 (fun s hs => (hall s hs).1))
    have HNF := kide (formB_nf (Nf.of hF hwd))
    have HLE : Hid ((xs.map Sg.ct).length ≤ 2000) := hl2
    obtain ⟨PS, hPS⟩ : ∃ PS, formP (xs.map Sg.ct) = PS := ⟨_, rfl⟩
    rw [hPS] at HL5 hfl HIN HNF
    obtain ⟨N, hN⟩ : ∃ N, PS.length = N := ⟨_, rfl⟩
    rw [hN] at hfl
    have HPS := kide hPS
    have HN := kide hN
    have hN2 : N ≤ 4096 := by omega
    have HRV : Hid (R = if 0 ≤ lo ∧ lo ≤ hi ∧ hi < (N : Int) then (formB ((PS.drop lo.toNat).take (hi.toNat + 1 - lo.toNat)), true) else ([], false)) := by
      show _ = _
      rw [← hR]
      unfold fptR
      rw [hPS, hfl, hF]
      simp
    clear hR hF hF2 hall hs1 hs2 hl2 hPS hN hr hd HR hwd hfl
    have HI1 := kide hi1
    have LO1 := kide lo1
    unfold in64 at hi1 lo1
    go_enter Try.func8, Try.ntmps8
    go_wp2_with fail
    refine Calls.mono HFO.out ?_
    rintro e w2 ⟨rfl, hb2⟩
    have B2 := kide hb2
    clear hb2
    go_wp2_with fail
    refine Calls.mono (HL5.out w2 B2.out) ?_
    rintro e w3 ⟨v3, rfl, ho3, hb3⟩
    have B3 := kide (B2.out.trans (hb3.mono B2.out.size))
    obtain ⟨a3, c3, rfl, hrp⟩ := ho3.rdp (by rw [HN.out]; omega)
    rw [HN.out] at ho3 ⊢
    by_cases hc : 0 ≤ lo ∧ lo ≤ hi ∧ hi < (N : Int)
    · obtain ⟨h1, h2, h3⟩ := hc
      obtain ⟨L, rfl⟩ : ∃ L : Nat, lo = (L : Int) := ⟨lo.toNat, by omega⟩
      obtain ⟨H, rfl⟩ : ∃ H : Nat, hi = (H : Int) := ⟨hi.toNat, by omega⟩
      rw [if_pos ⟨h1, h2, h3⟩] at HRV
      simp only [Int.toNat_natCast] at HRV
      obtain ⟨g, rfl⟩ : ∃ g, a3 = some ⟨g, 0, none⟩ := by
        rcases ho3.2 with ⟨e9, h9⟩ | ⟨g, cap, cur, e9, -⟩
        · have := HN.out; omega
        · cases e9; exact ⟨g, rfl⟩
      have hcap : N ≤ c3 := by
        rcases ho3.2 with ⟨e9, h9⟩ | ⟨g, cap, cur, e9, -, -, hc1, -⟩
        · cases e9
        · cases e9; rw [HN.out] at hc1; exact hc1
      have RP := kide (rdp_slice (lo := L) (n := H + 1 - L) (m := 0) hrp (by rw [HN.out]; omega))
      have HLF := kide (fun (pc : Nat) => l5Form_any (some ⟨g, L * 2, none⟩) pc (H + 1 - L) ((PS.drop L).take (H + 1 - L)) w3 RP.out (by simp [HN.out]; omega) (by omega) (fun p hp => by
        have h9 := HIN.out p (List.mem_of_mem_drop (List.mem_of_mem_take hp))
        exact ⟨h9.1, fun e => h9.2 (by omega)⟩))
      have HLN : Hid ((formB ((PS.drop L).take (H + 1 - L))).length ≤ 2000) := by
        have h9 := formB_part PS L (H + 1 - L)
        rw [HNF.out] at h9
        exact Nat.le_trans h9 HLE.out
      clear ho3 hrp hb3 HL5 HFO
      have hHw : IntKind.i64.wrap ((H : Int) + 1) = (H : Int) + 1 := by rw [IntKind.wrap_i64]; first | omega | (unfold wrap64; omega)
      have q1 : ¬ (L : Int) < 0 := by omega
      have q2 : ¬ (H : Int) < (L : Int) := by omega
      have q3 : ¬ (H : Int) ≥ (N : Int) := by omega
      obtain rfl := HRV.out
      go_wp2_with fail
      refine Calls.mono (HLF.out (c3 - L)) ?_
      rintro e w4 ⟨v4, l4, rfl, hm4, hs4, hb4⟩
      have hl4 : decide (l4.length ≤ 2000) = true := by
        have h9 := congrArg List.length hm4
        rw [List.length_map] at h9
        exact decide_eq_true (by rw [h9]; exact HLN.out)
      rw [hl4]
      have S4 : Hid (Ss w4 w.heap.size v4 l4) := ⟨hs4.1.low B3.out.size, fun x hx => (hs4.2 x hx).mono B3.out.size⟩
      have B4 := kide (B3.out.trans (hb4.mono B3.out.size))
      have M4 := kide hm4
      clear hs4 hb4 hm4 hl4
      go_wp2_with fail
      exact bodyPost_ret (v := .tuple #[v4, .bool true]) (by simp [results, Try.results8, go_sem]) rfl ⟨_, l4, rfl, M4.out, S4.out, B4.out⟩
    · rw [if_neg hc] at HRV
      obtain rfl := HRV.out
      clear ho3 hrp hb3 HL5 HFO
      by_cases q1 : lo < 0
      · go_wp2_with fail
        exact bodyPost_ret (v := .tuple #[.slice (some ⟨w3.heap.size, 0, none⟩) 0 0, .bool false]) (by simp [results, Try.results8, go_sem]) rfl ⟨_, [], rfl, rfl, ⟨OS5.empty w3 _ B3.out.size, by simp⟩, B3.out.trans (((Below.refl _ _).alloc (Nat.le_refl _) _).mono B3.out.size)⟩
      by_cases q2 : hi < lo
      · go_wp2_with fail
        exact bodyPost_ret (v := .tuple #[.slice (some ⟨w3.heap.size, 0, none⟩) 0 0, .bool false]) (by simp [results, Try.results8, go_sem]) rfl ⟨_, [], rfl, rfl, ⟨OS5.empty w3 _ B3.out.size, by simp⟩, B3.out.trans (((Below.refl _ _).alloc (Nat.le_refl _) _).mono B3.out.size)⟩
      have q3 : hi ≥ (N : Int) := by omega
      go_wp2_with fail
      exact bodyPost_ret (v := .tuple #[.slice (some ⟨w3.heap.size, 0, none⟩) 0 0, .bool false]) (by simp [results, Try.results8, go_sem]) rfl ⟨_, [], rfl, rfl, ⟨OS5.empty w3 _ B3.out.size, by simp⟩, B3.out.trans (((Below.refl _ _).alloc (Nat.le_refl _) _).mono B3.out.size)⟩

end Go.Proofs.Ytfanddpncipkkaa
