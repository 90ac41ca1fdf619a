/- Flat forms joined, on the given side. -/
import Derived.Test.YtfanddpncipkkaaFPB
import Derived.Handy
namespace Go.Proofs.Ytfanddpncipkkaa
set_option linter.unusedVariables false
set_option linter.unusedSimpArgs false
open Go.RowKit

/-- The answer: two forms joined. -/
def fjnR (ds : List Dc) (fh fl : List Sc) : List Sc × Bool := if flatR ds fh = true ∧ flatR ds fl = true ∧ sumS fh + sumS fl ≤ 4096 ∧ (formB (formP fl ++ formP fh)).length ≤ 2000 then (formB (formP fl ++ formP fh), true) else ([], false)

theorem ibc_ints : ∀ (l : List (Int × Int)) (u : Value), u ∈ ibc l → ∃ x : Int, u = .int .i64 x
  | [], u, h => by simp [ibc] at h
  | p :: t, u, h => by
    simp [ibc] at h
    rcases h with rfl | rfl | h
    · exact ⟨_, rfl⟩
    · exact ⟨_, rfl⟩
    · exact ibc_ints t u h
/-- 'append(list, more...)' in a row of operations. -/
theorem wpList_appL5s {w : World} {ops : Array Oper} {rest : List Oper} {o : Oper} {a : Act} {Q : Exit → Act → World → Prop} (hgd : o.guard = none) (s x : Operand)
    (ho : o.op = .call { callee := .builtin .append, args := #[s, x], argTypes := #[56, 56] })
    (B B' : Nat) (v : Value) (l m : List (Int × Int)) (hs : a.eval s = v) (hown : OL5 w B v l) (gx k c : Nat) (hx : a.eval x = .slice (some ⟨gx, 0, none⟩) k c) (hk : m.length = k) (hk0 : 0 < k)
    (hm : OL5 w B' (.slice (some ⟨gx, 0, none⟩) k c) m) (hl : l.length + m.length ≤ 1073741824) (hB : B ≤ w.heap.size)
    (h : ∀ g cap w', OL5 w' B (.slice (some ⟨g, 0, none⟩) (l.length + k) cap) (l ++ m) → w.grownBy w' v.ownBlock → wpList Try.prog ops Q rest (a.put o.dst (.slice (some ⟨g, 0, none⟩) (l.length + k) cap)) w') : wpList Try.prog ops Q (o :: rest) a w := by
  obtain ⟨i0, hi, hz0, hz1, hz2⟩ := info_parts Try.infoL5
  refine wpList_append_lies w hgd s x 56 ho B 86 i0 _ 2 16 Try.underlying56 hi hz0 hz1 hz2 rfl (by decide) v l.length (ibc l) hs hown ⟨gx, 0, none⟩ k c (ibc m) hx (by rw [ibc_len, hk]) ?_ ?_ hk0 ?_ ?_ hB _ rfl ?_
  · intro j u hj
    exact World.ownsRow.cells hm (g := gx) rfl j u hj
  · intro u hu
    obtain ⟨z, rfl⟩ := ibc_ints m u hu
    rfl
  · unfold maxLen; omega
  · omega
  · intro g cap w' h1 h2 _ _
    refine h g cap w' ?_ h2
    unfold OL5
    rw [ibc_append, List.length_append, hk]
    exact h1

set_option maxHeartbeats 1000000 in
set_option maxRecDepth 100000 in
theorem specJoin_any (da ha la : Option Addr) (dc hc nh lc nl : Nat) (ds : List Dc) (hs ls : List Sg) (w : World) (hd : RdD w da ds) (hr : RdS w ha hs) (hnh : hs.length = nh) (lr : RdS w la ls) (hnl : ls.length = nl) :
    Calls Try.prog 17 #[.slice da ds.length dc, .slice ha nh hc, .slice la nl lc] w (RetF (fjnR ds (hs.map Sg.ct) (ls.map Sg.ct)) w) := by
  have HFH := kide (specFlat_any ha da hc dc nh ds hs w hd hr hnh)
  have HFL := kide (fun u (hu : Below w.heap.size w u) => specFlat_any la da lc dc nl ds ls u (hd.later hu) (lr.later hu) hnl)
  have hwh := rds_words hr
  have hwl := rds_words lr
  obtain ⟨R, hR⟩ : ∃ R, fjnR ds (hs.map Sg.ct) (ls.map Sg.ct) = R := ⟨_, rfl⟩
  rw [hR]
  have HR := kide hR
  obtain ⟨nd, hnd⟩ : ∃ n, ds.length = n := ⟨_, rfl⟩
  rw [hnd] at HFH HFL ⊢
  cases hF : flatR ds (hs.map Sg.ct) with
  | false =>
    rw [hF] at HFH
    obtain rfl : R = ([], false) := by rw [← hR]; unfold fjnR; rw [if_neg]; simp [hF]
    clear hR hF
    go_enter Try.func17, Try.ntmps17
    go_wp2_with fail
    refine Calls.mono HFH.out ?_
    rintro e w2 ⟨rfl, hb2⟩
    have B2 := kide hb2
    clear hb2
    go_wp2_with fail
    exact bodyPost_ret (v := .tuple #[.slice (some ⟨w2.heap.size, 0, none⟩) 0 0, .bool false]) (by simp [results, Try.results17, go_sem]) rfl ⟨_, [], rfl, rfl, ⟨OS5.empty w2 _ B2.out.size, by simp⟩, B2.out.trans (((Below.refl _ _).alloc (Nat.le_refl _) _).mono B2.out.size)⟩
  | true =>
    rw [hF] at HFH
    cases hG : flatR ds (ls.map Sg.ct) with
    | false =>
      rw [hG] at HFL
      obtain rfl : R = ([], false) := by rw [← hR]; unfold fjnR; rw [if_neg]; simp [hG]
      clear hR hF hG
      go_enter Try.func17, Try.ntmps17
      go_wp2_with fail
      refine Calls.mono HFH.out ?_
      rintro e w2 ⟨rfl, hb2⟩
      have B2 := kide hb2
      clear hb2
      go_wp2_with fail
      refine Calls.mono (HFL.out w2 B2.out) ?_
      rintro e w3 ⟨rfl, hb3⟩
      have B3 := kide (B2.out.trans (hb3.mono B2.out.size))
      clear hb3
      go_wp2_with fail
      exact bodyPost_ret (v := .tuple #[.slice (some ⟨w3.heap.size, 0, none⟩) 0 0, .bool false]) (by simp [results, Try.results17, go_sem]) rfl ⟨_, [], rfl, rfl, ⟨OS5.empty w3 _ B3.out.size, by simp⟩, B3.out.trans (((Below.refl _ _).alloc (Nat.le_refl _) _).mono B3.out.size)⟩
    | true =>
      rw [hG] at HFL
      have hF2 := hF
      have hG2 := hG
      rw [flatR_form] at hF2 hG2
      simp only [Bool.and_eq_true] at hF2 hG2
      obtain ⟨hall, hs1, hs2, hl2⟩ := formR_sum hF2.1 hF2.2
      obtain ⟨gall, gs1, gs2, gl2⟩ := formR_sum hG2.1 hG2.2
      have HLH := kide (fun u (hu : Below w.heap.size w u) => l5Bits_any ha hc nh ds hs u (hr.later hu) hnh hF2.1 hF2.2)
      have HLL := kide (fun u (hu : Below w.heap.size w u) => l5Bits_any la lc nl ds ls u (lr.later hu) hnl hG2.1 hG2.2)
      have hfl := formP_len (hs.map Sg.ct) (fun s hs => by have := (hall s hs).2.1; omega)
      have gfl := formP_len (ls.map Sg.ct) (fun s hs => by have := (gall s hs).2.1; omega)
      have hin := formP_in hF2.1 (fun s hs => (hall s hs).1)
      have gin := formP_in hG2.1 (fun s hs => (gall s hs).1)
      obtain ⟨PH, hPH⟩ : ∃ PS, formP (hs.map Sg.ct) = PS := ⟨_, rfl⟩
      obtain ⟨PL, hPL⟩ : ∃ PS, formP (ls.map Sg.ct) = PS := ⟨_, rfl⟩
      rw [hPH] at HLH hfl hin
      rw [hPL] at HLL gfl gin
      obtain ⟨NH, hNH⟩ : ∃ N, PH.length = N := ⟨_, rfl⟩
      obtain ⟨NL, hNL⟩ : ∃ N, PL.length = N := ⟨_, rfl⟩
      have HIN : Hid (∀ p ∈ PL ++ PH, (p.1 < 0 → 0 ≤ p.2 ∧ p.2 ≤ 1) ∧ (¬ p.1 < 0 → 0 ≤ p.2 ∧ p.2 ≤ 4096)) := fun p hp => by
        rcases List.mem_append.1 hp with hp | hp
        · exact gin p hp
        · exact hin p hp
      have HNH := kide hNH
      have HNL := kide hNL
      rw [hNH] at hfl
      rw [hNL] at gfl
      have hNH2 : NH ≤ 4096 ∧ 1 ≤ NH := by omega
      have hNL2 : NL ≤ 4096 ∧ 1 ≤ NL := by omega
      have HRV : Hid (R = if NL + NH ≤ 4096 ∧ (formB (PL ++ PH)).length ≤ 2000 then (formB (PL ++ PH), true) else ([], false)) := by
        show _ = _
        rw [← hR]
        unfold fjnR
        rw [hPH, hPL, hF, hG]
        have e : (sumS (hs.map Sg.ct) + sumS (ls.map Sg.ct) ≤ 4096) ↔ (NL + NH ≤ 4096) := by omega
        simp only [true_and, e]
      clear hR hF hG hF2 hG2 hall gall hs1 hs2 hl2 gs1 gs2 gl2 hPH hPL hNH hNL hr hd lr HR hwh hwl hfl gfl hin gin
      go_enter Try.func17, Try.ntmps17
      go_wp2_with fail
      refine Calls.mono HFH.out ?_
      rintro e w2 ⟨rfl, hb2⟩
      have B2 := kide hb2
      clear hb2
      go_wp2_with fail
      refine Calls.mono (HFL.out w2 B2.out) ?_
      rintro e w3 ⟨rfl, hb3⟩
      have B3 := kide (B2.out.trans (hb3.mono B2.out.size))
      clear hb3
      go_wp2_with fail
      refine Calls.mono (HLL.out w3 B3.out) ?_
      rintro e w4 ⟨v4, rfl, ho4, hb4⟩
      have B4 := kide (B3.out.trans (hb4.mono B3.out.size))
      have O4 := kide ho4
      have Z4 : Hid (w3.heap.size ≤ w4.heap.size) := hb4.size
      clear ho4 hb4
      go_wp2_with fail
      refine Calls.mono (HLH.out w4 B4.out) ?_
      rintro e w5 ⟨v5, rfl, ho5, hb5⟩
      have B5 := kide (B4.out.trans (hb5.mono B4.out.size))
      have O45 := kide (O4.out.later hb5)
      obtain ⟨a5, c5, rfl⟩ := ho5.form
      obtain ⟨g5, rfl⟩ : ∃ g, a5 = some ⟨g, 0, none⟩ := by
        rcases ho5.2 with ⟨e9, h9⟩ | ⟨g, cap, cur, e9, -⟩
        · have := HNH.out; omega
        · cases e9; exact ⟨g, rfl⟩
      rw [HNH.out] at ho5 ⊢
      have O5 := kide ho5
      have hz5 : w3.heap.size ≤ w5.heap.size := Nat.le_trans Z4.out hb5.size
      have hll : PL.length + PH.length ≤ 1073741824 := by rw [HNL.out, HNH.out]; omega
      have hNHp : 0 < NH := by omega
      clear ho5 hb5
      go_wp2_with (refine wpList_appL5s rfl _ _ rfl w3.heap.size w4.heap.size _ PL PH rfl O45.out _ NH _ rfl HNH.out hNHp O5.out hll hz5 ?_)
      intro g6 c6 w6 ho6 hg6
      rw [HNL.out] at ho6 ⊢
      have hb6 : Below w.heap.size w w6 := B5.out.trans ⟨hg6.os, hg6.tape, hg6.output, hg6.size, fun j hj => hg6.block j (Nat.lt_of_lt_of_le hj B5.out.size) (fun e => by
        have h8 := (O45.out.lt e.symm).1
        have := B3.out.size
        omega)⟩
      have B6 := kide hb6
      obtain ⟨a7, c7, e7, hrp⟩ := ho6.rdp (by rw [List.length_append, HNL.out, HNH.out]; omega)
      have hap : (PL ++ PH).length = NL + NH := by rw [List.length_append, HNL.out, HNH.out]
      rw [hap] at e7
      cases e7
      have RP := kide hrp
      have hcast : ((NL + NH : Nat) : Int) = (NL : Int) + (NH : Int) := by omega
      clear ho6 hg6 hb6 hrp O45 O5 O4
      by_cases hle : NL + NH ≤ 4096
      · have q1 : ¬ ((NL + NH : Nat) : Int) > 4096 := by omega
        have HLF := kide (l5Form_any (some ⟨g6, 0, none⟩) c6 (NL + NH) (PL ++ PH) w6 RP.out (by rw [List.length_append, HNL.out, HNH.out]) (by omega) (fun p hp => by
          have h9 := HIN.out p hp
          exact ⟨h9.1, fun e => h9.2 (by omega)⟩))
        go_wp2_with fail
        refine Calls.mono HLF.out ?_
        rintro e w7 ⟨v7, l7, rfl, hm7, hs7, hb7⟩
        have B7 := kide (B6.out.trans (hb7.mono B6.out.size))
        have hl7 : l7.length = (formB (PL ++ PH)).length := by rw [← hm7, List.length_map]
        by_cases hlen : l7.length ≤ 2000
        · have hd : decide (l7.length ≤ 2000) = true := decide_eq_true hlen
          rw [hd]
          have S7 : Hid (Ss w7 w.heap.size v7 l7) := ⟨hs7.1.low B6.out.size, fun x hx => (hs7.2 x hx).mono B6.out.size⟩
          have M7 := kide hm7
          have hRR := HRV.out
          rw [if_pos ⟨hle, by rw [← hl7]; exact hlen⟩] at hRR
          subst hRR
          clear hs7 hb7 hm7 hd
          go_wp2_with fail
          exact bodyPost_ret (v := .tuple #[v7, .bool true]) (by simp [results, Try.results17, go_sem]) rfl ⟨_, l7, rfl, M7.out, S7.out, B7.out⟩
        · have hd : decide (l7.length ≤ 2000) = false := decide_eq_false hlen
          rw [hd]
          have hRR := HRV.out
          rw [if_neg (fun h9 => hlen (by rw [hl7]; exact h9.2))] at hRR
          subst hRR
          clear hs7 hb7 hm7 hd
          go_wp2_with fail
          exact bodyPost_ret (v := .tuple #[.slice (some ⟨w7.heap.size, 0, none⟩) 0 0, .bool false]) (by simp [results, Try.results17, go_sem]) rfl ⟨_, [], rfl, rfl, ⟨OS5.empty w7 _ B7.out.size, by simp⟩, B7.out.trans (((Below.refl _ _).alloc (Nat.le_refl _) _).mono B7.out.size)⟩
      · have q1 : ((NL + NH : Nat) : Int) > 4096 := by omega
        have hRR := HRV.out
        rw [if_neg (fun h9 => hle h9.1)] at hRR
        subst hRR
        go_wp2_with fail
        exact bodyPost_ret (v := .tuple #[.slice (some ⟨w6.heap.size, 0, none⟩) 0 0, .bool false]) (by simp [results, Try.results17, go_sem]) rfl ⟨_, [], rfl, rfl, ⟨OS5.empty w6 _ B6.out.size, by simp⟩, B6.out.trans (((Below.refl _ _).alloc (Nat.le_refl _) _).mono B6.out.size)⟩
end Go.Proofs.Ytfanddpncipkkaa
