/- Touching: what the program's Touching answers. -/
import Derived.Test.YtheglnkndjheaaaGreatDoorTQC
import Derived.Test.YtheglnkndjheaaaGreatDoorZIE
namespace Go.Proofs.YtheglnkndjheaaaGreatDoor
set_option linter.unusedVariables false
set_option linter.unusedSimpArgs false
open Go.RowKit

/-- All nodes of literals, in turn. -/
def nodC (ls : List Lc) : List Tc := ls.flatMap fun l => l.ss ++ l.ts

theorem nodL_ct (xs : List Lg) : nodL xs = nodC (xs.map Lg.ct) := by
  unfold nodL nodC
  rw [List.flatMap_map]
  congr 1
  funext x
  simp [Lg.ct]

/-- The numbers in them, rising. -/
def risL (zs : List Int) : List Int := Go.Lib.compact (zs.mergeSort fun x y => decide (x ≤ y))

/-- Touching's answer. -/
def touR (ds : List Dc) (ls : List Lc) (ks : List Int) : List Int × Bool :=
  if litR ds ls = true then
    if (ls.filter fun l => decide (l.id ∈ ks)).map Lc.id = ks then (risL (varL (nodC (ls.filter fun l => decide (l.id ∈ ks)))), true) else ([], false)
  else ([], false)

theorem wid_len {ds : List Dc} {ns : List Tc} (h : 0 ≤ widR ds ns) : 0 < ns.length ∧ ns.length ≤ 400 := by
  unfold widR widthsR at h
  by_cases h1 : (dclR ds && decide (1 ≤ ns.length) && decide (ns.length ≤ 400)) = true
  · simp only [Bool.and_eq_true, decide_eq_true_eq] at h1
    omega
  · rw [if_neg h1] at h
    simp at h

theorem lit_len {ds : List Dc} {ls : List Lc} (h : litR ds ls = true) : ls.length ≤ 60 ∧ ∀ l ∈ ls, (0 < l.ss.length ∧ l.ss.length ≤ 400) ∧ 0 < l.ts.length ∧ l.ts.length ≤ 400 := by
  rw [litR_eq] at h
  simp only [idsR, Bool.and_eq_true, decide_eq_true_eq, List.all_eq_true] at h
  refine ⟨h.1.2.1, fun l hl => ?_⟩
  have hs := h.2 l hl
  simp only [sideR, Bool.and_eq_true, decide_eq_true_eq] at hs
  exact ⟨wid_len hs.1, wid_len (ds := ds) (by omega)⟩

theorem filter_ct (xs : List Lg) (ks : List Int) : (xs.map Lg.ct).filter (fun l => decide (l.id ∈ ks)) = (xs.filter fun x => decide (x.id ∈ ks)).map Lg.ct := by
  rw [List.filter_map]
  rfl

set_option maxHeartbeats 2000000 in
set_option maxRecDepth 100000 in
theorem implTou_any (a b ka : Option Addr) (c c2 n kc kn : Nat) (ds : List Dc) (xs : List Lg) (ks : List Int) (w : World) (hr : RdD w a ds) (hs : RdL w b xs) (hn : xs.length = n) (hk : RdI w ka ks) (hkn : ks.length = kn) (hG : GF w) :
    Calls Tryz.prog 20 #[.slice a ds.length c, .slice b n c2, .slice ka kn kc] w fun e w' => ∃ v, e = .returned (.tuple #[v, .bool (touR ds (xs.map Lg.ct) ks).2]) ∧ OW w' w.heap.size v (touR ds (xs.map Lg.ct) ks).1 ∧ Below w.heap.size w w' := by
  have hb0 : Below w.heap.size w (w.alloc (Obj.cells #[.slice ka kn kc] 40)) := (Below.refl _ _).alloc (Nat.le_refl _) _
  have B0 := kide hb0
  have S0 := kide (St.start w (.cells #[.slice ka kn kc] 40))
  have hmf : ∀ (fn : Fn) (first cap : Array Value) (u : World), (Instr.makeFunc fn first cap).run Tryz.prog u = .ok (.func fn first cap) u := fun _ _ _ _ => rfl
  have HLO := kide (fun u (hu : Below w.heap.size w u) => implLits_any a b c c2 n ds xs u (hr.later hu) (hs.later hu) hn (hG.later hu))
  have hn2 : n ≤ 1048576 := by rw [← hn]; exact hs.1
  have HS := kide hs
  have HN := kide hn
  have HK := kide hk
  have HKN := kide hkn
  obtain ⟨R, HR⟩ : ∃ R, Hid (touR ds (xs.map Lg.ct) ks = R) := ⟨_, kide rfl⟩
  rw [HR.out]
  cases hL : litR ds (xs.map Lg.ct) with
  | false =>
    have hR : R = ([], false) := by rw [← HR.out]; simp [touR, hL]
    rw [hR]
    rw [hL] at HLO
    clear hr hs hn hR hL hb0 hG hk hkn hn2
    go_enter Tryz.func20, Tryz.ntmps20
    go_wp2_with fail
    refine Calls.mono (HLO.out _ B0.out) ?_
    rintro e w1 ⟨rfl, hb1⟩
    have B1 := kide (B0.out.trans (hb1.mono B0.out.size))
    clear hb1
    go_wp2_with fail
    go_returns
    exact ⟨_, rfl, OW.nils _ _, B1.out⟩
  | true =>
    rw [hL] at HLO
    have HLL := kide (lit_len hL)
    have HFI := kide (fun (u : World) (hu : Below w.heap.size w u) (hc : St w (.cells #[.slice ka kn kc] 40) u) => filtered_any b c2 n w.heap.size xs (fun x => decide (x.id ∈ ks)) u (fun u2 x hu2 hx => by
      have hu3 := hu.trans (hu2.mono hu.size)
      have hc2 := (hc.next hu2).cell 0
      simp at hc2
      exact touF_any ka kc kn w.heap.size ks x u2 hc2 (hk.later hu3) hkn) (hs.later hu) hn)
    have HRR : Hid (R = if (xs.filter fun x => decide (x.id ∈ ks)).map Lg.id = ks then (risL (varL (nodL (xs.filter fun x => decide (x.id ∈ ks)))), true) else ([], false)) := by
      show _ = _
      rw [← HR.out, touR, if_pos hL, filter_ct, nodL_ct, List.map_map]
      rfl
    have hyl : (xs.filter fun x => decide (x.id ∈ ks)).length ≤ n := by rw [← hn]; exact List.length_filter_le _ xs
    have hym : Hid (∀ x ∈ xs.filter fun x => decide (x.id ∈ ks), x ∈ xs) := fun x hx => (List.mem_filter.1 hx).1
    have hn6 : n ≤ 60 := by have := HLL.out.1; rw [List.length_map, hn] at this; exact this
    generalize (xs.filter fun x => decide (x.id ∈ ks)) = ys at *
    have HYL := kide (And.intro hyl hn6)
    clear hr hs hn hL hb0 hG hk hkn hn2 HR hyl hn6
    go_enter Tryz.func20, Tryz.ntmps20
    go_wp2_with fail
    refine Calls.mono (HLO.out _ B0.out) ?_
    rintro e w2 ⟨rfl, hb2⟩
    have B2 := kide (B0.out.trans (hb2.mono B0.out.size))
    have S2 := kide (S0.out.next hb2)
    clear hb2 S0
    go_wp2_with fail
    refine Calls.mono (HFI.out w2 B2.out S2.out) ?_
    rintro e w3 ⟨v3, rfl, ho3, hb3⟩
    have B3 := kide (B2.out.trans (hb3.mono B2.out.size))
    have S3 := kide (S2.out.next hb3)
    have hin : Hid (∀ x ∈ ys, in64 x.id) := fun x hx => by
      obtain ⟨i, hi⟩ := List.getElem?_of_mem (hym.out x hx)
      obtain ⟨b3, o3, -, -, -, -, r⟩ := HS.out.at hi
      exact r
    obtain ⟨a3, c3, rfl, hr3⟩ := ho3.rd (by have := HYL.out; omega) (fun x hx => by
      obtain ⟨i, hi⟩ := List.getElem?_of_mem (hym.out x hx)
      obtain ⟨b3, o3, -, -, r⟩ := (HS.out.later B3.out).at hi
      exact r)
    have R3 := kide hr3
    have hyn : Hid (∃ yn, ys.length = yn) := ⟨_, rfl⟩
    obtain ⟨yn, YN⟩ := hyn.out
    rw [YN]
    have YN2 := kide YN
    have hbox : w3.cell? ⟨w.heap.size, 0, none⟩ = some (.slice ka kn kc) := by have := S3.out.cell 0; simpa using this
    have hlt : w.heap.size < w3.heap.size := S3.out.size
    have hil : (ys.map Lg.id).length = yn := by rw [List.length_map]; exact YN
    have hi6 : (ys.map Lg.id).length ≤ 1048576 := by have := HYL.out; rw [List.length_map]; omega
    have hi7 : ∀ z ∈ ys.map Lg.id, in64 z := fun z hz => by obtain ⟨x, hx, rfl⟩ := List.mem_map.1 hz; exact hin.out x hx
    have HID : Hid (∀ u, Below w3.heap.size w3 u → Calls Tryz.prog 34 #[.slice a3 yn c3] u fun e w' => ∃ a4 c4, e = .returned (.slice a4 yn c4) ∧ RdI w' a4 (ys.map Lg.id) ∧ Below w3.heap.size w3 w') := fun u hu => by
      refine Calls.mono (idsOf_any a3 c3 yn ys u (R3.out.later hu) YN) ?_
      rintro e w4 ⟨v4, rfl, ho4, hb4⟩
      obtain ⟨a4, c4, rfl, hr4⟩ := ho4.rd hi6 hi7
      exact ⟨a4, c4, by rw [hil], hr4, hu.trans (hb4.mono hu.size)⟩
    have HEQ : Hid (∀ u a4 c4, RdI u a4 (ys.map Lg.id) → Below w3.heap.size w3 u → Calls Tryz.prog 44 #[.slice a4 yn c4, .slice ka kn kc] u fun e w' => e = .returned (.bool (decide (ys.map Lg.id = ks))) ∧ Below u.heap.size u w') := fun u a4 c4 h4 hu =>
      equalI_any a4 ka c4 kc yn kn _ ks u h4 hil (HK.out.later (B3.out.trans (hu.mono B3.out.size))) HKN.out
    clear hb3 hr3 ho3 HFI YN hyn hil hi6 hi7 B0 HLO S2 S3 HK HKN hin B2
    have HYP : Hid (∀ x ∈ ys, (0 < x.ss.length ∧ x.ss.length ≤ 400) ∧ 0 < x.ts.length ∧ x.ts.length ≤ 400) := fun x hx => by
      have h1 := HLL.out.2 _ (List.mem_map_of_mem (hym.out x hx))
      simpa [Lg.ct] using h1
    clear HLL
    by_cases hV : ys.map Lg.id = ks
    · rw [if_pos hV] at HRR
      rw [decide_eq_true hV] at HEQ
      go_wp2_with fail
      go_region_with (first
        | (go_at_call 34; refine Calls.mono (HID.out _ (by first | exact Below.refl _ _ | exact (Below.refl _ _).drew | exact (Below.refl _ _).drew.drew | exact (Below.refl _ _).drew.drew.drew | exact (Below.refl _ _).drew.drew.drew.drew)) ?_; rintro e w4 ⟨a4, c4, rfl, hr4, hb4⟩; have R4 := kide hr4; have B4 := kide hb4; have k4 := (kcell hb4 _ _ hlt).trans hbox; clear hr4 hb4)
        | (go_at_call 44; refine Calls.mono (HEQ.out _ _ _ (R4.out.later (by first | exact Below.refl _ _ | exact (Below.refl _ _).drew | exact (Below.refl _ _).drew.drew | exact (Below.refl _ _).drew.drew.drew | exact (Below.refl _ _).drew.drew.drew.drew)) (B4.out.trans (Below.mono (by first | exact Below.refl _ _ | exact (Below.refl _ _).drew | exact (Below.refl _ _).drew.drew | exact (Below.refl _ _).drew.drew.drew | exact (Below.refl _ _).drew.drew.drew.drew) B4.out.size))) ?_; rintro e w5 ⟨rfl, hb5⟩; have B5 := kide (B4.out.trans (Below.mono (Below.trans (by first | exact Below.refl _ _ | exact (Below.refl _ _).drew | exact (Below.refl _ _).drew.drew | exact (Below.refl _ _).drew.drew.drew | exact (Below.refl _ _).drew.drew.drew.drew) hb5) B4.out.size)); clear hb5))
      all_goals (
        clear hV hbox hlt HID HEQ R4 B4 k4
        go_wp2_with fail
        refine Calls.mono (varsIn_any a3 c3 yn ys _ (R3.out.later B5.out) YN2.out (by have h1 := YN2.out; have h2 := HYL.out; omega) (HYP.out)) ?_
        rintro e w6 ⟨v6, rfl, ho6, hb6⟩
        have B6 := kide (B5.out.trans (hb6.mono B5.out.size))
        have O6 := kide (OW.mono ho6 (Nat.le_trans B3.out.size B5.out.size))
        clear ho6 hb6
        go_wp2_with fail
        go_returns
        rw [HRR.out]
        exact ⟨_, rfl, O6.out, B3.out.trans (B6.out.mono B3.out.size)⟩)
    · rw [if_neg hV] at HRR
      rw [decide_eq_false hV] at HEQ
      go_wp2_with fail
      go_region_with (first
        | (go_at_call 34; refine Calls.mono (HID.out _ (by first | exact Below.refl _ _ | exact (Below.refl _ _).drew | exact (Below.refl _ _).drew.drew | exact (Below.refl _ _).drew.drew.drew | exact (Below.refl _ _).drew.drew.drew.drew)) ?_; rintro e w4 ⟨a4, c4, rfl, hr4, hb4⟩; have R4 := kide hr4; have B4 := kide hb4; have k4 := (kcell hb4 _ _ hlt).trans hbox; clear hr4 hb4)
        | (go_at_call 44; refine Calls.mono (HEQ.out _ _ _ (R4.out.later (by first | exact Below.refl _ _ | exact (Below.refl _ _).drew | exact (Below.refl _ _).drew.drew | exact (Below.refl _ _).drew.drew.drew | exact (Below.refl _ _).drew.drew.drew.drew)) (B4.out.trans (Below.mono (by first | exact Below.refl _ _ | exact (Below.refl _ _).drew | exact (Below.refl _ _).drew.drew | exact (Below.refl _ _).drew.drew.drew | exact (Below.refl _ _).drew.drew.drew.drew) B4.out.size))) ?_; rintro e w5 ⟨rfl, hb5⟩; have B5 := kide (B4.out.trans (Below.mono (Below.trans (by first | exact Below.refl _ _ | exact (Below.refl _ _).drew | exact (Below.refl _ _).drew.drew | exact (Below.refl _ _).drew.drew.drew | exact (Below.refl _ _).drew.drew.drew.drew) hb5) B4.out.size)); clear hb5))
      all_goals (
        clear hV hbox hlt HID HEQ R4 B4 k4
        go_wp2_with fail
        go_returns
        rw [HRR.out]
        exact ⟨_, rfl, OW.nils _ _, B3.out.trans (B5.out.mono B3.out.size)⟩)

end Go.Proofs.YtheglnkndjheaaaGreatDoor
