/- Touching: what the given Touching answers. -/
import Derived.Test.YtheglnkndjheaaaGreatDoorTQI
import Derived.Test.YtheglnkndjheaaaGreatDoorIG
namespace Go.Proofs.YtheglnkndjheaaaGreatDoor
set_option linter.unusedVariables false
set_option linter.unusedSimpArgs false
open Go.RowKit

theorem lvR_len (ds : List Dc) (l : Lc) : (lvR ds l).length ≤ 120 ∧ ∀ x ∈ lvR ds l, in64 x := by
  unfold lvR
  have h1 := varsR_len ds l.ss
  have h2 := varsR_len ds l.ts
  have h3 := risI_len (varsR ds l.ss ++ varsR ds l.ts) []
  rw [List.length_append] at h3
  refine ⟨by have := h1.1; have := h2.1; simp only [List.length_nil] at h3; omega, fun x hx => ?_⟩
  rw [risI_mem, List.mem_append] at hx
  rcases hx with hx | hx | hx
  · simp at hx
  · exact h1.2 x hx
  · exact h2.2 x hx

theorem gvL_len (ds : List Dc) : ∀ ls : List Lc, (gvL ds ls).length ≤ ls.length * 120
  | [] => by simp [gvL]
  | l :: t => by
    have := gvL_len ds t
    have := (lvR_len ds l).1
    have e : gvL ds (l :: t) = lvR ds l ++ gvL ds t := rfl
    rw [e, List.length_append, List.length_cons]
    omega

theorem gvL_in (ds : List Dc) (ls : List Lc) : ∀ x ∈ gvL ds ls, in64 x := fun x hx => by
  obtain ⟨l, -, h⟩ := List.mem_flatMap.1 hx
  exact (lvR_len ds l).2 x h

theorem gvL_take {ds : List Dc} {ls : List Lg} {k : Nat} {x : Lg} (h : ls[k]? = some x) : gvL ds ((ls.take (k + 1)).map Lg.ct) = gvL ds ((ls.take k).map Lg.ct) ++ lvR ds x.ct := by
  unfold gvL
  rw [List.take_add_one, h]
  simp

theorem smL_mem {xs : List Lg} {ks : List Int} {x : Lg} (h : x ∈ smL xs ks) : x ∈ xs := by
  obtain ⟨z, -, h⟩ := List.mem_flatMap.1 h
  exact (List.mem_filter.1 h).1

set_option maxHeartbeats 2000000 in
set_option maxRecDepth 100000 in
theorem specTou_any (a b ka : Option Addr) (c c2 n kc kn : Nat) (ds : List Dc) (xs : List Lg) (ks : List Int) (w : World) (hr : RdD w a ds) (hs : RdL w b xs) (hn : xs.length = n) (hk : RdI w ka ks) (hkn : ks.length = kn) :
    Calls Tryz.prog 18 #[.slice a ds.length c, .slice b n c2, .slice ka kn kc] w fun e w' => ∃ v, e = .returned (.tuple #[v, .bool (touG ds (xs.map Lg.ct) ks).2]) ∧ OW w' w.heap.size v (touG ds (xs.map Lg.ct) ks).1 ∧ Below w.heap.size w w' := by
  have HLO := kide (fun u (hu : Below w.heap.size w u) => specLits_any a b c c2 n ds xs u (hr.later hu) (hs.later hu) hn)
  have HR0 := kide hr
  have HS := kide hs
  have HN := kide hn
  have HK := kide hk
  have HKN := kide hkn
  obtain ⟨R, HR⟩ : ∃ R, Hid (touG ds (xs.map Lg.ct) ks = R) := ⟨_, kide rfl⟩
  rw [HR.out]
  obtain ⟨dn, hdn⟩ : ∃ dn, ds.length = dn := ⟨_, rfl⟩
  rw [hdn] at HLO ⊢
  have HDN := kide hdn
  cases hL : litR ds (xs.map Lg.ct) with
  | false =>
    have hR : R = ([], false) := by rw [← HR.out]; simp [touG, hL]
    rw [hR]
    rw [hL] at HLO
    clear hr hs hn hR hL hk hkn hdn
    go_enter Tryz.func18, Tryz.ntmps18
    go_wp2_with fail
    refine Calls.mono (HLO.out _ (Below.refl _ _)) ?_
    rintro e w1 ⟨rfl, hb1⟩
    have B1 := kide hb1
    clear hb1
    go_wp2_with fail
    go_returns
    exact ⟨_, rfl, OW.fresh _ _ B1.out.size, B1.out.alloc B1.out.size _⟩
  | true =>
    rw [hL] at HLO
    have hn6 : n ≤ 60 := by have := (lit_len hL).1; rw [List.length_map, hn] at this; exact this
    have HSO := kide (fun u (hu : Below w.heap.size w u) => l17Some_any b ka c2 n kc kn xs ks u (hs.later hu) hn hn6 (hk.later hu) hkn)
    cases hV : smB (xs.map Lg.ct) ks with
    | false =>
      have hR : R = ([], false) := by rw [← HR.out]; simp [touG, hL, hV]
      rw [hR]
      rw [hV] at HSO
      clear hr hs hn hR hL hk hkn hdn hV hn6
      go_enter Tryz.func18, Tryz.ntmps18
      go_wp2_with fail
      refine Calls.mono (HLO.out _ (Below.refl _ _)) ?_
      rintro e w1 ⟨rfl, hb1⟩
      have B1 := kide hb1
      clear hb1
      go_wp2_with fail
      refine Calls.mono (HSO.out _ B1.out) ?_
      rintro e w2 ⟨v2, rfl, -, hb2⟩
      have B2 := kide (B1.out.trans (hb2.mono B1.out.size))
      clear hb2
      go_wp2_with fail
      go_returns
      exact ⟨_, rfl, OW.fresh _ _ B2.out.size, B2.out.alloc B2.out.size _⟩
    | true =>
      have hR : R = (risI [] (gvL ds ((smL xs ks).map Lg.ct)), true) := by rw [← HR.out, smL_ct]; simp [touG, hL, hV]
      rw [hR]
      rw [hV] at HSO
      have hsl : Hid ((smL xs ks).length ≤ 60) := by
        show _ ≤ _
        rw [smL_len]
        have h1 := (sm_some (lit_ris hL) hV).1
        rw [h1]
        refine Nat.le_trans (List.length_filter_le _ _) ?_
        rw [List.length_map, hn]
        exact hn6
      have hsm : Hid (∀ x ∈ smL xs ks, x ∈ xs) := fun x hx => smL_mem hx
      generalize smL xs ks = ys at *
      clear hr hs hn hR hL hk hkn hdn hV hn6
      go_enter Tryz.func18, Tryz.ntmps18
      go_wp2_with fail
      refine Calls.mono (HLO.out _ (Below.refl _ _)) ?_
      rintro e w1 ⟨rfl, hb1⟩
      have B1 := kide hb1
      clear hb1
      go_wp2_with fail
      refine Calls.mono (HSO.out _ B1.out) ?_
      rintro e w2 ⟨v2, rfl, ho2, hb2⟩
      have B2 := kide (B1.out.trans (hb2.mono B1.out.size))
      obtain ⟨a2, c2', rfl, hr2⟩ := (ho2 trivial).rd (Nat.le_trans hsl.out (by decide)) (fun x hx => by
        obtain ⟨i, hi⟩ := List.getElem?_of_mem (hsm.out x hx)
        obtain ⟨b3, o3, -, -, r⟩ := (HS.out.later B2.out).at hi
        exact r)
      have R2 := kide hr2
      clear hb2 ho2 hr2 HSO HLO B1
      obtain ⟨m, hm⟩ : ∃ m, ys.length = m := ⟨_, rfl⟩
      rw [hm]
      have HM := kide hm
      have HM6 : Hid (m ≤ 60) := by show _ ≤ _; rw [← hm]; exact hsl.out
      clear hm hsl hsm
      have E0 := kide (OW.fresh w2 w2.heap.size (Nat.le_refl _))
      have X0 := kide ((Below.refl w2.heap.size w2).alloc (Nat.le_refl _) (.cells #[] 2))
      go_wp2_with fail
      go_loopw [10, 11] (fun o q wr => ∃ i : Nat, i ≤ m ∧ q = .int .i64 (i : Int) ∧ OW wr w2.heap.size o (gvL ds ((ys.take i).map Lg.ct)) ∧ Below w2.heap.size w2 wr) (fun _ q _ => m - (intOf q).toNat)
      case atStart => exact ⟨0, Nat.zero_le _, rfl, E0.out, X0.out⟩
      case round =>
        obtain ⟨i, hi, rfl, how, hb⟩ := hrel
        have HO := kide how
        have HB := kide hb
        clear E0 X0 how
        by_cases hlt : i < m
        · have i0 : (i : Int) < (m : Int) := by omega
          obtain ⟨x, gx⟩ : ∃ x, ys[i]? = some x := ⟨ys[i]'(by rw [HM.out]; exact hlt), List.getElem?_eq_getElem _⟩
          obtain ⟨b3, o3, rfl, ⟨p2, p3, p4, p5⟩, hrs, hrt, -⟩ := (R2.out.later hb).at gx
          have HX := kide (gvL_take (ds := ds) gx)
          have GX := kide gx
          clear gx
          obtain ⟨L, hLL⟩ : ∃ L, gvL ds ((ys.take i).map Lg.ct) = L := ⟨_, rfl⟩
          rw [hLL] at HO HX
          have HLn : Hid (L.length ≤ 7200) := by
            show _ ≤ _
            rw [← hLL]
            have h1 := gvL_len ds ((ys.take i).map Lg.ct)
            rw [List.length_map] at h1
            have h2 := List.length_take_le i ys
            have h3 := HM6.out
            omega
          clear hLL
          have HV := kide (l17Vars_any a c dn ds x.id x.eq x.sa x.ta x.ss.length x.sc x.ts.length x.tc x.ss x.ts wr (HR0.out.later (B2.out.trans (hb.mono B2.out.size))) HDN.out hrs hrt rfl rfl)
          have HLV := kide (lvR_len ds x.ct)
          obtain ⟨V, hV⟩ : ∃ V, lvR ds x.ct = V := ⟨_, rfl⟩
          rw [hV] at HX HLV
          have hV' : risI [] (varsR ds (x.ss.map Tg.ct) ++ varsR ds (x.ts.map Tg.ct)) = V := hV
          rw [hV'] at HV
          clear hV hV' hrs hrt
          go_wp2_with fail
          refine Calls.mono HV.out ?_
          rintro e w4 ⟨v4, rfl, ho4, hb4⟩
          have B4 := kide (HB.out.trans (hb4.mono HB.out.size))
          have O4 := kide (HO.out.later hb4)
          obtain ⟨a4, c4, rfl, hr4, hz4⟩ := ho4.rd0 (Nat.le_trans HLV.out.1 (by decide)) HLV.out.2
          have R4 := kide hr4
          have Z4 := kide hz4
          have S4 := kide B4.out.size
          clear p2 p3 p4 p5 ho4 hb4 hr4 hz4 HB HO hb
          go_wp2_with (at_builtin; refine wpList_appIr _ rfl _ _ rfl w2.heap.size _ L V rfl O4.out a4 c4 rfl Z4.out R4.out (by have h1 := HLn.out; have h2 := HLV.out.1; omega) S4.out ?_)
          intro v5 w5 ho5 hg5
          have B5 := kide (Below.grown B4.out hg5 S4.out (fun j hj => (O4.out.lt hj).1))
          have O5 : Hid (OW w5 w2.heap.size v5 (gvL ds ((ys.take (i + 1)).map Lg.ct))) := by
            show OW _ _ _ _
            rw [HX.out]
            exact ho5
          clear ho5 hg5
          go_wp2_with fail
          have hb6 := HM6.out
          have e1 : wrap64 ((i : Int) + 1) = ((i + 1 : Nat) : Int) := by unfold wrap64; omega
          try rw [e1]
          go_roundw
          case rel => exact ⟨i + 1, by omega, by first | rfl | go_num, O5.out, B5.out⟩
          case measure => simp only [intOf, Int.toNat_natCast]; omega
        · have hfin : ys.take i = ys := List.take_of_length_le (by rw [HM.out]; omega)
          rw [hfin] at HO
          have hl := gvL_len ds (ys.map Lg.ct)
          rw [List.length_map, HM.out] at hl
          have hl6 := HM6.out
          obtain ⟨a9, c9, rfl, hr9⟩ := HO.out.rd (by omega) (gvL_in ds _)
          obtain ⟨L, hLL⟩ : ∃ L, gvL ds (ys.map Lg.ct) = L := ⟨_, rfl⟩
          rw [hLL] at HO hr9 ⊢
          have HLL := kide hLL
          have R9 := kide hr9
          clear hr9 hfin hl hl6 hLL hb
          go_wp2_with fail
          refine Calls.mono (l7Rising_any a9 c9 _ L wr R9.out rfl) ?_
          rintro e w5 ⟨v5, rfl, ho5, hb5⟩
          have O5 := kide (OW.mono ho5 (Nat.le_trans B2.out.size HB.out.size))
          have B5 := kide (HB.out.trans (hb5.mono HB.out.size))
          clear ho5 hb5
          go_wp2_with fail
          go_returns
          exact ⟨_, rfl, by rw [HLL.out]; exact O5.out, B2.out.trans (B5.out.mono B2.out.size)⟩

end Go.Proofs.YtheglnkndjheaaaGreatDoor
