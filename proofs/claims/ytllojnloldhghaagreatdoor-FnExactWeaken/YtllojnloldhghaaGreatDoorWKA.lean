/- The literals that fail: plain facts, and what the specification's Weaken answers. -/
import Derived.Test.YtllojnloldhghaaGreatDoorZKJ
import Derived.Test.YtllojnloldhghaaGreatDoorZQA
namespace Go.Proofs.YtllojnloldhghaaGreatDoor
set_option linter.unusedVariables false
set_option linter.unusedSimpArgs false
open Go.RowKit

/-- The Ids of the literals that do not hold. -/
def wkL (vs : List Wd) (ls : List Lc) : List Int := (ls.filter fun l => !hldR vs l).map Lc.id

def wkR (ds : List Dc) (vs : List Wd) (ls : List Lc) : List Int × Bool := if valR ds vs = true ∧ litR ds ls = true then (wkL vs ls, true) else ([], false)

theorem wkL_take {vs : List Wd} {ls : List Lc} {k : Nat} {l : Lc} (h : ls[k]? = some l) : wkL vs (ls.take (k + 1)) = wkL vs (ls.take k) ++ (if hldR vs l = true then [] else [l.id]) := by
  unfold wkL
  rw [List.take_add_one, h, List.filter_append, List.map_append]
  cases hv : hldR vs l <;> simp [hv]

theorem wkL_len (vs : List Wd) (ls : List Lc) : (wkL vs ls).length ≤ ls.length := by
  unfold wkL
  rw [List.length_map]
  exact List.length_filter_le _ _

set_option maxHeartbeats 2000000 in
set_option maxRecDepth 100000 in
theorem specWeaken_any (a va b : Option Addr) (c vc c2 n vn : Nat) (ds : List Dc) (vs : List Bw) (xs : List Lg) (w : World) (hr : RdD w a ds) (hv : RdW w va vs) (hs : RdL w b xs) (hvn : vs.length = vn) (hn : xs.length = n) :
    Calls Tryz.prog 10 #[.slice a ds.length c, .slice b n c2, .slice va vn vc] w fun e w' => ∃ v, e = .returned (.tuple #[v, .bool (wkR ds (vs.map Bw.ct) (xs.map Lg.ct)).2]) ∧ OW w' w.heap.size v (wkR ds (vs.map Bw.ct) (xs.map Lg.ct)).1 ∧ Below w.heap.size w w' := by
  have hb0 : Below w.heap.size w (w.alloc (Obj.cells #[] 2)) := (Below.refl _ _).alloc (Nat.le_refl _) _
  have B0 := kide hb0
  have O0 := kide (OW.fresh w w.heap.size (Nat.le_refl _))
  have HVO := kide (fun u (hu : Below w.heap.size w u) => specValues_any a va c vc ds vs u (hr.later hu) (hv.later hu) vn hvn)
  have HLO := kide (fun u (hu : Below w.heap.size w u) => specLits_any a b c c2 n ds xs u (hr.later hu) (hs.later hu) hn)
  have hn2 : n ≤ 1048576 := by rw [← hn]; exact hs.1
  have HS := kide hs
  have HN := kide hn
  cases hV : valR ds (vs.map Bw.ct) with
  | false =>
    have hR : wkR ds (vs.map Bw.ct) (xs.map Lg.ct) = ([], false) := by simp [wkR, hV]
    rw [hR]
    rw [hV] at HVO
    clear hr hv hs hn hvn HLO hV hR hb0
    go_enter Tryz.func10, Tryz.ntmps10
    go_wp2_with fail
    refine Calls.mono (HVO.out _ B0.out) ?_
    rintro e w1 ⟨rfl, hb1⟩
    have B1 := kide (B0.out.trans (hb1.mono B0.out.size))
    have O1 := kide (O0.out.later hb1)
    clear hb1
    go_wp2_with fail
    go_returns
    exact ⟨_, rfl, O1.out, B1.out⟩
  | true =>
    rw [hV] at HVO
    cases hL : litR ds (xs.map Lg.ct) with
    | false =>
      have hR : wkR ds (vs.map Bw.ct) (xs.map Lg.ct) = ([], false) := by simp [wkR, hL]
      rw [hR]
      rw [hL] at HLO
      clear hr hv hs hn hvn hV hR hL hb0
      go_enter Tryz.func10, Tryz.ntmps10
      go_wp2_with fail
      refine Calls.mono (HVO.out _ B0.out) ?_
      rintro e w1 ⟨rfl, hb1⟩
      have B1 := kide (B0.out.trans (hb1.mono B0.out.size))
      have O1 := kide (O0.out.later hb1)
      clear hb1
      go_wp2_with fail
      refine Calls.mono (HLO.out w1 B1.out) ?_
      rintro e w2 ⟨rfl, hb2⟩
      have B2 := kide (B1.out.trans (hb2.mono B1.out.size))
      have O2 := kide (O1.out.later hb2)
      clear hb2
      go_wp2_with fail
      go_returns
      exact ⟨_, rfl, O2.out, B2.out⟩
    | true =>
      have hR : wkR ds (vs.map Bw.ct) (xs.map Lg.ct) = (wkL (vs.map Bw.ct) (xs.map Lg.ct), true) := by simp [wkR, hL, hV]
      rw [hR]
      rw [hL] at HLO
      have HEA := kide (lit_each hL)
      have HHB := kide (fun (u : World) (x : Lg) (hu : Below w.heap.size w u) (h1 : RdT u x.sa x.ss) (h2 : RdT u x.ta x.ts) (h3 : in64 x.id) => specHolds_any a va c vc vn ds vs x u (hr.later hu) (hv.later hu) hvn h1 h2 h3)
      have HVT := kide hV
      obtain ⟨ls, hls⟩ : ∃ ls, xs.map Lg.ct = ls := ⟨_, rfl⟩
      rw [hls] at HEA ⊢
      have HLS := kide hls
      have hln : Hid (ls.length = n) := by show _ = _; rw [← hls, List.length_map, hn]
      clear hr hv hs hn hvn hV hR hL hls hb0
      go_enter Tryz.func10, Tryz.ntmps10
      go_wp2_with fail
      refine Calls.mono (HVO.out _ B0.out) ?_
      rintro e w1 ⟨rfl, hb1⟩
      have B1 := kide (B0.out.trans (hb1.mono B0.out.size))
      have O1 := kide (O0.out.later hb1)
      clear hb1
      go_wp2_with fail
      refine Calls.mono (HLO.out w1 B1.out) ?_
      rintro e w2 ⟨rfl, hb2⟩
      have B2 := kide (B1.out.trans (hb2.mono B1.out.size))
      have O2 := kide (O1.out.later hb2)
      clear hb2 O0 O1 B0 B1
      go_wp2_with fail
      go_loopw [8, 9] (fun o q wr => ∃ k : Nat, k ≤ n ∧ q = .int .i64 (k : Int) ∧ OW wr w.heap.size o (wkL (vs.map Bw.ct) (ls.take k)) ∧ Below w.heap.size w wr) (fun _ q _ => n - (intOf q).toNat)
      case atStart => exact ⟨0, Nat.zero_le _, rfl, O2.out, B2.out⟩
      case round =>
        obtain ⟨k, hk, rfl, how, hb⟩ := hrel
        have HO := kide how
        have HB := kide hb
        clear how O2 B2
        by_cases hlt : k < n
        · have i0 : (k : Int) < (n : Int) := by omega
          obtain ⟨x, gx⟩ : ∃ x, xs[k]? = some x := ⟨xs[k]'(by rw [HN.out]; exact hlt), List.getElem?_eq_getElem _⟩
          have gn : ls[k]? = some x.ct := by rw [← HLS.out, List.getElem?_map, gx]; rfl
          obtain ⟨b3, o3, rfl, ⟨p0, p1, p2, p3⟩, r1, r2, r3⟩ := (HS.out.later hb).at gx
          have hsd := (HEA.out _ (List.mem_of_getElem? gn)).2
          have HC := kide (HHB.out wr x hb r1 r2 r3)
          have hho : holR ds (vs.map Bw.ct) x.ct = (hldR (vs.map Bw.ct) x.ct, true) := by simp [holR, HVT.out, hsd]
          rw [hho] at HC
          have HST := kide (wkL_take (vs := vs.map Bw.ct) gn)
          have lP := block_lt_of_cell p0
          have hid : x.ct.id = x.id := rfl
          rw [hid] at HST
          have hul : (wkL (vs.map Bw.ct) (ls.take k)).length ≤ 1073741824 := by have h1 := wkL_len (vs.map Bw.ct) (ls.take k); have h2 := List.length_take_le k ls; omega
          generalize hldR (vs.map Bw.ct) x.ct = V at *
          obtain ⟨id, q, ss, sa, sc, ts, ta, tc⟩ := x
          simp only [Lg.val] at *
          generalize ss.length = sn at *
          generalize ts.length = tn at *
          clear gx gn r1 r2 r3 hsd hho hb HHB
          cases V with
          | true =>
            have HF2 := HST.out
            rw [if_pos rfl, List.append_nil] at HF2
            have HF3 := kide HF2
            clear HF2
            go_wp2_with fail
            refine Calls.mono HC.out ?_
            rintro e w3 ⟨rfl, hb3⟩
            have B3 := kide (HB.out.trans (hb3.mono HB.out.size))
            have O3 := kide (HO.out.later hb3)
            clear hb3 HC
            go_wp2_with fail
            go_roundw
            case rel => exact ⟨k + 1, by omega, by go_num, by rw [HF3.out]; exact O3.out, B3.out⟩
            case measure => simp [intOf]; omega
          | false =>
            have HF2 := HST.out
            rw [if_neg (by simp)] at HF2
            have HF3 := kide HF2
            clear HF2
            generalize wkL (vs.map Bw.ct) (ls.take k) = rs at *
            go_wp2_with fail
            refine Calls.mono HC.out ?_
            rintro e w3 ⟨rfl, hb3⟩
            have B3 := kide (HB.out.trans (hb3.mono HB.out.size))
            have O3 := kide (HO.out.later hb3)
            have c0 := (kcell hb3 _ _ lP).trans p0
            have hsz := B3.out.size
            clear hb3 HC
            go_wp2_with (at_builtin; refine wpList_appW rfl _ _ rfl w.heap.size _ rs id rfl (World.ownsRow.alloc O3.out _) _ rfl (by simp) hul (by simp; omega) ?_)
            intro v7 w7 hos hg
            have B7 := kide (Below.grown (B3.out.alloc hsz (Obj.cells #[Value.int .i64 id] 2)) hg (by simp; omega) (fun j hj => (O3.out.lt hj).1))
            have O7 := kide hos
            clear hos hg c0 p0 p1 p2 p3
            go_wp2_with fail
            go_roundw
            case rel => exact ⟨k + 1, by omega, by go_num, by rw [HF3.out]; exact O7.out, B7.out⟩
            case measure => simp [intOf]; omega
        · have hfin : wkL (vs.map Bw.ct) (ls.take k) = wkL (vs.map Bw.ct) ls := by rw [List.take_of_length_le (by rw [hln.out]; omega)]
          rw [hfin] at HO
          clear hb hfin
          go_wp2_with fail
          go_returns
          exact ⟨_, rfl, HO.out, HB.out⟩

end Go.Proofs.YtllojnloldhghaaGreatDoor
