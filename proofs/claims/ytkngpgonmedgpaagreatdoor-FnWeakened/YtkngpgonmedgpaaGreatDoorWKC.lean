/- What the program's idsOf and Weaken answer. -/
import Derived.Test.YtkngpgonmedgpaaGreatDoorGBF
namespace Go.Proofs.YtkngpgonmedgpaaGreatDoor
set_option linter.unusedVariables false
set_option linter.unusedSimpArgs false
open Go.RowKit
theorem OW.nils (w : World) (B : Nat) : OW w B (.slice none 0 0) [] := ⟨rfl, .inl ⟨rfl, rfl⟩⟩
theorem ids_take {xs : List Lg} {k : Nat} {x : Lg} (h : xs[k]? = some x) : (xs.take (k + 1)).map Lg.id = (xs.take k).map Lg.id ++ [x.id] := by
 rw [List.take_add_one, h, List.map_append]
 rfl
theorem wk_ids (vs : List Wd) (xs : List Lg) : (xs.filter fun x => !hldR vs x.ct).map Lg.id = wkL vs (xs.map Lg.ct) := by
 unfold wkL
 rw [List.filter_map, List.map_map]
 rfl
set_option maxHeartbeats 2000000 in
set_option maxRecDepth 100000 in
theorem idsOf_any (b : Option Addr) (c2 n : Nat) (xs : List Lg) (w : World) (hs : RdL w b xs) (hn : xs.length = n) :
  Calls Tryz.prog 47 #[.slice b n c2] w fun e w' => ∃ v, e = .returned v ∧ OW w' w.heap.size v (xs.map Lg.id) ∧ Below w.heap.size w w' := by
 have hn2 : n ≤ 1048576 := by rw [← hn]; exact hs.1
 have HS := kide hs
 have HN := kide hn
 clear hs hn
 go_enter Tryz.func47, Tryz.ntmps47
 go_wp2_with fail
 go_loopw [3, 8] (fun o q wr => ∃ k : Nat, k ≤ n ∧ q = .int .i64 (k : Int) ∧ OW wr w.heap.size o ((xs.take k).map Lg.id) ∧ Below w.heap.size w wr) (fun _ q _ => n - (intOf q).toNat)
 case atStart => exact ⟨0, Nat.zero_le _, rfl, OW.nils _ _, Below.refl _ _⟩
 case round =>
  obtain ⟨k, hk, rfl, how, hb⟩ := hrel
  have HO := kide how
  have HB := kide hb
  clear how
  by_cases hlt : k < n
  ·have i0 : (k : Int) < (n : Int) := by omega
   obtain ⟨x, gx⟩ : ∃ x, xs[k]? = some x := ⟨xs[k]'(by rw [HN.out]; exact hlt), List.getElem?_eq_getElem _⟩
   obtain ⟨b3, o3, rfl, ⟨p0, p1, p2, p3⟩, r1, r2, r3⟩ := (HS.out.later hb).at gx
   have hbx : Below wr.heap.size wr (wr.alloc (Obj.cells #[.int .i64 x.id, .bool x.eq, .slice x.sa x.ss.length x.sc, .slice x.ta x.ts.length x.tc] 30)) := (Below.refl _ _).alloc (Nat.le_refl _) _
   have B3 := kide (hb.trans (hbx.mono hb.size))
   have O3 := kide (HO.out.later hbx)
   have HST := kide (ids_take gx)
   have hul : ((xs.take k).map Lg.id).length ≤ 1073741824 := by rw [List.length_map]; have h2 := List.length_take_le k xs; omega
   have hsz := B3.out.size
   generalize (xs.take k).map Lg.id = rs at *
   obtain ⟨id, q, ss, sa, sc, ts, ta, tc⟩ := x
   simp only [] at *
   generalize ss.length = sn at *
   generalize ts.length = tn at *
   clear gx r1 r2 r3 hbx hb HO
   go_wp2_with (at_builtin; refine wpList_appW rfl _ _ rfl w.heap.size _ rs id rfl (World.ownsRow.alloc O3.out _) _ rfl (by simp) hul (by simp at hsz ⊢; omega) ?_)
   intro v7 w7 hos hg
   have B7 := kide (Below.grown (B3.out.alloc hsz (Obj.cells #[.int .i64 id] 2)) hg (by simp at hsz ⊢; omega) (fun j hj => (O3.out.lt hj).1))
   have O7 := kide hos
   clear hos hg p0 p1 p2 p3
   go_wp2_with fail
   go_roundw
   case rel => exact ⟨k + 1, by omega, by go_num, by rw [HST.out]; exact O7.out, B7.out⟩
   case measure => simp [intOf]; omega
  ·have hfin : xs.take k = xs := List.take_of_length_le (by rw [HN.out]; omega)
   rw [hfin] at HO
   clear hb hfin
   go_wp2_with fail
   go_ret
   exact ⟨_, rfl, HO.out, HB.out⟩
set_option maxHeartbeats 2000000 in
set_option maxRecDepth 100000 in
theorem implWeaken_any (a va b : Option Addr) (c vc c2 n vn : Nat) (ds : List Dc) (vs : List Bw) (xs : List Lg) (w : World) (hr : RdD w a ds) (hv : RdW w va vs) (hs : RdL w b xs) (hvn : vs.length = vn) (hn : xs.length = n) (hG : GF w) :
  Calls Tryz.prog 14 #[.slice a ds.length c, .slice b n c2, .slice va vn vc] w fun e w' => ∃ v, e = .returned (.tuple #[v, .bool (wkR ds (vs.map Bw.ct) (xs.map Lg.ct)).2]) ∧ OW w' w.heap.size v (wkR ds (vs.map Bw.ct) (xs.map Lg.ct)).1 ∧ Below w.heap.size w w' := by
 have hb0 : Below w.heap.size w (w.alloc (Obj.cells #[.slice va vn vc] 25)) := (Below.refl _ _).alloc (Nat.le_refl _) _
 have B0 := kide hb0
 have S0 := St.start w (.cells #[.slice va vn vc] 25)
 have hmf : ∀ (fn : Fn) (first cap : Array Value) (u : World), (Instr.makeFunc fn first cap).run Tryz.prog u = .ok (.func fn first cap) u := fun _ _ _ _ => rfl
 have HVO := kide (fun u (hu : Below w.heap.size w u) => implValues_any a va c vc ds vs u (hr.later hu) (hv.later hu) vn hvn)
 have HLO := kide (fun u (hu : Below w.heap.size w u) => implLits_any a b c c2 n ds xs u (hr.later hu) (hs.later hu) hn (hG.later hu))
 have hn2 : n ≤ 1048576 := by rw [← hn]; exact hs.1
 have HS := kide hs
 have HN := kide hn
 cases hV : valR ds (vs.map Bw.ct) with
 | false =>
  have hR : wkR ds (vs.map Bw.ct) (xs.map Lg.ct) = ([], false) := by simp [wkR, hV]
  rw [hR]
  rw [hV] at HVO
  clear hr hv hs hn hvn HLO hV hR hb0 hG
  go_enter Tryz.func14, Tryz.ntmps14
  go_wp2_with fail
  refine Calls.mono (HVO.out _ B0.out) ?_
  rintro e w1 ⟨rfl, hb1⟩
  have B1 := kide (B0.out.trans (hb1.mono B0.out.size))
  clear hb1
  go_wp2_with fail
  go_returns
  exact ⟨_, rfl, OW.nils _ _, B1.out⟩
 | true =>
  rw [hV] at HVO
  cases hL : litR ds (xs.map Lg.ct) with
  | false =>
   have hR : wkR ds (vs.map Bw.ct) (xs.map Lg.ct) = ([], false) := by simp [wkR, hL]
   rw [hR]
   rw [hL] at HLO
   clear hr hv hs hn hvn hV hR hL hb0 hG
   go_enter Tryz.func14, Tryz.ntmps14
   go_wp2_with fail
   refine Calls.mono (HVO.out _ B0.out) ?_
   rintro e w1 ⟨rfl, hb1⟩
   have B1 := kide (B0.out.trans (hb1.mono B0.out.size))
   clear hb1
   go_wp2_with fail
   refine Calls.mono (HLO.out w1 B1.out) ?_
   rintro e w2 ⟨rfl, hb2⟩
   have B2 := kide (B1.out.trans (hb2.mono B1.out.size))
   clear hb2
   go_wp2_with fail
   go_returns
   exact ⟨_, rfl, OW.nils _ _, B2.out⟩
  | true =>
   have hR : wkR ds (vs.map Bw.ct) (xs.map Lg.ct) = (wkL (vs.map Bw.ct) (xs.map Lg.ct), true) := by simp [wkR, hL, hV]
   rw [hR, ← wk_ids]
   rw [hL] at HLO
   have HEA := kide (lit_each hL)
   have HFI := kide (fun (u : World) (hu : Below w.heap.size w u) (hc : St w (.cells #[.slice va vn vc] 25) u) => filtered_any b c2 n w.heap.size xs (fun x => !hldR (vs.map Bw.ct) x.ct) u (fun u2 x hu2 hx => by
    have hu3 := hu.trans (hu2.mono hu.size)
    obtain ⟨i, hi⟩ := List.getElem?_of_mem hx
    obtain ⟨b3, o3, -, -, r1, r2, -⟩ := (hs.later hu3).at hi
    have hc2 := (hc.next hu2).cell 0
    simp at hc2
    exact weakF_any va vc vn w.heap.size ds vs x u2 hc2 (hv.later hu3) hvn r1 r2 hV (HEA.out _ (List.mem_map_of_mem hx)).1) (hs.later hu) hn)
   have hyl : (xs.filter fun x => !hldR (vs.map Bw.ct) x.ct).length ≤ 1048576 := by have h1 := List.length_filter_le (fun x => !hldR (vs.map Bw.ct) x.ct) xs; omega
   have hym : Hid (∀ x ∈ xs.filter fun x => !hldR (vs.map Bw.ct) x.ct, x ∈ xs) := fun x hx => (List.mem_filter.1 hx).1
   generalize (xs.filter fun x => !hldR (vs.map Bw.ct) x.ct) = ys at *
   clear hr hv hs hn hvn hV hR hL hb0 hG HEA
   go_enter Tryz.func14, Tryz.ntmps14
   go_wp2_with fail
   refine Calls.mono (HVO.out _ B0.out) ?_
   rintro e w1 ⟨rfl, hb1⟩
   have B1 := kide (B0.out.trans (hb1.mono B0.out.size))
   have S1 := kide (S0.next hb1)
   clear hb1 S0
   go_wp2_with fail
   refine Calls.mono (HLO.out w1 B1.out) ?_
   rintro e w2 ⟨rfl, hb2⟩
   have B2 := kide (B1.out.trans (hb2.mono B1.out.size))
   have S2 := kide (S1.out.next hb2)
   clear hb2 S1
   go_wp2_with fail
   refine Calls.mono (HFI.out w2 B2.out S2.out) ?_
   rintro e w3 ⟨v3, rfl, ho3, hb3⟩
   have B3 := kide (B2.out.trans (hb3.mono B2.out.size))
   obtain ⟨a3, c3, rfl, hr3⟩ := ho3.rd hyl (fun x hx => by
    obtain ⟨i, hi⟩ := List.getElem?_of_mem (hym.out x hx)
    obtain ⟨b3, o3, -, -, r⟩ := (HS.out.later B3.out).at hi
    exact r)
   have HID := kide (idsOf_any a3 c3 _ _ w3 hr3 rfl)
   generalize ys.length = yn at *
   clear hb3 hr3 ho3 HFI
   go_wp2_with fail
   refine Calls.mono HID.out ?_
   rintro e w4 ⟨v4, rfl, ho4, hb4⟩
   have B4 := kide (B3.out.trans (hb4.mono B3.out.size))
   have O4 := kide (OW.mono ho4 B3.out.size)
   clear hb4 ho4 HID
   go_wp2_with fail
   go_returns
   exact ⟨_, rfl, O4.out, B4.out⟩

end Go.Proofs.YtkngpgonmedgpaaGreatDoor
