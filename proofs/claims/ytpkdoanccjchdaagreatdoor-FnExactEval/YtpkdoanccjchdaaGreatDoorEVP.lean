/- What the two Eval answer. -/
import Derived.Test.YtpkdoanccjchdaaGreatDoorZES
import Derived.Test.YtpkdoanccjchdaaGreatDoorZQD
import Derived.Test.YtpkdoanccjchdaaGreatDoorKJ
namespace Go.Proofs.YtpkdoanccjchdaaGreatDoor
set_option linter.unusedVariables false
set_option linter.unusedSimpArgs false
open Go.RowKit

def evlR (ds : List Dc) (vs : List Wd) (ns : List Tc) : Wd × Bool := if valR ds vs = true ∧ ¬ (widthsR ds ns).length = 0 then (evalR vs ns, true) else ((0, []), false)

/-- An answer that is a word in new memory and a flag. -/
def RetW (u : World) (X : Wd × Bool) (e : Ending) (w' : World) : Prop := ∃ a c, e = .returned (.tuple #[.agg #[.int .i64 X.1.1, .slice a X.1.2.length c], .bool X.2]) ∧ Nw w' u.heap.size a X.1.2 ∧ Below u.heap.size u w'

set_option maxHeartbeats 2000000 in
set_option maxRecDepth 100000 in
theorem specEval_any (a va b : Option Addr) (c vc c2 n vn : Nat) (ds : List Dc) (vs : List Bw) (xs : List Tg) (w : World) (hr : RdD w a ds) (hv : RdW w va vs) (hs : RdT w b xs) (hvn : vs.length = vn) (hn : xs.length = n) :
    Calls Tryz.prog 35 #[.slice a ds.length c, .slice va vn vc, .agg #[.slice b n c2]] w (RetW w (evlR ds (vs.map Bw.ct) (xs.map Tg.ct))) := by
  have HVO := kide (fun u (hu : Below w.heap.size w u) => specValues_any a va c vc ds vs u (hr.later hu) (hv.later hu) vn hvn)
  have HWO := kide (fun u (hu : Below w.heap.size w u) => specWidth_any a b c c2 n ds xs u (hr.later hu) (hs.later hu) hn)
  have HEV := kide (fun u (hu : Below w.heap.size w u) (h1 : ¬ (widthsR ds (xs.map Tg.ct)).length = 0) (h2 : valR ds (vs.map Bw.ct) = true) => l4Eval_any va b vc c2 n ds vs xs u (hv.later hu) (hs.later hu) hn h1 h2)
  rw [hvn] at HEV
  have XR : Hid (Bz ((w.alloc (Obj.cells #[Value.slice b n c2] 66)).alloc (Obj.cells #[Value.int .i64 0, Value.slice none 0 0] 61)) (w.heap.size + 1) #[Value.int .i64 0, Value.slice none 0 0] 61) := by
    have := Bz.new (w.alloc (Obj.cells #[Value.slice b n c2] 66)) #[Value.int .i64 0, Value.slice none 0 0] 61
    rw [World.size_alloc] at this
    exact this
  have XT : Hid (Bz ((w.alloc (Obj.cells #[Value.slice b n c2] 66)).alloc (Obj.cells #[Value.int .i64 0, Value.slice none 0 0] 61)) w.heap.size #[Value.slice b n c2] 66) := (Bz.new w #[Value.slice b n c2] 66).later ((Below.refl _ _).alloc (Nat.le_refl _) _)
  have BL : Hid (Below w.heap.size w ((w.alloc (Obj.cells #[Value.slice b n c2] 66)).alloc (Obj.cells #[Value.int .i64 0, Value.slice none 0 0] 61))) := Ba (Ba (Below.refl _ _) _) _
  obtain ⟨hwl, hwb⟩ := widthsR_bounds ds (xs.map Tg.ct)
  clear hr hv hs hn hvn
  cases hV : valR ds (vs.map Bw.ct) with
  | false =>
    have hR : evlR ds (vs.map Bw.ct) (xs.map Tg.ct) = ((0, []), false) := by simp [evlR, hV]
    rw [hR]
    rw [hV] at HVO
    clear HWO HEV hV hR hwl hwb
    go_enter Tryz.func35, Tryz.ntmps35
    go_wp2_with fail
    generalize ((w.alloc (Obj.cells #[Value.slice b n c2] 66)).alloc (Obj.cells #[Value.int .i64 0, Value.slice none 0 0] 61)) = w0 at *
    refine Calls.mono (HVO.out w0 BL.out) ?_
    rintro e w1 ⟨rfl, hb1⟩
    have XT1 := kide (XT.out.later hb1)
    have XR1 := kide (XR.out.later hb1)
    have BL1 := kide (BL.out.trans (hb1.mono BL.out.size))
    have t1 : w1.cell? ⟨w.heap.size, 0, none⟩ = some (.slice b n c2) := XT1.out.cell 0
    have r0 := XR1.out.cell 0
    have r1 := XR1.out.cell 1
    have f0 := XR1.out.froz 0
    have f1 := XR1.out.froz 1
    simp at r0 r1
    clear hb1 XT XR BL HVO
    go_wp2_with fail
    obtain ⟨x0, x1⟩ := ((Bz.blk XR1.out).put0' (.int .i64 0)).put1' (.slice none 0 0) |>.cells
    have HE := RetV.box (u := w) (W := 0) (c := 0) (xs := []) (a := none) (lo := w.heap.size) (Bz.blk XR1.out) (.inl ⟨rfl, fun x e => by cases e⟩) (Nat.le_refl _) (Nat.le_succ _) BL1.out
    refine bodyPost_ret (v := .tuple #[.agg #[.int .i64 0, .slice none 0 0], .bool false]) (by simp [results, Tryz.results35, go_sem, x0, x1]) rfl ?_
    obtain ⟨a', c', he, hn', hb'⟩ := HE
    cases he
    exact ⟨_, _, rfl, hn', hb'⟩
  | true =>
    rw [hV] at HVO
    by_cases h0 : (widthsR ds (xs.map Tg.ct)).length = 0
    · have hR : evlR ds (vs.map Bw.ct) (xs.map Tg.ct) = ((0, []), false) := by simp [evlR, h0]
      rw [hR]
      have hw : widR ds (xs.map Tg.ct) = -1 := by unfold widR; rw [if_pos h0]
      rw [hw] at HWO
      clear hw
      clear HEV hV hR hwl hwb h0
      go_enter Tryz.func35, Tryz.ntmps35
      go_wp2_with fail
      generalize ((w.alloc (Obj.cells #[Value.slice b n c2] 66)).alloc (Obj.cells #[Value.int .i64 0, Value.slice none 0 0] 61)) = w0 at *
      refine Calls.mono (HVO.out w0 BL.out) ?_
      rintro e w1 ⟨rfl, hb1⟩
      have XT1 := kide (XT.out.later hb1)
      have XR1 := kide (XR.out.later hb1)
      have BL1 := kide (BL.out.trans (hb1.mono BL.out.size))
      have t1 : w1.cell? ⟨w.heap.size, 0, none⟩ = some (.slice b n c2) := XT1.out.cell 0
      have r0 := XR1.out.cell 0
      have r1 := XR1.out.cell 1
      have f0 := XR1.out.froz 0
      have f1 := XR1.out.froz 1
      simp at r0 r1
      clear hb1 XT XR BL HVO
      go_wp2_with fail
      refine Calls.mono (HWO.out w1 BL1.out) ?_
      rintro e w2 ⟨rfl, hb2⟩
      have XR2 := kide (XR1.out.later hb2)
      have XT2 := kide (XT1.out.later hb2)
      have BL2 := kide (BL1.out.trans (hb2.mono BL1.out.size))
      have t2 : w2.cell? ⟨w.heap.size, 0, none⟩ = some (.slice b n c2) := XT2.out.cell 0
      have q0 := XR2.out.cell 0
      have q1 := XR2.out.cell 1
      have g0 := XR2.out.froz 0
      have g1 := XR2.out.froz 1
      simp at q0 q1
      clear hb2 r0 r1 f0 f1 t1
      go_wp2_with fail
      obtain ⟨x0, x1⟩ := ((Bz.blk XR2.out).put0' (.int .i64 0)).put1' (.slice none 0 0) |>.cells
      have HE := RetV.box (u := w) (W := 0) (c := 0) (xs := []) (a := none) (lo := w.heap.size) (Bz.blk XR2.out) (.inl ⟨rfl, fun x e => by cases e⟩) (Nat.le_refl _) (Nat.le_succ _) BL2.out
      refine bodyPost_ret (v := .tuple #[.agg #[.int .i64 0, .slice none 0 0], .bool false]) (by simp [results, Tryz.results35, go_sem, x0, x1]) rfl ?_
      obtain ⟨a', c', he, hn', hb'⟩ := HE
      cases he
      exact ⟨_, _, rfl, hn', hb'⟩
    · have hR : evlR ds (vs.map Bw.ct) (xs.map Tg.ct) = (evalR (vs.map Bw.ct) (xs.map Tg.ct), true) := by simp [evlR, h0, hV]
      rw [hR]
      have HEK := kide (fun u hu => HEV.out u hu h0 hV)
      generalize evalR (vs.map Bw.ct) (xs.map Tg.ct) = X at *
      have hw : 1 ≤ widR ds (xs.map Tg.ct) := by
        unfold widR
        rw [if_neg h0]
        refine (hwb _ ?_).1
        rw [List.getD, List.getElem?_eq_getElem (by omega)]
        simp
      generalize widR ds (xs.map Tg.ct) = W at HWO hw
      have hW0 : ¬ W < 0 := by omega
      clear HEV hV hR hwl hwb h0
      go_enter Tryz.func35, Tryz.ntmps35
      go_wp2_with fail
      generalize ((w.alloc (Obj.cells #[Value.slice b n c2] 66)).alloc (Obj.cells #[Value.int .i64 0, Value.slice none 0 0] 61)) = w0 at *
      refine Calls.mono (HVO.out w0 BL.out) ?_
      rintro e w1 ⟨rfl, hb1⟩
      have XT1 := kide (XT.out.later hb1)
      have XR1 := kide (XR.out.later hb1)
      have BL1 := kide (BL.out.trans (hb1.mono BL.out.size))
      have t1 : w1.cell? ⟨w.heap.size, 0, none⟩ = some (.slice b n c2) := XT1.out.cell 0
      have r0 := XR1.out.cell 0
      have r1 := XR1.out.cell 1
      have f0 := XR1.out.froz 0
      have f1 := XR1.out.froz 1
      simp at r0 r1
      clear hb1 XT XR BL HVO
      go_wp2_with fail
      refine Calls.mono (HWO.out w1 BL1.out) ?_
      rintro e w2 ⟨rfl, hb2⟩
      have XR2 := kide (XR1.out.later hb2)
      have XT2 := kide (XT1.out.later hb2)
      have BL2 := kide (BL1.out.trans (hb2.mono BL1.out.size))
      have t2 : w2.cell? ⟨w.heap.size, 0, none⟩ = some (.slice b n c2) := XT2.out.cell 0
      have q0 := XR2.out.cell 0
      have q1 := XR2.out.cell 1
      have g0 := XR2.out.froz 0
      have g1 := XR2.out.froz 1
      simp at q0 q1
      clear hb2 r0 r1 f0 f1 t1
      go_wp2_with fail
      refine Calls.mono (HEK.out w2 BL2.out) ?_
      rintro e w3 ⟨a3, c3', rfl, hn3, hb3⟩
      have XR3 := kide (XR2.out.later hb3)
      have BL3 := kide (BL2.out.trans (hb3.mono BL2.out.size))
      have NW3 := kide (hn3.mono (lo' := w.heap.size) BL2.out.size)
      have q0 := XR3.out.cell 0
      have q1 := XR3.out.cell 1
      have g0 := XR3.out.froz 0
      have g1 := XR3.out.froz 1
      simp at q0 q1
      clear hb3 hn3 HEK
      go_wp2_with fail
      obtain ⟨x0, x1⟩ := ((Bz.blk XR3.out).put0' (.int .i64 X.1)).put1' (.slice a3 X.2.length c3') |>.cells
      have HE := RetV.box (u := w) (W := X.1) (c := c3') (Bz.blk XR3.out) NW3.out (Nat.le_refl _) (Nat.le_succ _) BL3.out
      refine bodyPost_ret (v := .tuple #[.agg #[.int .i64 X.1, .slice a3 X.2.length c3'], .bool true]) (by simp [results, Tryz.results35, go_sem, x0, x1]) rfl ?_
      obtain ⟨a', c', he, hn', hb'⟩ := HE
      cases he
      exact ⟨_, _, rfl, hn', hb'⟩

set_option maxHeartbeats 2000000 in
set_option maxRecDepth 100000 in
theorem implEval_any (a va b : Option Addr) (c vc c2 n vn : Nat) (ds : List Dc) (vs : List Bw) (xs : List Tg) (w : World) (hr : RdD w a ds) (hv : RdW w va vs) (hs : RdT w b xs) (hvn : vs.length = vn) (hn : xs.length = n) (hG : GF w) :
    Calls Tryz.prog 37 #[.slice a ds.length c, .slice va vn vc, .agg #[.slice b n c2]] w (RetW w (evlR ds (vs.map Bw.ct) (xs.map Tg.ct))) := by
  have HVO := kide (fun u (hu : Below w.heap.size w u) => implValues_any a va c vc ds vs u (hr.later hu) (hv.later hu) vn hvn)
  have HWO := kide (fun u (hu : Below w.heap.size w u) (hd : dclR ds = true) => widthsOf_any a b c c2 n ds xs u (hr.later hu) (hs.later hu) hn (hG.later hu) hd)
  have HEV := kide (fun u (hu : Below w.heap.size w u) (h1 : ¬ (widthsR ds (xs.map Tg.ct)).length = 0) (h2 : valR ds (vs.map Bw.ct) = true) => evalTerm_any va b vc c2 n ds vs xs u (hv.later hu) (hs.later hu) hn h1 h2)
  rw [hvn] at HEV
  have XR : Hid (Bz ((w.alloc (Obj.cells #[Value.slice b n c2] 66)).alloc (Obj.cells #[Value.int .i64 0, Value.slice none 0 0] 61)) (w.heap.size + 1) #[Value.int .i64 0, Value.slice none 0 0] 61) := by
    have := Bz.new (w.alloc (Obj.cells #[Value.slice b n c2] 66)) #[Value.int .i64 0, Value.slice none 0 0] 61
    rw [World.size_alloc] at this
    exact this
  have XT : Hid (Bz ((w.alloc (Obj.cells #[Value.slice b n c2] 66)).alloc (Obj.cells #[Value.int .i64 0, Value.slice none 0 0] 61)) w.heap.size #[Value.slice b n c2] 66) := (Bz.new w #[Value.slice b n c2] 66).later ((Below.refl _ _).alloc (Nat.le_refl _) _)
  have BL : Hid (Below w.heap.size w ((w.alloc (Obj.cells #[Value.slice b n c2] 66)).alloc (Obj.cells #[Value.int .i64 0, Value.slice none 0 0] 61))) := Ba (Ba (Below.refl _ _) _) _
  obtain ⟨hwl, hwb⟩ := widthsR_bounds ds (xs.map Tg.ct)
  clear hr hv hs hn hvn hG
  cases hV : valR ds (vs.map Bw.ct) with
  | false =>
    have hR : evlR ds (vs.map Bw.ct) (xs.map Tg.ct) = ((0, []), false) := by simp [evlR, hV]
    rw [hR]
    rw [hV] at HVO
    clear HWO HEV hV hR hwl hwb
    go_enter Tryz.func37, Tryz.ntmps37
    go_wp2_with fail
    generalize ((w.alloc (Obj.cells #[Value.slice b n c2] 66)).alloc (Obj.cells #[Value.int .i64 0, Value.slice none 0 0] 61)) = w0 at *
    refine Calls.mono (HVO.out w0 BL.out) ?_
    rintro e w1 ⟨rfl, hb1⟩
    have XT1 := kide (XT.out.later hb1)
    have XR1 := kide (XR.out.later hb1)
    have BL1 := kide (BL.out.trans (hb1.mono BL.out.size))
    have t1 : w1.cell? ⟨w.heap.size, 0, none⟩ = some (.slice b n c2) := XT1.out.cell 0
    have r0 := XR1.out.cell 0
    have r1 := XR1.out.cell 1
    have f0 := XR1.out.froz 0
    have f1 := XR1.out.froz 1
    simp at r0 r1
    clear hb1 XT XR BL HVO
    go_wp2_with fail
    obtain ⟨x0, x1⟩ := ((Bz.blk XR1.out).put0' (.int .i64 0)).put1' (.slice none 0 0) |>.cells
    have HE := RetV.box (u := w) (W := 0) (c := 0) (xs := []) (a := none) (lo := w.heap.size) (Bz.blk XR1.out) (.inl ⟨rfl, fun x e => by cases e⟩) (Nat.le_refl _) (Nat.le_succ _) BL1.out
    refine bodyPost_ret (v := .tuple #[.agg #[.int .i64 0, .slice none 0 0], .bool false]) (by simp [results, Tryz.results37, go_sem, x0, x1]) rfl ?_
    obtain ⟨a', c', he, hn', hb'⟩ := HE
    cases he
    exact ⟨_, _, rfl, hn', hb'⟩
  | true =>
    rw [hV] at HVO
    by_cases h0 : (widthsR ds (xs.map Tg.ct)).length = 0
    · have hR : evlR ds (vs.map Bw.ct) (xs.map Tg.ct) = ((0, []), false) := by simp [evlR, h0]
      rw [hR]
      have hd : dclR ds = true := (valR_iff.1 hV).1
      have HWK := kide (fun u hu => HWO.out u hu hd)
      have hRn : widthsR ds (xs.map Tg.ct) = [] := List.eq_nil_of_length_eq_zero h0
      rw [hRn] at HWK
      clear HWO hd hRn
      clear HEV hV hR hwl hwb h0
      go_enter Tryz.func37, Tryz.ntmps37
      go_wp2_with fail
      generalize ((w.alloc (Obj.cells #[Value.slice b n c2] 66)).alloc (Obj.cells #[Value.int .i64 0, Value.slice none 0 0] 61)) = w0 at *
      refine Calls.mono (HVO.out w0 BL.out) ?_
      rintro e w1 ⟨rfl, hb1⟩
      have XT1 := kide (XT.out.later hb1)
      have XR1 := kide (XR.out.later hb1)
      have BL1 := kide (BL.out.trans (hb1.mono BL.out.size))
      have t1 : w1.cell? ⟨w.heap.size, 0, none⟩ = some (.slice b n c2) := XT1.out.cell 0
      have r0 := XR1.out.cell 0
      have r1 := XR1.out.cell 1
      have f0 := XR1.out.froz 0
      have f1 := XR1.out.froz 1
      simp at r0 r1
      clear hb1 XT XR BL HVO
      go_wp2_with fail
      refine Calls.mono (HWK.out w1 BL1.out) ?_
      rintro e w2 ⟨a2, c3, rfl, hr2, hnl, hb2⟩
      have XR2 := kide (XR1.out.later hb2)
      have XT2 := kide (XT1.out.later hb2)
      have BL2 := kide (BL1.out.trans (hb2.mono BL1.out.size))
      have t2 : w2.cell? ⟨w.heap.size, 0, none⟩ = some (.slice b n c2) := XT2.out.cell 0
      have q0 := XR2.out.cell 0
      have q1 := XR2.out.cell 1
      have g0 := XR2.out.froz 0
      have g1 := XR2.out.froz 1
      simp at q0 q1
      clear hb2 r0 r1 f0 f1 t1
      have hn0 := hnl rfl
      subst hn0
      have heq : ∀ u, (binOp .eql 24 (.slice none (([] : List Int).length) c3) (.slice none 0 0)).run Tryz.prog u = .ok (.bool true) u := fun u => by rw [Lib.run_eql_slice_nil u 24 2 none _ c3 0 0 Tryz.underlying24]; rfl
      simp only [List.length_nil] at heq ⊢
      clear hr2 hnl
      go_wp2_with fail
      obtain ⟨x0, x1⟩ := ((Bz.blk XR2.out).put0' (.int .i64 0)).put1' (.slice none 0 0) |>.cells
      have HE := RetV.box (u := w) (W := 0) (c := 0) (xs := []) (a := none) (lo := w.heap.size) (Bz.blk XR2.out) (.inl ⟨rfl, fun x e => by cases e⟩) (Nat.le_refl _) (Nat.le_succ _) BL2.out
      refine bodyPost_ret (v := .tuple #[.agg #[.int .i64 0, .slice none 0 0], .bool false]) (by simp [results, Tryz.results37, go_sem, x0, x1]) rfl ?_
      obtain ⟨a', c', he, hn', hb'⟩ := HE
      cases he
      exact ⟨_, _, rfl, hn', hb'⟩
    · have hR : evlR ds (vs.map Bw.ct) (xs.map Tg.ct) = (evalR (vs.map Bw.ct) (xs.map Tg.ct), true) := by simp [evlR, h0, hV]
      rw [hR]
      have HEK := kide (fun u hu => HEV.out u hu h0 hV)
      generalize evalR (vs.map Bw.ct) (xs.map Tg.ct) = X at *
      have hd : dclR ds = true := (valR_iff.1 hV).1
      have HWK := kide (fun u hu => HWO.out u hu hd)
      generalize widthsR ds (xs.map Tg.ct) = WL at HWK h0 hwl
      have HL0 := kide h0
      clear HWO hd
      clear HEV hV hR hwl hwb h0
      go_enter Tryz.func37, Tryz.ntmps37
      go_wp2_with fail
      generalize ((w.alloc (Obj.cells #[Value.slice b n c2] 66)).alloc (Obj.cells #[Value.int .i64 0, Value.slice none 0 0] 61)) = w0 at *
      refine Calls.mono (HVO.out w0 BL.out) ?_
      rintro e w1 ⟨rfl, hb1⟩
      have XT1 := kide (XT.out.later hb1)
      have XR1 := kide (XR.out.later hb1)
      have BL1 := kide (BL.out.trans (hb1.mono BL.out.size))
      have t1 : w1.cell? ⟨w.heap.size, 0, none⟩ = some (.slice b n c2) := XT1.out.cell 0
      have r0 := XR1.out.cell 0
      have r1 := XR1.out.cell 1
      have f0 := XR1.out.froz 0
      have f1 := XR1.out.froz 1
      simp at r0 r1
      clear hb1 XT XR BL HVO
      go_wp2_with fail
      refine Calls.mono (HWK.out w1 BL1.out) ?_
      rintro e w2 ⟨a2, c3, rfl, hr2, hnl, hb2⟩
      have XR2 := kide (XR1.out.later hb2)
      have XT2 := kide (XT1.out.later hb2)
      have BL2 := kide (BL1.out.trans (hb2.mono BL1.out.size))
      have t2 : w2.cell? ⟨w.heap.size, 0, none⟩ = some (.slice b n c2) := XT2.out.cell 0
      have q0 := XR2.out.cell 0
      have q1 := XR2.out.cell 1
      have g0 := XR2.out.froz 0
      have g1 := XR2.out.froz 1
      simp at q0 q1
      clear hb2 r0 r1 f0 f1 t1
      obtain ⟨b2, o2, rfl⟩ : ∃ b2 o2, a2 = some ⟨b2, o2, none⟩ := by
        obtain ⟨-, -, h | ⟨b2, o2, h, -⟩⟩ := hr2
        · have := HL0.out; subst h; simp at this
        · exact ⟨b2, o2, h⟩
      generalize WL.length = rl at *
      have heq : ∀ u, (binOp .eql 24 (.slice (some ⟨b2, o2, none⟩) rl c3) (.slice none 0 0)).run Tryz.prog u = .ok (.bool false) u := fun u => by rw [Lib.run_eql_slice_nil u 24 2 (some ⟨b2, o2, none⟩) rl c3 0 0 Tryz.underlying24]; rfl
      clear hr2 hnl
      go_wp2_with fail
      refine Calls.mono (HEK.out w2 BL2.out) ?_
      rintro e w3 ⟨a3, c3', rfl, hn3, hb3⟩
      have XR3 := kide (XR2.out.later hb3)
      have BL3 := kide (BL2.out.trans (hb3.mono BL2.out.size))
      have NW3 := kide (hn3.mono (lo' := w.heap.size) BL2.out.size)
      have q0 := XR3.out.cell 0
      have q1 := XR3.out.cell 1
      have g0 := XR3.out.froz 0
      have g1 := XR3.out.froz 1
      simp at q0 q1
      clear hb3 hn3 HEK
      go_wp2_with fail
      obtain ⟨x0, x1⟩ := ((Bz.blk XR3.out).put0' (.int .i64 X.1)).put1' (.slice a3 X.2.length c3') |>.cells
      have HE := RetV.box (u := w) (W := X.1) (c := c3') (Bz.blk XR3.out) NW3.out (Nat.le_refl _) (Nat.le_succ _) BL3.out
      refine bodyPost_ret (v := .tuple #[.agg #[.int .i64 X.1, .slice a3 X.2.length c3'], .bool true]) (by simp [results, Tryz.results37, go_sem, x0, x1]) rfl ?_
      obtain ⟨a', c', he, hn', hb'⟩ := HE
      cases he
      exact ⟨_, _, rfl, hn', hb'⟩

end Go.Proofs.YtpkdoanccjchdaaGreatDoor
