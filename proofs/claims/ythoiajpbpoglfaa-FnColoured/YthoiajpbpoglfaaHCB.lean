/- The draw DrawColour. -/
import Derived.Test.YthoiajpbpoglfaaGRKC
import Derived.Test.YthoiajpbpoglfaaZKAK
namespace Go.Proofs.Ythoiajpbpoglfaa
set_option linter.unusedVariables false
set_option linter.unusedSimpArgs false
open Go.RowKit

/-- The contract of a drawn graph (GRAC has it: it takes long). -/
def GraphAnyC : Prop := ∀ (β : Nat) (a : Option Addr) (c : Nat) (bs : List Nat) (w : World), Rr w β a c bs → Calls Try.prog 46 #[.pointer (some ⟨β, 0, none⟩)] w (Cp.RetGr β a c bs w)

set_option maxHeartbeats 1000000 in
theorem drawColour_any (HGA : Hid GraphAnyC) (a : Option Addr) (c : Nat) (bs : List Nat) (w : World) (hr : RdB w a bs) :
    Calls Try.prog 21 #[.slice a bs.length c] w fun e w' => ∃ (z : Gz) (x : Int), e = .returned (.tuple #[z.val, .int .i64 x]) ∧ in64 x ∧ RdG w' z ∧ 1 ≤ z.ks.length ∧ z.ks.length ≤ 201 ∧ (∀ y ∈ z.bs, y.ct.ws.length ≤ y.c) ∧ Below w.heap.size w w' := by
  have hb0 : Below w.heap.size w (w.alloc (.cells #[.slice none 0 0, .slice none 0 0] 32)) := (Below.refl _ _).alloc (Nat.le_refl _) _
  have X0 := kide (Bz.new w #[.slice none 0 0, .slice none 0 0] 32)
  have HB0 := kide hb0
  have HR := kide (hr.later hb0)
  clear hb0 hr
  go_enter Try.func21, Try.ntmps21
  go_wp2_with fail
  generalize w.alloc (.cells #[.slice none 0 0, .slice none 0 0] 32) = w0 at *
  refine (open_any a c bs _ HR.out).mono ?_
  rintro e w1 ⟨β, rfl, hβ, hr1, hb1⟩
  have X1 := kide (X0.out.later hb1)
  have HB1 := kide (HB0.out.trans (hb1.mono HB0.out.size))
  have HR1 := kide hr1
  have hβ2 : w.heap.size < β := Nat.lt_of_lt_of_le X0.out.lt hβ
  have hβ3 : β < w1.heap.size := hr1.lt
  clear hb1 hr1
  go_wp2_with fail
  refine (HGA.out β a c bs _ HR1.out).mono ?_
  rintro e w2 ⟨z, rfl, hz, hzl, hz1, hzb, hr2, hd2, hcp, hfar⟩
  have X2 := kide (bz_grown X1.out hd2 (fun e => by simp at e; omega))
  have HB2 := kide (HB1.out.grown hd2 HB1.out.size (fun b e => by cases e; omega))
  have HZ := kide hz
  have HR2 := kide hr2
  obtain ⟨a1, c1, ks, a2, c2, ys⟩ := z
  simp only [Gz.val] at hzl hz1 hzb hcp ⊢
  have HCP := kide hcp
  have hl3 : β < w2.heap.size := hr2.lt
  have HQ := kide (And.intro hzl hz1)
  have hba : Below w2.heap.size w2 (w2.alloc (Obj.cells #[Value.slice a1 ks.length c1, Value.slice a2 ys.length c2] 32)) := (Below.refl _ _).alloc (Nat.le_refl _) _
  have XG := kide (Bz.new w2 #[Value.slice a1 ks.length c1, Value.slice a2 ys.length c2] 32)
  have X3 := kide (X2.out.later hba)
  have HB3 := kide (HB2.out.trans (hba.mono HB2.out.size))
  have HFAR := kide (fun (u : World) (hk : Ktg (w2.alloc (Obj.cells #[Value.slice a1 ks.length c1, Value.slice a2 ys.length c2] 32)) u none) => hfar u ((Ktg.below hba).trans hk))
  have HR3 := kide (hr2.later hba)
  have hws : w.heap.size < w2.heap.size := X2.out.lt
  clear hz hr2 hd2 hzl hz1 hzb hba hfar hcp
  go_wp2_with fail
  obtain ⟨G, hG⟩ : ∃ G, w2.heap.size = G := ⟨_, rfl⟩
  rw [hG] at XG hl3 hws
  simp only [hG]
  generalize w2.alloc (Obj.cells #[Value.slice a1 ks.length c1, Value.slice a2 ys.length c2] 32) = w3 at *
  have x0 := XG.out.cell 0
  have x1 := XG.out.cell 1
  simp at x0 x1
  have lG := XG.out.lt
  clear hG X0 HB0 HR hβ X1 HB1 HR1 hβ3 X2 HB2 HR2 HZ
  refine Calls.mono (once_any 4 (by omega) (by omega) β a c bs _ HR3.out) ?_
  rintro e wo ⟨bo, rfl, hro, hdo⟩
  have hn1 : some w.heap.size ≠ some β := fun e => by simp at e; omega
  have hn2 : some G ≠ some β := fun e => by simp at e; omega
  have hn3 : some G ≠ some w.heap.size := fun e => by simp at e; omega
  have XGo := kide (bz_grown XG.out hdo hn2)
  have X3o := kide (bz_grown X3.out hdo hn1)
  have HB3o := kide (HB3.out.grown hdo HB3.out.size (fun b e => by cases e; omega))
  have HFARo := kide (fun (u : World) (hk : Ktg wo u none) => HFAR.out u ((Ktg.dw HR3.out hdo).trans hk))
  have HRo := kide hro
  clear hdo hro XG X3 HB3 HFAR HR3 x0 x1 lG
  have XG := kide XGo.out
  have X3 := kide X3o.out
  have HB3 := kide HB3o.out
  have HFAR := kide HFARo.out
  have HR3 := kide HRo.out
  clear XGo X3o HB3o HFARo HRo
  have x0 := XG.out.cell 0
  have x1 := XG.out.cell 1
  simp at x0 x1
  have lG := XG.out.lt
  cases bo with
  | true =>
    have HOFF := kide (fun (u : World) (hu : Below wo.heap.size wo u) => off0_any 12 (by unfold in64; omega) β a c bs u (HR3.out.later hu))
    have XGd := kide (fun (u : World) (hd : Dw β wo.drew u) => bz_grown (XG.out.later ((Below.refl _ _).drew)) hd hn2)
    have XRd := kide (fun (u : World) (hd : Dw β wo.drew u) => bz_grown (X3.out.later ((Below.refl _ _).drew)) hd hn1)
    go_wp2_with fail
    go_region_held3 (fun u => u.cell? ⟨G, 0, none⟩ = some (Value.slice a1 ks.length c1) ∧ u.cell? ⟨G, 1, none⟩ = some (Value.slice a2 ys.length c2)) (first | (simp [*]; done) | exact ⟨(kcell ((Below.refl _ _).drew) _ _ lG).trans x0, (kcell ((Below.refl _ _).drew) _ _ lG).trans x1⟩ | exact ⟨(bz_grown (bz_grown XG5 (gsc _ ⟨w.heap.size, 0, none⟩ _) hn3) (gsc _ ⟨w.heap.size, 1, none⟩ _) hn3).cell 0, (bz_grown (bz_grown XG5 (gsc _ ⟨w.heap.size, 0, none⟩ _) hn3) (gsc _ ⟨w.heap.size, 1, none⟩ _) hn3).cell 1⟩)
      (first
        | (go_at_call 47; go_loud (refine Calls.mono (HOFF.out _ ((Below.refl _ _).drew)) ?_; rintro e w5 ⟨x, rfl, hx, hr5, hd5⟩; have X5 := XRd.out _ hd5; have XG5 := XGd.out _ hd5; have y0 := XG5.cell 0; have y1 := XG5.cell 1; have d0 := X5.cell 0; have d1 := X5.cell 1; have f0 := X5.froz 0; have f1 := X5.froz 1; simp at y0 y1 d0 d1)))
    have hgt : 32 ≠ 2 ∧ 32 ≠ 86 ∧ 32 ≠ 88 := by decide
    have RZ := HFAR.out _ (((Ktg.dw HR3.out hd5.undrew).trans (Ktg.put X5 hgt (i := 0) (Value.slice a1 ks.length c1))).trans (Ktg.put (X5.set 0 _) hgt (i := 1) (Value.slice a2 ys.length c2)))
    have BZ : Below w.heap.size w ((w5.setCell ⟨w.heap.size, 0, none⟩ (Value.slice a1 ks.length c1)).setCell ⟨w.heap.size, 1, none⟩ (Value.slice a2 ys.length c2)) := ((HB3.out.drew.grown hd5 HB3.out.size (fun b e => by cases e; omega)).setCell (Nat.le_refl _) _).setCell (Nat.le_refl _) _
    have XR := (X5.set 0 (Value.slice a1 ks.length c1)).set 1 (Value.slice a2 ys.length c2)
    have r0 := XR.cell 0
    have r1 := XR.cell 1
    simp at r0 r1
    generalize (w5.setCell ⟨w.heap.size, 0, none⟩ (Value.slice a1 ks.length c1)).setCell ⟨w.heap.size, 1, none⟩ (Value.slice a2 ys.length c2) = w6 at *
    go_wp2_with fail
    refine bodyPost_ret (v := .tuple #[.agg #[.slice a1 ks.length c1, .slice a2 ys.length c2], .int .i64 x]) (by simp [results, Try.results21, go_sem, r0, r1]) rfl ?_
    exact ⟨⟨a1, c1, ks, a2, c2, ys⟩, x, rfl, hx, RZ, HQ.out.2, HQ.out.1, HCP.out, BZ⟩
  | false =>
    have HOFF := kide (fun (u : World) (hu : Below wo.heap.size wo u) => off0_any 400 (by unfold in64; omega) β a c bs u (HR3.out.later hu))
    have XGd := kide (fun (u : World) (hd : Dw β wo.drew u) => bz_grown (XG.out.later ((Below.refl _ _).drew)) hd hn2)
    have XRd := kide (fun (u : World) (hd : Dw β wo.drew u) => bz_grown (X3.out.later ((Below.refl _ _).drew)) hd hn1)
    go_wp2_with fail
    go_region_held3 (fun u => u.cell? ⟨G, 0, none⟩ = some (Value.slice a1 ks.length c1) ∧ u.cell? ⟨G, 1, none⟩ = some (Value.slice a2 ys.length c2)) (first | (simp [*]; done) | exact ⟨(kcell ((Below.refl _ _).drew) _ _ lG).trans x0, (kcell ((Below.refl _ _).drew) _ _ lG).trans x1⟩ | exact ⟨(bz_grown (bz_grown XG5 (gsc _ ⟨w.heap.size, 0, none⟩ _) hn3) (gsc _ ⟨w.heap.size, 1, none⟩ _) hn3).cell 0, (bz_grown (bz_grown XG5 (gsc _ ⟨w.heap.size, 0, none⟩ _) hn3) (gsc _ ⟨w.heap.size, 1, none⟩ _) hn3).cell 1⟩)
      (first
        | (go_at_call 47; go_loud (refine Calls.mono (HOFF.out _ ((Below.refl _ _).drew)) ?_; rintro e w5 ⟨x, rfl, hx, hr5, hd5⟩; have X5 := XRd.out _ hd5; have XG5 := XGd.out _ hd5; have y0 := XG5.cell 0; have y1 := XG5.cell 1; have d0 := X5.cell 0; have d1 := X5.cell 1; have f0 := X5.froz 0; have f1 := X5.froz 1; simp at y0 y1 d0 d1)))
    have hgt : 32 ≠ 2 ∧ 32 ≠ 86 ∧ 32 ≠ 88 := by decide
    have RZ := HFAR.out _ (((Ktg.dw HR3.out hd5.undrew).trans (Ktg.put X5 hgt (i := 0) (Value.slice a1 ks.length c1))).trans (Ktg.put (X5.set 0 _) hgt (i := 1) (Value.slice a2 ys.length c2)))
    have BZ : Below w.heap.size w ((w5.setCell ⟨w.heap.size, 0, none⟩ (Value.slice a1 ks.length c1)).setCell ⟨w.heap.size, 1, none⟩ (Value.slice a2 ys.length c2)) := ((HB3.out.drew.grown hd5 HB3.out.size (fun b e => by cases e; omega)).setCell (Nat.le_refl _) _).setCell (Nat.le_refl _) _
    have XR := (X5.set 0 (Value.slice a1 ks.length c1)).set 1 (Value.slice a2 ys.length c2)
    have r0 := XR.cell 0
    have r1 := XR.cell 1
    simp at r0 r1
    generalize (w5.setCell ⟨w.heap.size, 0, none⟩ (Value.slice a1 ks.length c1)).setCell ⟨w.heap.size, 1, none⟩ (Value.slice a2 ys.length c2) = w6 at *
    go_wp2_with fail
    refine bodyPost_ret (v := .tuple #[.agg #[.slice a1 ks.length c1, .slice a2 ys.length c2], .int .i64 x]) (by simp [results, Try.results21, go_sem, r0, r1]) rfl ?_
    exact ⟨⟨a1, c1, ks, a2, c2, ys⟩, x, rfl, hx, RZ, HQ.out.2, HQ.out.1, HCP.out, BZ⟩

end Go.Proofs.Ythoiajpbpoglfaa
