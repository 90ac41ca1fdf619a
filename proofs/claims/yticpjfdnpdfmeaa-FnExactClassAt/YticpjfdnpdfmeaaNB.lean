/- Contracts of the laws' own small functions on rows of classes: compared, copied. -/
import Derived.Test.YticpjfdnpdfmeaaNA
namespace Go.Proofs.Yticpjfdnpdfmeaa
set_option linter.unusedVariables false
set_option linter.unusedSimpArgs false
open Go.RowKit

theorem eqClass_same (s : Cc) (sa sb wa wb : Option Addr) (c1 d1 c2 d2 : Nat) (w : World) (hr1 : RdI w sa s.ks) (hs1 : RdI w sb s.ks) (hr2 : Rd w wa s.ws) (hs2 : Rd w wb s.ws) :
    Calls Try.prog 79 #[.agg #[.slice sa s.ks.length c1, .bool s.fx, .int .i64 s.bw, .slice wa s.ws.length c2], .agg #[.slice sb s.ks.length d1, .bool s.fx, .int .i64 s.bw, .slice wb s.ws.length d2]] w fun e w' => e = .returned (.bool true) ∧ Below w.heap.size w w' := by
  obtain ⟨ks, fx, bw, ws⟩ := s
  simp only [] at hr1 hs1 hr2 hs2 ⊢
  have h2 : Below w.heap.size w ((w.alloc (Obj.cells #[Value.slice sa ks.length c1, Value.bool fx, Value.int .i64 bw, Value.slice wa ws.length c2] 93)).alloc (Obj.cells #[Value.slice sb ks.length d1, Value.bool fx, Value.int .i64 bw, Value.slice wb ws.length d2] 93)) := ((Below.refl _ _).alloc (Nat.le_refl _) _).alloc (by simp) _
  have HI : Hid (∀ u, Below w.heap.size w u → Calls Try.prog 61 #[.slice sa ks.length c1, .slice sb ks.length d1] u fun e w' => e = .returned (.bool true) ∧ Below u.heap.size u w') := fun u hu => by
    have := eqInt64S_any sa sb c1 d1 ks ks u (hr1.later hu) (hs1.later hu)
    simpa using this
  have HE : Hid (∀ u, Below w.heap.size w u → Calls Try.prog 74 #[.agg #[.int .i64 bw, .slice wa ws.length c2], .agg #[.int .i64 bw, .slice wb ws.length d2]] u fun e w' => e = .returned (.bool true) ∧ Below u.heap.size u w') := fun u hu => by
    have := eqBits_any bw bw wa wb c2 d2 ws ws u (hr2.later hu) (hs2.later hu)
    simpa using this
  have B2 := kide h2
  have hff : (fx != fx) = false := by simp
  clear hr1 hs1 hr2 hs2 h2
  go_enter Try.func79, Try.ntmps79
  go_wp2_with fail
  refine Calls.mono (HI.out _ B2.out) ?_
  rintro e w1 ⟨rfl, hb1⟩
  have k0 := kcell hb1 w.heap.size 1 (by simp; omega)
  have k1 := kcell hb1 w.heap.size 2 (by simp; omega)
  have k2 := kcell hb1 w.heap.size 3 (by simp; omega)
  have j0 := kcell hb1 (w.heap.size + 1) 1 (by simp)
  have j1 := kcell hb1 (w.heap.size + 1) 2 (by simp)
  have j2 := kcell hb1 (w.heap.size + 1) 3 (by simp)
  have B3 := kide (B2.out.trans (hb1.mono B2.out.size))
  simp at k0 k1 k2 j0 j1 j2
  clear hb1
  go_wp2_with fail
  refine Calls.mono (HE.out _ B3.out) ?_
  rintro e w2 ⟨rfl, hb2⟩
  go_wp2_with fail
  go_ret
  exact ⟨rfl, B3.out.trans (hb2.mono B3.out.size)⟩

theorem eqClassS_same (a b : Option Addr) (c d : Nat) (xs ys : List Cg) (w : World) (hr : RdC w a xs) (hs : RdC w b ys) (he : xs.map Cg.ct = ys.map Cg.ct) (n : Nat) (h1 : xs.length = n) (h2 : ys.length = n) :
    Calls Try.prog 60 #[.slice a n c, .slice b n d] w fun e w' => e = .returned (.bool true) ∧ Below w.heap.size w w' := by
  have hl1 := hr.1
  rw [h1] at hl1
  have hne : ((n : Int) != (n : Int)) = false := by simp
  have H1 := kide h1
  have H2 := kide h2
  have HE := kide he
  clear h1 h2 he
  go_enter Try.func60, Try.ntmps60
  go_wp2_with fail
  clear hne
  go_loopw [5] (fun i wr => ∃ k : Nat, k ≤ n ∧ i = .int .i64 k ∧ Below w.heap.size w wr) (fun i _ => n - (intOf i).toNat)
  case atStart => exact ⟨0, Nat.zero_le _, rfl, Below.refl _ _⟩
  case round =>
    obtain ⟨k, hk, rfl, hbel⟩ := hrel
    have HB := kide hbel
    by_cases hlt : k < n
    · obtain ⟨-, h | ⟨b1, o1, rfl, hc1⟩⟩ := hr
      · have := H1.out; subst h; simp at this; omega
      obtain ⟨-, h | ⟨b2, o2, rfl, hc2⟩⟩ := hs
      · have := H2.out; subst h; simp at this; omega
      obtain ⟨⟨s1, sa, sc, wa, wc⟩, hx⟩ : ∃ x, xs[k]? = some x := ⟨xs[k]'(by rw [H1.out]; exact hlt), List.getElem?_eq_getElem _⟩
      obtain ⟨⟨s2, sa', sc', wa', wc'⟩, hy⟩ : ∃ y, ys[k]? = some y := ⟨ys[k]'(by rw [H2.out]; exact hlt), List.getElem?_eq_getElem _⟩
      have hxy : s1 = s2 := by
        have h := congrArg (fun l => l[k]?) HE.out
        simp [hx, hy] at h
        exact h
      subst hxy
      obtain ⟨⟨p0, p1, p2, p3⟩, pi, pr, -⟩ := (hc1 k _ hx).later hbel
      obtain ⟨⟨q0, q1, q2, q3⟩, qi, qr, -⟩ := (hc2 k _ hy).later hbel
      simp only [Cg.hd] at p0 p1 p2 p3 pi pr q0 q1 q2 q3 qi qr
      have l1 := block_lt_of_cell p0
      have l2 := block_lt_of_cell q0
      have i0 : (k : Int) < (n : Int) := by omega
      have HEQ := kide (fun u (hu : Below wr.heap.size wr u) => eqClass_same s1 sa sa' wa wa' sc sc' wc wc' u (pi.later hu) (qi.later hu) (pr.later hu) (qr.later hu))
      obtain ⟨ks, fx, bw, ws⟩ := s1
      simp only [] at p0 p1 p2 p3 q0 q1 q2 q3 HEQ
      clear hc1 hc2 hbel hx hy pr qr pi qi
      go_wp2_with fail
      go_region_held3 (fun u => u.cell? ⟨b1, o1 + k * 4, none⟩ = some (Value.slice sa ks.length sc) ∧ u.cell? ⟨b1, o1 + k * 4 + 1, none⟩ = some (Value.bool fx) ∧ u.cell? ⟨b1, o1 + k * 4 + 2, none⟩ = some (Value.int .i64 bw) ∧ u.cell? ⟨b1, o1 + k * 4 + 3, none⟩ = some (Value.slice wa ws.length wc) ∧ u.cell? ⟨b2, o2 + k * 4, none⟩ = some (Value.slice sa' ks.length sc') ∧ u.cell? ⟨b2, o2 + k * 4 + 1, none⟩ = some (Value.bool fx) ∧ u.cell? ⟨b2, o2 + k * 4 + 2, none⟩ = some (Value.int .i64 bw) ∧ u.cell? ⟨b2, o2 + k * 4 + 3, none⟩ = some (Value.slice wa' ws.length wc')) (simp [*])
        ((go_at_call 79; refine Calls.mono (HEQ.out _ ?_) ?_; exact (Below.refl _ _).drew; rintro e w1 ⟨rfl, hb1⟩; replace hb1 := kundrew hb1; have k0 := kcell hb1 b1 (o1 + k * 4) l1; have k1 := kcell hb1 b1 (o1 + k * 4 + 1) l1; have k2 := kcell hb1 b1 (o1 + k * 4 + 2) l1; have k3 := kcell hb1 b1 (o1 + k * 4 + 3) l1; have j0 := kcell hb1 b2 (o2 + k * 4) l2; have j1 := kcell hb1 b2 (o2 + k * 4 + 1) l2; have j2 := kcell hb1 b2 (o2 + k * 4 + 2) l2; have j3 := kcell hb1 b2 (o2 + k * 4 + 3) l2))
      go_wp2_with fail
      go_roundw
      case rel => exact ⟨k + 1, by omega, by go_num, HB.out.trans (hb1.mono HB.out.size)⟩
      case measure => simp [intOf]; omega
    · clear hbel
      go_wp2_with fail
      go_ret
      exact ⟨rfl, HB.out⟩

theorem toClass_any (s : Cc) (sa wa : Option Addr) (c1 c2 : Nat) (w : World) (hr1 : RdI w sa s.ks) (hr2 : Rd w wa s.ws) :
    Calls Try.prog 77 #[.agg #[.slice sa s.ks.length c1, .bool s.fx, .int .i64 s.bw, .slice wa s.ws.length c2]] w fun e w' => ∃ g1 g2, e = .returned (.agg #[.slice (some ⟨g1, 0, none⟩) s.ks.length s.ks.length, .bool s.fx, .int .i64 s.bw, .slice (some ⟨g2, 0, none⟩) s.ws.length s.ws.length]) ∧ w.heap.size ≤ g1 ∧ w.heap.size ≤ g2 ∧ OwnI w' g1 s.ks ∧ Own w' g2 s.ws ∧ Below w.heap.size w w' := by
  obtain ⟨ks, fx, bw, ws⟩ := s
  simp only [] at hr1 hr2 ⊢
  go_enter Try.func77, Try.ntmps77
  go_wp2_with fail
  have h3 : Below w.heap.size w (((w.alloc (Obj.cells #[Value.slice sa ks.length c1, Value.bool fx, Value.int .i64 bw, Value.slice wa ws.length c2] 113)).alloc (Obj.cells #[Value.slice none 0 0, Value.bool false, Value.int .i64 0, Value.slice none 0 0] 93)).alloc (Obj.cells #[Value.slice none 0 0, Value.bool false, Value.int .i64 0, Value.slice none 0 0] 93)) := (((Below.refl _ _).alloc (Nat.le_refl _) _).alloc (by simp) _).alloc (by simp; omega) _
  refine (toInt64S_any sa c1 ks _ (hr1.later h3)).mono ?_
  rintro e w1 ⟨rfl, hown, hb⟩
  obtain ⟨hc, hf⟩ := bcell hb
  have hz : w.heap.size + 1 + 1 < w1.heap.size := by have := hb.size; simp at this; omega
  have za0 : w1.cell? ⟨w.heap.size + 1, 0, none⟩ = some (Value.slice none 0 0) := by rw [hc _ _ (by first | (simp; done) | (simp; omega))]; simp [go_sem]
  have zb0 : w1.cell? ⟨w.heap.size + 1 + 1, 0, none⟩ = some (Value.slice none 0 0) := by rw [hc _ _ (by first | (simp; done) | (simp; omega))]; simp [go_sem]
  have fa0 : w1.frozen? ⟨w.heap.size + 1, 0, none⟩ = false := by rw [hf _ _ (by first | (simp; done) | (simp; omega))]; simp [go_sem]
  have fb0 : w1.frozen? ⟨w.heap.size + 1 + 1, 0, none⟩ = false := by rw [hf _ _ (by first | (simp; done) | (simp; omega))]; simp [go_sem]
  have za1 : w1.cell? ⟨w.heap.size + 1, 1, none⟩ = some (Value.bool false) := by rw [hc _ _ (by first | (simp; done) | (simp; omega))]; simp [go_sem]
  have zb1 : w1.cell? ⟨w.heap.size + 1 + 1, 1, none⟩ = some (Value.bool false) := by rw [hc _ _ (by first | (simp; done) | (simp; omega))]; simp [go_sem]
  have fa1 : w1.frozen? ⟨w.heap.size + 1, 1, none⟩ = false := by rw [hf _ _ (by first | (simp; done) | (simp; omega))]; simp [go_sem]
  have fb1 : w1.frozen? ⟨w.heap.size + 1 + 1, 1, none⟩ = false := by rw [hf _ _ (by first | (simp; done) | (simp; omega))]; simp [go_sem]
  have za2 : w1.cell? ⟨w.heap.size + 1, 2, none⟩ = some (Value.int .i64 0) := by rw [hc _ _ (by first | (simp; done) | (simp; omega))]; simp [go_sem]
  have zb2 : w1.cell? ⟨w.heap.size + 1 + 1, 2, none⟩ = some (Value.int .i64 0) := by rw [hc _ _ (by first | (simp; done) | (simp; omega))]; simp [go_sem]
  have fa2 : w1.frozen? ⟨w.heap.size + 1, 2, none⟩ = false := by rw [hf _ _ (by first | (simp; done) | (simp; omega))]; simp [go_sem]
  have fb2 : w1.frozen? ⟨w.heap.size + 1 + 1, 2, none⟩ = false := by rw [hf _ _ (by first | (simp; done) | (simp; omega))]; simp [go_sem]
  have za3 : w1.cell? ⟨w.heap.size + 1, 3, none⟩ = some (Value.slice none 0 0) := by rw [hc _ _ (by first | (simp; done) | (simp; omega))]; simp [go_sem]
  have zb3 : w1.cell? ⟨w.heap.size + 1 + 1, 3, none⟩ = some (Value.slice none 0 0) := by rw [hc _ _ (by first | (simp; done) | (simp; omega))]; simp [go_sem]
  have fa3 : w1.frozen? ⟨w.heap.size + 1, 3, none⟩ = false := by rw [hf _ _ (by first | (simp; done) | (simp; omega))]; simp [go_sem]
  have fb3 : w1.frozen? ⟨w.heap.size + 1 + 1, 3, none⟩ = false := by rw [hf _ _ (by first | (simp; done) | (simp; omega))]; simp [go_sem]
  have HO := kide hown
  have HB := kide (h3.trans (hb.mono h3.size))
  have HR2 := kide hr2
  clear hown hb hr1 hr2 h3
  go_wp2_with fail
  refine (toBits_any bw wa c2 ws _ (HR2.out.later ((HB.out.setCell (by simp; omega) _).setCell (by simp; omega) _))).mono ?_
  rintro e w2 ⟨g, rfl, hg, hown2, hb2⟩
  obtain ⟨hc2, hf2⟩ := bcell hb2
  have hz2 : w1.heap.size ≤ w2.heap.size := by have := hb2.size; simpa using this
  have hg2 : w1.heap.size ≤ g := by simpa using hg
  have HO2 := kide hown2
  have HB2 : Hid (Below w.heap.size w w2) := Below.trans ((HB.out.setCell (by simp; omega) _).setCell (by simp; omega) _) (hb2.mono (by simp; omega))
  have HO1 : Hid (OwnI w2 (w.heap.size + 1 + 1 + 1) ks) := by
    have h := HO.out
    simp only [World.size_alloc] at h
    exact OwnI.later ((OwnI.other h (by simp) _).other (by simp) _) hb2 (by have := h.lt; simpa using this)
  have hz3 : w.heap.size + 1 + 1 + 1 < w1.heap.size := by have h := HO.out; simp only [World.size_alloc] at h; exact h.lt
  have ya0 : w2.cell? ⟨w.heap.size + 1, 0, none⟩ = some (Value.slice none 0 0) := by rw [hc2 _ _ (by first | (simp; done) | (simp; omega))]; simp [go_sem, za0]
  have yb0 : w2.cell? ⟨w.heap.size + 1 + 1, 0, none⟩ = some (Value.slice (some ⟨w.heap.size + 1 + 1 + 1, 0, none⟩) ks.length ks.length) := by rw [hc2 _ _ (by first | (simp; done) | (simp; omega))]; simp [go_sem, zb0, zb1, zb2, zb3, fb0, fb1]
  have ga0 : w2.frozen? ⟨w.heap.size + 1, 0, none⟩ = false := by rw [hf2 _ _ (by first | (simp; done) | (simp; omega))]; simp [go_sem, fa0]
  have gb0 : w2.frozen? ⟨w.heap.size + 1 + 1, 0, none⟩ = false := by rw [hf2 _ _ (by first | (simp; done) | (simp; omega))]; simp [go_sem, fb0]
  have ya1 : w2.cell? ⟨w.heap.size + 1, 1, none⟩ = some (Value.bool false) := by rw [hc2 _ _ (by first | (simp; done) | (simp; omega))]; simp [go_sem, za1]
  have yb1 : w2.cell? ⟨w.heap.size + 1 + 1, 1, none⟩ = some (Value.bool fx) := by rw [hc2 _ _ (by first | (simp; done) | (simp; omega))]; simp [go_sem, zb0, zb1, zb2, zb3, fb0, fb1]
  have ga1 : w2.frozen? ⟨w.heap.size + 1, 1, none⟩ = false := by rw [hf2 _ _ (by first | (simp; done) | (simp; omega))]; simp [go_sem, fa1]
  have gb1 : w2.frozen? ⟨w.heap.size + 1 + 1, 1, none⟩ = false := by rw [hf2 _ _ (by first | (simp; done) | (simp; omega))]; simp [go_sem, fb1]
  have ya2 : w2.cell? ⟨w.heap.size + 1, 2, none⟩ = some (Value.int .i64 0) := by rw [hc2 _ _ (by first | (simp; done) | (simp; omega))]; simp [go_sem, za2]
  have yb2 : w2.cell? ⟨w.heap.size + 1 + 1, 2, none⟩ = some (Value.int .i64 0) := by rw [hc2 _ _ (by first | (simp; done) | (simp; omega))]; simp [go_sem, zb0, zb1, zb2, zb3, fb0, fb1]
  have ga2 : w2.frozen? ⟨w.heap.size + 1, 2, none⟩ = false := by rw [hf2 _ _ (by first | (simp; done) | (simp; omega))]; simp [go_sem, fa2]
  have gb2 : w2.frozen? ⟨w.heap.size + 1 + 1, 2, none⟩ = false := by rw [hf2 _ _ (by first | (simp; done) | (simp; omega))]; simp [go_sem, fb2]
  have ya3 : w2.cell? ⟨w.heap.size + 1, 3, none⟩ = some (Value.slice none 0 0) := by rw [hc2 _ _ (by first | (simp; done) | (simp; omega))]; simp [go_sem, za3]
  have yb3 : w2.cell? ⟨w.heap.size + 1 + 1, 3, none⟩ = some (Value.slice none 0 0) := by rw [hc2 _ _ (by first | (simp; done) | (simp; omega))]; simp [go_sem, zb0, zb1, zb2, zb3, fb0, fb1]
  have ga3 : w2.frozen? ⟨w.heap.size + 1, 3, none⟩ = false := by rw [hf2 _ _ (by first | (simp; done) | (simp; omega))]; simp [go_sem, fa3]
  have gb3 : w2.frozen? ⟨w.heap.size + 1 + 1, 3, none⟩ = false := by rw [hf2 _ _ (by first | (simp; done) | (simp; omega))]; simp [go_sem, fb3]
  clear hown2 hb2 hg HO HB HR2 hc2 hf2 hc hf za0 za1 za2 za3 zb0 zb1 zb2 zb3 fa0 fa1 fa2 fa3 fb0 fb1 fb2 fb3
  go_wp2_with fail
  refine bodyPost_ret (v := .agg #[.slice (some ⟨w.heap.size + 1 + 1 + 1, 0, none⟩) ks.length ks.length, .bool fx, .int .i64 bw, .slice (some ⟨g, 0, none⟩) ws.length ws.length]) (by simp [results, Try.results77, go_sem, ya0, ya1, ya2, ya3, yb0, yb1, yb2, yb3]) rfl ⟨_, g, rfl, by omega, by omega, ?_, ?_, ?_⟩
  · exact (((((HO1.out.other (by simp) _).other (by simp) _).other (by simp; omega) _).other (by simp; omega) _).other (by simp; omega) _).other (by simp; omega) _
  · exact (((((HO2.out.other (by simp; omega) _).other (by simp; omega) _).other (by simp; omega) _).other (by simp; omega) _).other (by simp; omega) _).other (by simp; omega) _
  · exact (((((HB2.out.setCell (by simp; omega) _).setCell (by simp; omega) _).setCell (by simp) _).setCell (by simp) _).setCell (by simp) _).setCell (by simp) _

end Go.Proofs.Yticpjfdnpdfmeaa
