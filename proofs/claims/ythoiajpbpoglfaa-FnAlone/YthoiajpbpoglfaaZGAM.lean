/- Several texts in one. -/
import Derived.Test.YthoiajpbpoglfaaZGAJ
import Derived.Test.YthoiajpbpoglfaaBQ
import Derived.Test.YthoiajpbpoglfaaZGAI

/- What the given l10Crowd answers. -/
namespace Go.Proofs.Ythoiajpbpoglfaa
set_option linter.unusedVariables false
set_option linter.unusedSimpArgs false
open Go.RowKit Go.WideMaps Go.Maps

/-- The other node of a bar of this one. -/
def othC (x : Int) (s : Yc) : Option Int := if s.v = x then (if s.lo < 0 then none else some s.lo) else if s.lo = x then some s.v else none
def othR (x : Int) (ys : List Yc) : List Int := ys.filterMap (othC x)
def valC (x : Int) (s : Yc) : Bool := decide (s.v = x) && decide (s.lo < 0)
def valR (x : Int) (ys : List Yc) : List Yc := (ys.filter (valC x)).foldl putY []

theorem othR_step {ys : List Yc} {k : Nat} {s : Yc} (h : ys[k]? = some s) (x : Int) : othR x (ys.take (k + 1)) = othR x (ys.take k) ++ (othC x s).toList := by
  rw [List.take_add_one, h]
  unfold othR
  rw [List.filterMap_append]
  cases e : othC x s <;> simp [e]
theorem valR_step {ys : List Yc} {k : Nat} {s : Yc} (h : ys[k]? = some s) (x : Int) : valR x (ys.take (k + 1)) = if valC x s = true then putY (valR x (ys.take k)) s else valR x (ys.take k) := by
  rw [List.take_add_one, h]
  unfold valR
  rw [List.filter_append, List.foldl_append]
  cases e : valC x s <;> simp [e]
theorem othR_len (x : Int) (ys : List Yc) : (othR x ys).length ≤ ys.length := List.length_filterMap_le _ _
theorem putY_len (l : List Yc) (s : Yc) : (putY l s).length ≤ l.length + 1 := by
  unfold putY; split <;> simp
theorem foldY_len (xs : List Yc) : ∀ l, (xs.foldl putY l).length ≤ l.length + xs.length := by
  induction xs with
  | nil => intro l; simp
  | cons x t ih =>
    intro l
    have h1 := ih (putY l x)
    have h2 := putY_len l x
    simp only [List.foldl_cons, List.length_cons]
    omega
theorem valR_len (x : Int) (ys : List Yc) : (valR x ys).length ≤ ys.length := by
  have h1 := foldY_len (ys.filter (valC x)) []
  have h2 := List.length_filter_le (valC x) ys
  unfold valR
  simp at h1
  omega
theorem OI1.ksb {w w' : World} {B : Nat} {v : Value} {xs : List Int} (h : OI1 w B v xs) (hk : Ksb w w') : OI1 w' B v xs := owr_move h (fun b hb => by obtain ⟨⟨cur, hc⟩, -⟩ := owr_typed h hb; exact hk.stay b _ _ _ hc (by decide) (by decide))
theorem OB4.ksh {w w' : World} {B : Nat} {v : Value} {l : List Yg} (h : OB4 w B v l) (hk : Ksh w w') : OB4 w' B v l := h.move (fun b hb => by obtain ⟨cur, hc⟩ := h.typed hb; exact hk.stay b _ _ _ hc (by decide) (by decide))
theorem nw_ksh {w w' : World} {lo : Nat} {a : Option Addr} {xs : List Nat} (h : Nw w lo a xs) (hk : Ksh w w') : Nw w' lo a xs := Nw.kept h fun k cur hc => hk.stay k _ _ _ hc (by decide) (by decide)
theorem OB4.empty (w : World) (B : Nat) (h : B ≤ w.heap.size) : OB4 (w.alloc (.cells #[] 86)) B (.slice (some ⟨w.heap.size, 0, Option.none⟩) 0 0) [] := World.ownsRow_made w #[] 0 h (Nat.zero_le _) (by simp)
theorem okY_at {w : World} {b o : Nat} {x : Yg} (h : YgAt w b o x) : okY x.ct := by
  obtain ⟨-, hr, h1, h2, h3⟩ := h
  exact ⟨h1, h2, h3, hr.2.1, hr.1⟩

set_option maxHeartbeats 4000000 in
set_option maxRecDepth 100000 in
theorem l10Crowd_any (z : Gz) (x : Int) (w : World) (hz : RdG w z) (hgd : ∀ y ∈ z.bs, y.ct.lo < 0 → 0 < y.ct.ws.length) (hb1000 : z.bs.length ≤ 1000) :
    Calls Try.prog 27 #[z.val, .int .i64 x] w fun e w' => e = .returned (.int .i64 (((risI [] (othR x (z.bs.map Yg.ct))).length : Int) + ((valR x (z.bs.map Yg.ct)).length : Int))) ∧ Below w.heap.size w w' := by
  obtain ⟨a1, c1, ks, a2, c2, bs⟩ := z
  obtain ⟨hz1, hz2⟩ := hz
  simp only [Gz.val] at *
  have HGD := kide hgd
  have hb0 : Below w.heap.size w (w.alloc (Obj.cells #[Value.slice a1 ks.length c1, Value.slice a2 bs.length c2] 32)) := (Below.refl _ _).alloc (Nat.le_refl _) _
  have X0 := kide (Bz.new w #[Value.slice a1 ks.length c1, Value.slice a2 bs.length c2] 32)
  have HZ2 := kide (hz2.later hb0)
  have BW := kide hb0
  obtain ⟨n1, e1⟩ : ∃ n1, ks.length = n1 := ⟨_, rfl⟩
  obtain ⟨n2, e2⟩ : ∃ n2, bs.length = n2 := ⟨_, rfl⟩
  rw [e1, e2] at X0 HZ2 BW
  rw [e2] at hb1000
  rw [e1, e2]
  have HE2 := kide e2
  obtain ⟨RR, hRR⟩ : ∃ RR : Int, (((risI [] (othR x (bs.map Yg.ct))).length : Int) + ((valR x (bs.map Yg.ct)).length : Int)) = RR := ⟨_, rfl⟩
  rw [hRR]
  have HRR := kide hRR
  clear hz1 hz2 hb0 e1 e2 hgd hRR
  go_enter Try.func27, Try.ntmps27
  go_wp2_with fail
  have OO0 := kide (OI1.empty (w.alloc (Obj.cells #[Value.slice a1 n1 c1, Value.slice a2 n2 c2] 32)) _ (Nat.le_refl _))
  have hsz1 : (w.alloc (Obj.cells #[Value.slice a1 n1 c1, Value.slice a2 n2 c2] 32)).heap.size = w.heap.size + 1 := by simp
  have hbe : Below ((w.alloc (Obj.cells #[Value.slice a1 n1 c1, Value.slice a2 n2 c2] 32)).alloc (Obj.cells #[] 2)).heap.size ((w.alloc (Obj.cells #[Value.slice a1 n1 c1, Value.slice a2 n2 c2] 32)).alloc (Obj.cells #[] 2)) (((w.alloc (Obj.cells #[Value.slice a1 n1 c1, Value.slice a2 n2 c2] 32)).alloc (Obj.cells #[] 2)).alloc (Obj.cells #[] 86)) := (Below.refl _ _).alloc (Nat.le_refl _) _
  have OO1 := kide (OO0.out.later hbe)
  have OV1 := kide (OB4.empty ((w.alloc (Obj.cells #[Value.slice a1 n1 c1, Value.slice a2 n2 c2] 32)).alloc (Obj.cells #[] 2)) (w.alloc (Obj.cells #[Value.slice a1 n1 c1, Value.slice a2 n2 c2] 32)).heap.size (by simp))
  have BV1 : Hid (Below (w.alloc (Obj.cells #[Value.slice a1 n1 c1, Value.slice a2 n2 c2] 32)).heap.size (w.alloc (Obj.cells #[Value.slice a1 n1 c1, Value.slice a2 n2 c2] 32)) (((w.alloc (Obj.cells #[Value.slice a1 n1 c1, Value.slice a2 n2 c2] 32)).alloc (Obj.cells #[] 2)).alloc (Obj.cells #[] 86))) := ((Below.refl _ _).alloc (Nat.le_refl _) _).alloc (by simp) _
  rw [show ((w.alloc (Obj.cells #[Value.slice a1 n1 c1, Value.slice a2 n2 c2] 32)).alloc (Obj.cells #[] 2)).heap.size = w.heap.size + 1 + 1 by simp] at OV1
  rw [hsz1] at OO1
  clear OO0 hbe
  generalize ((w.alloc (Obj.cells #[Value.slice a1 n1 c1, Value.slice a2 n2 c2] 32)).alloc (Obj.cells #[] 2)).alloc (Obj.cells #[] 86) = V at *
  rw [← hsz1] at OO1
  generalize w.alloc (Obj.cells #[Value.slice a1 n1 c1, Value.slice a2 n2 c2] 32) = W at *
  obtain ⟨b0, hb0⟩ : ∃ b0, w.heap.size = b0 := ⟨_, rfl⟩
  rw [hb0] at X0 OV1 hsz1
  simp only [hb0]
  rw [hsz1] at OO1
  have HSZ1 := kide hsz1
  have OO2 : Hid (OI1 V W.heap.size (.slice (some ⟨b0 + 1, 0, none⟩) 0 0) []) := by show OI1 _ _ _ _; rw [hsz1]; exact OO1.out
  clear hb0 hsz1
  have HIN : Hid (∀ y ∈ othR x (bs.map Yg.ct), in64 y) := fun y hy => by
    obtain ⟨s, hs, es⟩ := List.mem_filterMap.1 hy
    obtain ⟨g, hg, rfl⟩ := List.mem_map.1 hs
    obtain ⟨-, h | ⟨b, o, e, hc⟩⟩ := HZ2.out
    · rw [h] at hg; cases hg
    · obtain ⟨j, hj, ej⟩ := List.mem_iff_getElem.1 hg
      obtain ⟨-, -, h1, h2, h3⟩ := hc j g (by rw [List.getElem?_eq_getElem hj, ej])
      unfold othC at es
      split at es
      · split at es
        · cases es
        · cases es; exact h2
      · split at es
        · cases es; exact h1
        · cases es
  go_loopw [6, 5, 7] (fun vv vo q wr => ∃ (k : Nat) (l : List Yg), k ≤ n2 ∧ q = .int .i64 (k : Int) ∧ OI1 wr W.heap.size vo (othR x ((bs.map Yg.ct).take k)) ∧ OB4 wr W.heap.size vv l ∧ l.map Yg.ct = valR x ((bs.map Yg.ct).take k) ∧ (∀ y ∈ l, Nw wr W.heap.size y.a y.ct.ws ∧ okY y.ct) ∧ Below W.heap.size W wr) (fun _ _ q _ => n2 - (intOf q).toNat)
  case atStart => exact ⟨0, [], Nat.zero_le _, rfl, OO2.out, OV1.out, rfl, by simp, BV1.out⟩
  case round =>
    obtain ⟨k, l, hk, rfl, hoo, hov, hlc, hlw, hb⟩ := hrel
    have HOO := kide hoo
    have HOV := kide hov
    have HLC := kide hlc
    have HLW := kide hlw
    have HB := kide hb
    have XG := kide (X0.out.later hb)
    have gg1 : wr.cell? ⟨b0, 1, none⟩ = some (Value.slice a2 n2 c2) := XG.out.cell 1
    have hlb := XG.out.lt
    have hl1 : l.length ≤ 1000 := by have h9 := congrArg List.length hlc; have h8 := valR_len x ((bs.map Yg.ct).take k); rw [List.length_map] at h9; rw [List.length_take] at h8; omega
    have hl2 : (othR x ((bs.map Yg.ct).take k)).length ≤ 1000 := by have h8 := othR_len x ((bs.map Yg.ct).take k); rw [List.length_take] at h8; omega
    clear OO1 OO2 OV1 BV1
    by_cases hlt : k < n2
    · have i0 : (k : Int) < (n2 : Int) := by omega
      obtain ⟨y, gy⟩ : ∃ y, bs[k]? = some y := ⟨bs[k]'(by rw [HE2.out]; exact hlt), List.getElem?_eq_getElem _⟩
      have gc : (bs.map Yg.ct)[k]? = some y.ct := by simp [gy]
      have hso := othR_step gc x
      have hsv := valR_step gc x
      have hws := HGD.out y (List.mem_of_getElem? gy)
      obtain ⟨-, h | ⟨b, o, rfl, hc⟩⟩ := HZ2.out.later hb
      · rw [h] at gy; simp at gy
      have hya := hc k y gy
      have hoky := okY_at hya
      obtain ⟨⟨p0, p1, p2, p3⟩, pr, -⟩ := hya
      obtain ⟨⟨xv, xlo, xbw, xws⟩, xa, xc⟩ := y
      simp only [Yg.hd] at p0 p1 p2 p3 pr hws hoky
      obtain ⟨xn, hxn⟩ : ∃ xn, xws.length = xn := ⟨_, rfl⟩
      rw [hxn] at p3 hws
      have HXN := kide hxn
      have hbx : Below wr.heap.size wr (wr.alloc (Obj.cells #[Value.int .i64 xv, Value.int .i64 xlo, Value.int .i64 xbw, Value.slice xa xn xc] 86)) := (Below.refl _ _).alloc (Nat.le_refl _) _
      clear hxn hc gy gc hoo hov hlc hlw hb
      by_cases hvx : xv = x
      · subst hvx
        have hee : (xv == xv) = true := by simp
        by_cases hl0 : xlo < 0
        · have HSO : Hid (othR xv ((bs.map Yg.ct).take (k + 1)) = othR xv ((bs.map Yg.ct).take k)) := by show _ = _; rw [hso]; simp [othC, hl0]
          have HSV : Hid (valR xv ((bs.map Yg.ct).take (k + 1)) = putY (valR xv ((bs.map Yg.ct).take k)) ⟨xv, xlo, xbw, xws⟩) := by show _ = _; rw [hsv]; simp [valC, hl0]
          have hpp := l9Put_any W.heap.size _ l ⟨⟨xv, xlo, xbw, xws⟩, xa, xc⟩ _ (HOV.out.later hbx) (fun y hy => ⟨(HLW.out y hy).1.later hbx, (HLW.out y hy).2⟩) (pr.later hbx) hoky (by simp only []; rw [HXN.out]; exact hws hl0) (by omega) (Nat.le_trans HB.out.size hbx.size)
          simp only [Yg.val, HXN.out] at hpp
          have HPP := kide hpp
          have BBX := kide (HB.out.trans (hbx.mono HB.out.size))
          have OOX := kide (HOO.out.later hbx)
          clear hpp hso hsv hbx pr hws hoky
          go_wp2_with fail
          refine Calls.mono HPP.out ?_
          rintro e w5 ⟨v5, l5, rfl, ho5, hl5, hw5, hb5, hk5⟩
          have OV5 := kide ho5
          have HL5 := kide hl5
          have HW5 := kide hw5
          have BB5 := kide (BBX.out.trans hb5)
          have OO5 := kide (OOX.out.ksb hk5)
          clear ho5 hl5 hw5 hb5 hk5 HPP BBX OOX
          go_wp2_with fail
          go_roundw
          case rel => exact ⟨k + 1, l5, by omega, by go_num, by rw [HSO.out]; exact OO5.out, OV5.out, by rw [HL5.out, HSV.out, HLC.out], HW5.out, BB5.out⟩
          case measure => simp [intOf]; omega
        · have HSO : Hid (othR xv ((bs.map Yg.ct).take (k + 1)) = othR xv ((bs.map Yg.ct).take k) ++ [xlo]) := by show _ = _; rw [hso]; simp [othC, hl0]
          have HSV : Hid (valR xv ((bs.map Yg.ct).take (k + 1)) = valR xv ((bs.map Yg.ct).take k)) := by show _ = _; rw [hsv]; simp [valC, hl0]
          clear hso hsv pr hws hoky
          have hoa := HOO.out.later hbx
          have hbs : Below (wr.alloc (Obj.cells #[Value.int .i64 xv, Value.int .i64 xlo, Value.int .i64 xbw, Value.slice xa xn xc] 86)).heap.size (wr.alloc (Obj.cells #[Value.int .i64 xv, Value.int .i64 xlo, Value.int .i64 xbw, Value.slice xa xn xc] 86)) ((wr.alloc (Obj.cells #[Value.int .i64 xv, Value.int .i64 xlo, Value.int .i64 xbw, Value.slice xa xn xc] 86)).alloc (Obj.cells #[Value.int .i64 xlo] 2)) := (Below.refl _ _).alloc (Nat.le_refl _) _
          have hob := hoa.later hbs
          unfold OI1 at hob
          rw [show (othR xv ((bs.map Yg.ct).take k)).length = ((othR xv ((bs.map Yg.ct).take k)).map (Value.int .i64)).length by simp] at hob
          have HOA := kide hob
          have KS1 := kide ((Ksh.of hbx).trans (Ksh.of hbs))
          have BB1 := kide ((HB.out.trans (hbx.mono HB.out.size)).trans (hbs.mono (by have := HB.out.size; have := hbx.size; omega)))
          have hlm : ((othR xv ((bs.map Yg.ct).take k)).map (Value.int .i64)).length ≤ 1073741824 := by rw [List.length_map]; omega
          have hBs : Hid (W.heap.size ≤ ((wr.alloc (Obj.cells #[Value.int .i64 xv, Value.int .i64 xlo, Value.int .i64 xbw, Value.slice xa xn xc] 86)).alloc (Obj.cells #[Value.int .i64 xlo] 2)).heap.size) := BB1.out.size
          have q0 : Hid (((wr.alloc (Obj.cells #[Value.int .i64 xv, Value.int .i64 xlo, Value.int .i64 xbw, Value.slice xa xn xc] 86)).alloc (Obj.cells #[Value.int .i64 xlo] 2)).cell? ⟨wr.heap.size + 1, 0, none⟩ = some (.int .i64 xlo)) := by
            have h9 := (Bz.new (wr.alloc (Obj.cells #[Value.int .i64 xv, Value.int .i64 xlo, Value.int .i64 xbw, Value.slice xa xn xc] 86)) #[Value.int .i64 xlo] 2).cell 0
            rw [show (wr.alloc (Obj.cells #[Value.int .i64 xv, Value.int .i64 xlo, Value.int .i64 xbw, Value.slice xa xn xc] 86)).heap.size = wr.heap.size + 1 by simp] at h9
            exact h9
          clear hoa hbs hob
          go_wp2_with (at_builtin; refine wpList_appI8 rfl _ _ rfl W.heap.size _ ((othR xv ((bs.map Yg.ct).take k)).map (Value.int .i64)) xlo rfl HOA.out _ rfl q0.out hlm hBs.out ?_)
          intro v5 w5 ho5 hg5 hat5
          have HK5 := kide (KS1.out.trans (Ksh.grown hg5 HOA.out))
          have HO5 : Hid (OI1 w5 W.heap.size v5 (othR xv ((bs.map Yg.ct).take k) ++ [xlo])) := by
            show OI1 _ _ _ _
            unfold OI1
            simpa using ho5
          have HB5 := kide (Below.grown BB1.out hg5 hBs.out (fun j hj => (owr_typed HOA.out hj).2))
          clear ho5 hg5 hat5 HOA BB1 q0 KS1
          go_wp2_with fail
          go_roundw
          case rel => exact ⟨k + 1, l, by omega, by go_num, by rw [HSO.out]; exact HO5.out, HOV.out.ksh HK5.out, by rw [HSV.out]; exact HLC.out, fun y hy => ⟨nw_ksh (HLW.out y hy).1 HK5.out, (HLW.out y hy).2⟩, HB5.out⟩
          case measure => simp [intOf]; omega
      · have hee : (xv == x) = false := by simp [hvx]
        by_cases hlx : xlo = x
        · subst hlx
          have hff : (xlo == xlo) = true := by simp
          have HSO : Hid (othR xlo ((bs.map Yg.ct).take (k + 1)) = othR xlo ((bs.map Yg.ct).take k) ++ [xv]) := by show _ = _; rw [hso]; simp [othC, hvx]
          have HSV : Hid (valR xlo ((bs.map Yg.ct).take (k + 1)) = valR xlo ((bs.map Yg.ct).take k)) := by show _ = _; rw [hsv]; simp [valC, hvx]
          clear hso hsv pr hws hoky hvx
          have hoa := HOO.out.later hbx
          have hbs : Below (wr.alloc (Obj.cells #[Value.int .i64 xv, Value.int .i64 xlo, Value.int .i64 xbw, Value.slice xa xn xc] 86)).heap.size (wr.alloc (Obj.cells #[Value.int .i64 xv, Value.int .i64 xlo, Value.int .i64 xbw, Value.slice xa xn xc] 86)) ((wr.alloc (Obj.cells #[Value.int .i64 xv, Value.int .i64 xlo, Value.int .i64 xbw, Value.slice xa xn xc] 86)).alloc (Obj.cells #[Value.int .i64 xv] 2)) := (Below.refl _ _).alloc (Nat.le_refl _) _
          have hob := hoa.later hbs
          unfold OI1 at hob
          rw [show (othR xlo ((bs.map Yg.ct).take k)).length = ((othR xlo ((bs.map Yg.ct).take k)).map (Value.int .i64)).length by simp] at hob
          have HOA := kide hob
          have KS1 := kide ((Ksh.of hbx).trans (Ksh.of hbs))
          have BB1 := kide ((HB.out.trans (hbx.mono HB.out.size)).trans (hbs.mono (by have := HB.out.size; have := hbx.size; omega)))
          have hlm : ((othR xlo ((bs.map Yg.ct).take k)).map (Value.int .i64)).length ≤ 1073741824 := by rw [List.length_map]; omega
          have hBs : Hid (W.heap.size ≤ ((wr.alloc (Obj.cells #[Value.int .i64 xv, Value.int .i64 xlo, Value.int .i64 xbw, Value.slice xa xn xc] 86)).alloc (Obj.cells #[Value.int .i64 xv] 2)).heap.size) := BB1.out.size
          have q0 : Hid (((wr.alloc (Obj.cells #[Value.int .i64 xv, Value.int .i64 xlo, Value.int .i64 xbw, Value.slice xa xn xc] 86)).alloc (Obj.cells #[Value.int .i64 xv] 2)).cell? ⟨wr.heap.size + 1, 0, none⟩ = some (.int .i64 xv)) := by
            have h9 := (Bz.new (wr.alloc (Obj.cells #[Value.int .i64 xv, Value.int .i64 xlo, Value.int .i64 xbw, Value.slice xa xn xc] 86)) #[Value.int .i64 xv] 2).cell 0
            rw [show (wr.alloc (Obj.cells #[Value.int .i64 xv, Value.int .i64 xlo, Value.int .i64 xbw, Value.slice xa xn xc] 86)).heap.size = wr.heap.size + 1 by simp] at h9
            exact h9
          clear hoa hbs hob
          go_wp2_with (at_builtin; refine wpList_appI8 rfl _ _ rfl W.heap.size _ ((othR xlo ((bs.map Yg.ct).take k)).map (Value.int .i64)) xv rfl HOA.out _ rfl q0.out hlm hBs.out ?_)
          intro v5 w5 ho5 hg5 hat5
          have HK5 := kide (KS1.out.trans (Ksh.grown hg5 HOA.out))
          have HO5 : Hid (OI1 w5 W.heap.size v5 (othR xlo ((bs.map Yg.ct).take k) ++ [xv])) := by
            show OI1 _ _ _ _
            unfold OI1
            simpa using ho5
          have HB5 := kide (Below.grown BB1.out hg5 hBs.out (fun j hj => (owr_typed HOA.out hj).2))
          clear ho5 hg5 hat5 HOA BB1 q0 KS1
          go_wp2_with fail
          go_roundw
          case rel => exact ⟨k + 1, l, by omega, by go_num, by rw [HSO.out]; exact HO5.out, HOV.out.ksh HK5.out, by rw [HSV.out]; exact HLC.out, fun y hy => ⟨nw_ksh (HLW.out y hy).1 HK5.out, (HLW.out y hy).2⟩, HB5.out⟩
          case measure => simp [intOf]; omega
        · have hff : (xlo == x) = false := by simp [hlx]
          have HSO : Hid (othR x ((bs.map Yg.ct).take (k + 1)) = othR x ((bs.map Yg.ct).take k)) := by show _ = _; rw [hso]; simp [othC, hvx, hlx]
          have HSV : Hid (valR x ((bs.map Yg.ct).take (k + 1)) = valR x ((bs.map Yg.ct).take k)) := by show _ = _; rw [hsv]; simp [valC, hvx]
          have BBX := kide (HB.out.trans (hbx.mono HB.out.size))
          have OOX := kide (HOO.out.later hbx)
          have OVX := kide (HOV.out.later hbx)
          have HWX := kide (fun y hy => And.intro ((HLW.out y hy).1.later hbx) (HLW.out y hy).2)
          clear hso hsv hbx pr hws hoky hvx hlx
          go_wp2_with fail
          go_roundw
          case rel => exact ⟨k + 1, l, by omega, by go_num, by rw [HSO.out]; exact OOX.out, OVX.out, by rw [HSV.out]; exact HLC.out, HWX.out, BBX.out⟩
          case measure => simp [intOf]; omega
    · have e : k = n2 := by omega
      subst e
      rw [List.take_of_length_le (by rw [List.length_map, HE2.out]; exact Nat.le_refl _)] at HOO HLC hl2
      obtain ⟨av, cv, rfl⟩ := HOO.out.form
      obtain ⟨bv, dv, rfl⟩ := HOV.out.form
      have HRS := kide (l7Rising_any av cv _ (othR x (bs.map Yg.ct)) wr (HOO.out.rd (by omega) HIN.out) rfl)
      have hrl := risI_len (othR x (bs.map Yg.ct)) []
      have hvl : l.length = (valR x (bs.map Yg.ct)).length := by have h9 := congrArg List.length HLC.out; rw [List.length_map] at h9; exact h9
      generalize risI [] (othR x (bs.map Yg.ct)) = RI at *
      generalize (othR x (bs.map Yg.ct)).length = on at *
      generalize (valR x (bs.map Yg.ct)).length = vn at *
      rw [hvl]
      rw [hvl] at hl1
      simp only [List.length_nil, Nat.zero_add] at hrl
      clear hoo hov hlc hlw hb hvl
      go_wp2_with fail
      refine Calls.mono HRS.out ?_
      rintro e w5 ⟨v5, rfl, ho5, hb5⟩
      obtain ⟨a5, c5, rfl⟩ := ho5.form
      have B5 := kide (BW.out.trans ((HB.out.trans (hb5.mono HB.out.size)).mono BW.out.size))
      have hrr := HRR.out
      have hi1 : (RI.length : Int) ≤ 1000 := by omega
      have hi2 : (vn : Int) ≤ 1000 := by omega
      clear ho5 hb5 HRS
      go_wp2_with fail
      go_ret
      exact ⟨by rw [← hrr]; go_num, B5.out⟩

end Go.Proofs.Ythoiajpbpoglfaa

/- How many bars a node has: both ways of counting are one. No program in sight. -/
namespace Go.Proofs.Ythoiajpbpoglfaa
set_option linter.unusedVariables false
set_option linter.unusedSimpArgs false
open Go.RowKit

/-- Each once, in the order in which they came. -/
def setY (l : List Yc) (xs : List Yc) : List Yc := xs.foldl putY l

theorem putG_ct (l : List Yg) (x : Yg) : (putG l x).map Yg.ct = putY (l.map Yg.ct) x.ct := by
  unfold putG putY
  split <;> simp
theorem setG_ct (xs : List Yg) : ∀ l, (setG l xs).map Yg.ct = setY (l.map Yg.ct) (xs.map Yg.ct) := by
  induction xs with
  | nil => intro l; rfl
  | cons x t ih =>
    intro l
    have h := ih (putG l x)
    rw [putG_ct] at h
    exact h

theorem setY_nodup (xs : List Yc) : ∀ l : List Yc, l.Nodup → (setY l xs).Nodup := by
  induction xs with
  | nil => intro l h; exact h
  | cons x t ih =>
    intro l h
    refine ih (putY l x) ?_
    unfold putY
    split
    · exact h
    · rename_i hn
      refine List.nodup_append.2 ⟨h, by simp, fun a ha b hb => ?_⟩
      simp at hb
      subst hb
      intro e; subst e; exact hn ha
theorem setY_mem (xs : List Yc) : ∀ (l : List Yc) (s : Yc), s ∈ setY l xs ↔ s ∈ l ∨ s ∈ xs := by
  induction xs with
  | nil => intro l s; simp [setY]
  | cons x t ih =>
    intro l s
    rw [show setY l (x :: t) = setY (putY l x) t from rfl, ih]
    unfold putY
    by_cases e : x ∈ l
    · rw [if_pos e]
      constructor
      · rintro (h | h)
        · exact .inl h
        · exact .inr (List.mem_cons_of_mem _ h)
      · rintro (h | h)
        · exact .inl h
        · rcases List.mem_cons.1 h with rfl | h
          · exact .inl e
          · exact .inr h
    · rw [if_neg e]
      simp only [List.mem_append, List.mem_cons, List.not_mem_nil, or_false]
      constructor
      · rintro ((h | h) | h)
        · exact .inl h
        · exact .inr (.inl h)
        · exact .inr (.inr h)
      · rintro (h | h | h)
        · exact .inl (.inl h)
        · exact .inl (.inr h)
        · exact .inr h

theorem insI_nodup {out : List Int} {x : Int} (h : out.Nodup) (hx : x ∉ out) : (insI out x).Nodup := by
  unfold insI
  generalize posI out x out.length = p
  have h' := h
  rw [← List.take_append_drop p out] at h'
  obtain ⟨h1, h2, h3⟩ := List.nodup_append.1 h'
  have hd : x ∉ out.drop p := fun hm => hx (List.mem_of_mem_drop hm)
  have ht : x ∉ out.take p := fun hm => hx (List.mem_of_mem_take hm)
  refine List.nodup_append.2 ⟨h1, List.nodup_cons.2 ⟨hd, h2⟩, fun a ha b hb => ?_⟩
  rcases List.mem_cons.1 hb with rfl | hb
  · intro e; subst e; exact ht ha
  · exact h3 a ha b hb
theorem risI_nodup : ∀ (xs out : List Int), out.Nodup → (risI out xs).Nodup
  | [], out, h => h
  | x :: t, out, h => by
    rw [risI]
    refine risI_nodup t _ ?_
    split
    · exact h
    · exact insI_nodup h (by assumption)

/-- How often a bar counts for a node. -/
def cntC (i : Nat) (s : Yc) : Int := if s.lo = -1 then (if s.v.toNat = i then 1 else 0) else (if s.v.toNat = i then 1 else 0) + (if s.lo.toNat = i then 1 else 0)
theorem stepC_cnt (cr : Nat → Int) (s : Yc) (i : Nat) : stepC cr s i = cr i + cntC i s := by
  unfold cntC
  by_cases e : s.lo = -1
  · rw [show stepC cr s = _ from if_pos e, if_pos e]
    unfold upd
    by_cases h1 : i = s.v.toNat
    · subst h1; simp
    · rw [if_neg h1, if_neg (fun h => h1 h.symm)]; omega
  · rw [show stepC cr s = _ from if_neg e, if_neg e]
    unfold upd
    by_cases h2 : i = s.lo.toNat
    · subst h2
      by_cases h1 : s.lo.toNat = s.v.toNat
      · simp [h1]; omega
      · rw [if_pos rfl, if_neg h1, if_neg (fun h => h1 h.symm), if_pos rfl]; omega
    · by_cases h1 : i = s.v.toNat
      · subst h1
        rw [if_neg h2, if_pos rfl, if_pos rfl, if_neg (fun h => h2 h.symm)]; omega
      · rw [if_neg h2, if_neg h1, if_neg (fun h => h1 h.symm), if_neg (fun h => h2 h.symm)]; omega
theorem crF_sum (i : Nat) : ∀ (ys : List Yc) (cr : Nat → Int), (ys.foldl stepC cr) i = cr i + (ys.map (cntC i)).sum
  | [], cr => by simp
  | s :: t, cr => by
    rw [List.foldl_cons, crF_sum i t, stepC_cnt, List.map_cons, List.sum_cons]; omega

theorem nodup_sub_len {α : Type} [DecidableEq α] : ∀ (l1 l2 : List α), l1.Nodup → (∀ a ∈ l1, a ∈ l2) → l1.length ≤ l2.length
  | [], _, _, _ => Nat.zero_le _
  | x :: t, l2, h, hs => by
    obtain ⟨hx, ht⟩ := List.nodup_cons.1 h
    have h2 := nodup_sub_len t (l2.erase x) ht (fun a ha => (List.mem_erase_of_ne (fun e => hx (by rw [← e]; exact ha))).2 (hs a (List.mem_cons_of_mem _ ha)))
    have hm := hs x (by simp)
    rw [List.length_erase_of_mem hm] at h2
    have := List.length_pos_of_mem hm
    simp only [List.length_cons]
    omega
theorem nodup_len {α : Type} [DecidableEq α] {l1 l2 : List α} (h1 : l1.Nodup) (h2 : l2.Nodup) (h : ∀ a, a ∈ l1 ↔ a ∈ l2) : l1.length = l2.length :=
  Nat.le_antisymm (nodup_sub_len l1 l2 h1 (fun a => (h a).1)) (nodup_sub_len l2 l1 h2 (fun a => (h a).2))
theorem nodup_fm {α β : Type} {f : α → Option β} : ∀ {l : List α}, l.Nodup → (∀ s ∈ l, ∀ t ∈ l, ∀ b, f s = some b → f t = some b → s = t) → (l.filterMap f).Nodup
  | [], _, _ => by simp
  | x :: t, h, hi => by
    obtain ⟨hx, ht⟩ := List.nodup_cons.1 h
    have h2 := nodup_fm ht (fun s hs u hu => hi s (List.mem_cons_of_mem _ hs) u (List.mem_cons_of_mem _ hu))
    rw [List.filterMap_cons]
    cases e : f x with
    | none => exact h2
    | some b =>
      refine List.nodup_cons.2 ⟨fun hm => ?_, h2⟩
      obtain ⟨u, hu, eu⟩ := List.mem_filterMap.1 hm
      exact hx (by rw [hi x (by simp) u (List.mem_cons_of_mem _ hu) b e eu]; exact hu)

/-- A bar of a right graph. -/
def gdB (n : Nat) (s : Yc) : Prop := (0 ≤ s.v ∧ s.v < n) ∧ (s.lo = -1 ∨ (0 ≤ s.lo ∧ s.lo < n ∧ s.lo ≠ s.v ∧ s.bw = 0 ∧ s.ws = []))
/-- .. with its lesser node ahead. -/
def gdN (s : Yc) : Prop := s.lo = -1 ∨ s.v < s.lo

theorem gdB_nrm {n : Nat} {s : Yc} (h : gdB n s) : gdB n (nrmC s) ∧ gdN (nrmC s) := by
  obtain ⟨⟨h1, h2⟩, h3⟩ := h
  unfold nrmC
  by_cases e : s.lo = -1
  · rw [if_pos e]
    exact ⟨⟨⟨h1, h2⟩, .inl e⟩, .inl e⟩
  · rw [if_neg e]
    rcases h3 with h3 | ⟨h4, h5, h6, h7, h8⟩
    · exact absurd h3 e
    · refine ⟨⟨⟨by simp only []; omega, by simp only []; omega⟩, .inr ⟨by simp only []; omega, by simp only []; omega, by simp only []; omega, h7, h8⟩⟩, .inr (by simp only []; omega)⟩

theorem othC_nrm {n : Nat} {s : Yc} (h : gdB n s) (x : Int) : othC x (nrmC s) = othC x s := by
  obtain ⟨⟨h1, h2⟩, h3⟩ := h
  unfold nrmC
  by_cases e : s.lo = -1
  · rw [if_pos e]
  · rw [if_neg e]
    rcases h3 with h3 | ⟨h4, h5, h6, h7, h8⟩
    · exact absurd h3 e
    · unfold othC
      simp only []
      by_cases hle : s.v ≤ s.lo
      · rw [show min s.v s.lo = s.v by omega, show max s.v s.lo = s.lo by omega]
      · rw [show min s.v s.lo = s.lo by omega, show max s.v s.lo = s.v by omega]
        by_cases a1 : s.lo = x
        · rw [if_pos a1, if_neg (by omega), if_neg (by omega), if_pos a1]
        · rw [if_neg a1]
          by_cases a2 : s.v = x
          · rw [if_pos a2, if_pos a2, if_neg (by omega)]
          · rw [if_neg a2, if_neg a2, if_neg a1]

theorem valC_nrm {n : Nat} {s t : Yc} (h : gdB n s) (x : Int) (e : nrmC s = t) (hv : valC x t = true) : s = t := by
  obtain ⟨⟨h1, h2⟩, h3⟩ := h
  unfold nrmC at e
  by_cases e1 : s.lo = -1
  · rw [if_pos e1] at e; exact e
  · rw [if_neg e1] at e
    rcases h3 with h3 | ⟨h4, h5, -⟩
    · exact absurd h3 e1
    · subst e
      simp [valC] at hv
      omega
theorem valC_keep {s : Yc} {n : Nat} (h : gdB n s) {x : Int} (hv : valC x s = true) : nrmC s = s := by
  simp [valC] at hv
  unfold nrmC
  rcases h.2 with h3 | ⟨h4, -⟩
  · rw [if_pos h3]
  · omega

theorem othC_inj {n : Nat} {s t : Yc} (hs : gdB n s) (ht : gdB n t) (ns : gdN s) (nt : gdN t) {x b : Int} (hx0 : 0 ≤ x) (h1 : othC x s = some b) (h2 : othC x t = some b) : s = t := by
  obtain ⟨⟨s1, s2⟩, s3⟩ := hs
  obtain ⟨⟨t1, t2⟩, t3⟩ := ht
  have key : ∀ u : Yc, 0 ≤ u.v → gdN u → (u.lo = -1 ∨ (0 ≤ u.lo ∧ u.lo < n ∧ u.lo ≠ u.v ∧ u.bw = 0 ∧ u.ws = [])) → othC x u = some b → u.v = min x b ∧ u.lo = max x b ∧ u.bw = 0 ∧ u.ws = [] := by
    intro u u1 nu u3 hu
    unfold othC at hu
    rcases u3 with u3 | ⟨u4, u5, u6, u7, u8⟩
    · by_cases a1 : u.v = x
      · rw [if_pos a1, if_pos (by omega)] at hu; cases hu
      · rw [if_neg a1] at hu
        by_cases a2 : u.lo = x
        · rw [if_pos a2] at hu
          cases hu
          omega
        · rw [if_neg a2] at hu; cases hu
    · rcases nu with nu | nu
      · omega
      · by_cases a1 : u.v = x
        · rw [if_pos a1, if_neg (by omega)] at hu
          cases hu
          exact ⟨by omega, by omega, u7, u8⟩
        · rw [if_neg a1] at hu
          by_cases a2 : u.lo = x
          · rw [if_pos a2] at hu
            cases hu
            exact ⟨by omega, by omega, u7, u8⟩
          · rw [if_neg a2] at hu; cases hu
  obtain ⟨a1, a2, a3, a4⟩ := key s s1 ns s3 h1
  obtain ⟨b1, b2, b3, b4⟩ := key t t1 nt t3 h2
  cases s; cases t
  simp only at a1 a2 a3 a4 b1 b2 b3 b4
  subst a1; subst a2; subst a3; subst a4; subst b1; subst b2; subst b3; subst b4
  rfl

end Go.Proofs.Ythoiajpbpoglfaa

/- What both CrowdOf answer. -/
namespace Go.Proofs.Ythoiajpbpoglfaa
set_option linter.unusedVariables false
set_option linter.unusedSimpArgs false
open Go.RowKit

theorem cnt_good {n : Nat} {s : Yc} (h : gdB n s) (i : Nat) : cntC i s = (if valC (i : Int) s = true then 1 else 0) + (if (othC (i : Int) s).isSome = true then 1 else 0) := by
  obtain ⟨⟨h1, h2⟩, h3⟩ := h
  unfold cntC
  rcases h3 with h3 | ⟨h4, h5, h6, -⟩
  · rw [if_pos h3]
    by_cases a1 : s.v.toNat = i
    · have e : s.v = (i : Int) := by omega
      simp [valC, othC, h3, e]
    · have e : s.v ≠ (i : Int) := by omega
      have e2 : ¬ (-1 : Int) = (i : Int) := by omega
      simp [valC, othC, h3, e, a1, e2]
  · rw [if_neg (by omega)]
    have e3 : ¬ s.lo < 0 := by omega
    by_cases a1 : s.v.toNat = i
    · have e : s.v = (i : Int) := by omega
      have a2 : ¬ s.lo.toNat = i := by omega
      simp [valC, othC, e, e3, a2]
    · have e : s.v ≠ (i : Int) := by omega
      by_cases a2 : s.lo.toNat = i
      · have e2 : s.lo = (i : Int) := by omega
        have a1' : ¬ s.v.toNat = i := a1
        simp [valC, othC, e, e2]
        omega
      · have e2 : s.lo ≠ (i : Int) := by omega
        simp [valC, othC, e, e2, a1, a2]

theorem cnt_sum {n i : Nat} : ∀ (ys : List Yc), (∀ s ∈ ys, gdB n s) → (ys.map (cntC i)).sum = ((ys.filter (valC (i : Int))).length : Int) + ((ys.filterMap (othC (i : Int))).length : Int)
  | [], _ => by simp
  | s :: t, h => by
    rw [List.map_cons, List.sum_cons, cnt_sum t (fun u hu => h u (List.mem_cons_of_mem _ hu)), cnt_good (h s (by simp)) i]
    rw [List.filter_cons, List.filterMap_cons]
    cases e1 : valC (i : Int) s <;> cases e2 : othC (i : Int) s <;> simp [e1, e2] <;> omega

theorem crowd_same {n i : Nat} {ys : List Yc} (h : ∀ s ∈ ys, gdB n s) : crF (setY [] (ys.map nrmC)) i = ((risI [] (othR (i : Int) ys)).length : Int) + ((valR (i : Int) ys).length : Int) := by
  have hD : ∀ s ∈ setY [] (ys.map nrmC), gdB n s ∧ gdN s := fun s hs => by
    rcases (setY_mem _ _ _).1 hs with h0 | h0
    · cases h0
    · obtain ⟨u, hu, rfl⟩ := List.mem_map.1 h0
      exact gdB_nrm (h u hu)
  have hnd : (setY [] (ys.map nrmC)).Nodup := setY_nodup _ _ (by simp)
  rw [crF, crF_sum, cnt_sum _ (fun s hs => (hD s hs).1)]
  have e1 : ((setY [] (ys.map nrmC)).filter (valC (i : Int))).length = (valR (i : Int) ys).length := by
    haveI : DecidableEq Yc := ycDec
    refine nodup_len (List.Pairwise.filter _ hnd) (setY_nodup _ _ (by simp)) (fun s => ?_)
    show s ∈ (setY [] (ys.map nrmC)).filter (valC (i : Int)) ↔ s ∈ setY [] (ys.filter (valC (i : Int)))
    rw [List.mem_filter, setY_mem, setY_mem, List.mem_filter]
    constructor
    · rintro ⟨h0 | h0, hv⟩
      · cases h0
      · obtain ⟨u, hu, e⟩ := List.mem_map.1 h0
        have := valC_nrm (h u hu) (i : Int) e hv
        subst this
        exact .inr ⟨hu, hv⟩
    · rintro (h0 | ⟨h0, hv⟩)
      · cases h0
      · exact ⟨.inr (List.mem_map.2 ⟨s, h0, valC_keep (h s h0) hv⟩), hv⟩
  have e2 : ((setY [] (ys.map nrmC)).filterMap (othC (i : Int))).length = (risI [] (othR (i : Int) ys)).length := by
    refine nodup_len (nodup_fm hnd (fun s hs u hu b h1 h2 => othC_inj (hD s hs).1 (hD u hu).1 (hD s hs).2 (hD u hu).2 (by omega) h1 h2)) (risI_nodup _ _ (by simp)) (fun a => ?_)
    rw [risI_mem, List.mem_filterMap]
    unfold othR
    rw [List.mem_filterMap]
    constructor
    · rintro ⟨s, hs, e⟩
      rcases (setY_mem _ _ _).1 hs with h0 | h0
      · cases h0
      · obtain ⟨u, hu, rfl⟩ := List.mem_map.1 h0
        rw [othC_nrm (h u hu)] at e
        exact .inr ⟨u, hu, e⟩
    · rintro (h0 | ⟨u, hu, e⟩)
      · cases h0
      · exact ⟨nrmC u, (setY_mem _ _ _).2 (.inr (List.mem_map.2 ⟨u, hu, rfl⟩)), by rw [othC_nrm (h u hu)]; exact e⟩
  rw [e1, e2]
  omega

theorem brOk_good {ks : List Int} {s : Yc} (h : brOk ks s = true) (hk : ∀ x ∈ ks, wOk x = true) : gdB ks.length s ∧ (s.lo < 0 → 0 < s.ws.length) ∧ gdY ks.length (nrmC s) := by
  unfold brOk at h
  rw [Bool.and_eq_true] at h
  obtain ⟨h1, h2⟩ := h
  simp [ndOk] at h1
  by_cases e : s.lo = -1
  · rw [if_pos e] at h2
    simp only [Bool.and_eq_true, decide_eq_true_eq, rightB] at h2
    obtain ⟨⟨⟨hw, hl⟩, -⟩, -⟩ := h2
    simp [wOk] at hw
    have hp : 0 < s.ws.length := by omega
    refine ⟨⟨h1, .inl e⟩, fun _ => hp, ?_⟩
    unfold nrmC
    rw [if_pos e]
    exact ⟨h1, .inl ⟨e, hp⟩⟩
  · rw [if_neg e] at h2
    simp only [Bool.and_eq_true, decide_eq_true_eq, ndOk] at h2
    obtain ⟨⟨⟨⟨h3, h4⟩, -⟩, h5⟩, h6⟩ := h2
    refine ⟨⟨h1, .inr ⟨h3.1, h3.2, h4, h5, List.eq_nil_of_length_eq_zero h6⟩⟩, fun hl => by omega, ?_⟩
    unfold nrmC
    rw [if_neg e]
    exact ⟨⟨by simp only []; omega, by simp only []; omega⟩, .inr ⟨by simp only []; omega, by simp only []; omega, by simp only []; omega⟩⟩

/-- How many bars a node has; -1: no right graph, or no node of it. -/
def crwR (ks : List Int) (bs : List Yc) (x : Int) : Int := if graphR ks bs = true ∧ ndOk ks.length x = true then crF (setY [] (bs.map nrmC)) x.toNat else -1

theorem graph_good {ks : List Int} {bs : List Yc} (h : graphR ks bs = true) : ks.length ≤ 200 ∧ bs.length ≤ 1000 ∧ ∀ s ∈ bs, gdB ks.length s ∧ (s.lo < 0 → 0 < s.ws.length) ∧ gdY ks.length (nrmC s) := by
  simp only [graphR, Bool.and_eq_true, decide_eq_true_eq, List.all_eq_true] at h
  obtain ⟨⟨⟨h1, h2⟩, h3⟩, h4⟩ := h
  exact ⟨h1, h2, fun s hs => brOk_good (h4 s hs) h3⟩

set_option maxHeartbeats 1000000 in
theorem implCrowd_any (z : Gz) (x : Int) (w : World) (hz : RdG w z) :
    Calls Try.prog 17 #[z.val, .int .i64 x] w fun e w' => e = .returned (.int .i64 (crwR z.ks (z.bs.map Yg.ct) x)) ∧ Below w.heap.size w w' := by
  obtain ⟨a1, c1, ks, a2, c2, bs⟩ := z
  have hn1 := hz.1.1
  have hb0 : Below w.heap.size w (w.alloc (Obj.cells #[Value.slice a1 ks.length c1, Value.slice a2 bs.length c2] 32)) := (Below.refl _ _).alloc (Nat.le_refl _) _
  have HG := kide (fun u (hu : Below w.heap.size w u) => implGraph_any ⟨a1, c1, ks, a2, c2, bs⟩ u (hz.later hu))
  have HI := kide (fun u => isNode_any a1 a2 ks.length c1 bs.length c2 x u hn1)
  have X0 := kide (Bz.new w #[Value.slice a1 ks.length c1, Value.slice a2 bs.length c2] 32)
  have BW := kide hb0
  simp only [Gz.val] at *
  by_cases hg : graphR ks (bs.map Yg.ct) = true
  · obtain ⟨k200, b1000, good⟩ := graph_good hg
    have HH := kide (fun u (hu : Below w.heap.size w u) => hedgesOf_any ⟨a1, c1, ks, a2, c2, bs⟩ u (hz.later hu) (fun y hy => (good y.ct (List.mem_map.2 ⟨y, hy, rfl⟩)).2.2) (by simp only []; omega) (by simp only []; simpa using b1000))
    simp only [Gz.val] at HH
    rw [hg] at HG
    by_cases hn : ndOk ks.length x = true
    · have hR : crwR ks (bs.map Yg.ct) x = crF (setY [] ((bs.map Yg.ct).map nrmC)) x.toNat := by rw [crwR, if_pos ⟨hg, hn⟩]
      rw [hR]
      have hct : (setG [] (bs.map nrmG)).map Yg.ct = setY [] ((bs.map Yg.ct).map nrmC) := by rw [setG_ct]; simp [List.map_map]; rfl
      rw [hct] at HH
      rw [hn] at HI
      simp [ndOk] at hn
      obtain ⟨i, rfl⟩ : ∃ i : Nat, x = (i : Int) := ⟨x.toNat, by omega⟩
      have hi : i < ks.length := by omega
      have hi2 : (i : Int) < (ks.length : Int) := by omega
      rw [show ((i : Int)).toNat = i by omega]
      generalize crF (setY [] ((bs.map Yg.ct).map nrmC)) = CR at *
      generalize ks.length = n1 at *
      generalize bs.length = n2 at *
      clear hR hct hz good hb0 hg
      go_enter Try.func17, Try.ntmps17
      go_wp2_with fail
      refine Calls.mono (HG.out _ BW.out) ?_
      rintro e w1 ⟨rfl, hb1⟩
      have X1 := kide (X0.out.later hb1)
      have B1 := kide (BW.out.trans (hb1.mono BW.out.size))
      have g0 : w1.cell? ⟨w.heap.size, 0, none⟩ = some (Value.slice a1 n1 c1) := X1.out.cell 0
      have g1 : w1.cell? ⟨w.heap.size, 1, none⟩ = some (Value.slice a2 n2 c2) := X1.out.cell 1
      clear hb1 HG
      go_wp2_with fail
      refine Calls.mono (HI.out _) ?_
      rintro e w2 ⟨rfl, hb2⟩
      have X2 := kide (X1.out.later hb2)
      have B2 := kide (B1.out.trans (hb2.mono B1.out.size))
      clear g0 g1
      have g0 : w2.cell? ⟨w.heap.size, 0, none⟩ = some (Value.slice a1 n1 c1) := X2.out.cell 0
      have g1 : w2.cell? ⟨w.heap.size, 1, none⟩ = some (Value.slice a2 n2 c2) := X2.out.cell 1
      clear hb2 HI
      go_wp2_with fail
      refine Calls.mono (HH.out _ B2.out) ?_
      rintro e w3 ⟨H, rfl, hc3, hb3⟩
      have c3 := hc3 i hi
      have B3 := kide (B2.out.trans (hb3.mono B2.out.size))
      clear hc3 hb3 HH
      go_wp2_with fail
      go_ret
      exact ⟨rfl, B3.out⟩
    · have hn' : ndOk ks.length x = false := by simpa using hn
      have hR : crwR ks (bs.map Yg.ct) x = -1 := by rw [crwR, if_neg (fun h => hn h.2)]
      rw [hR]
      rw [hn'] at HI
      generalize ks.length = n1 at *
      generalize bs.length = n2 at *
      clear hR hz good hb0 hg hn hn' HH
      go_enter Try.func17, Try.ntmps17
      go_wp2_with fail
      refine Calls.mono (HG.out _ BW.out) ?_
      rintro e w1 ⟨rfl, hb1⟩
      have X1 := kide (X0.out.later hb1)
      have B1 := kide (BW.out.trans (hb1.mono BW.out.size))
      have g0 : w1.cell? ⟨w.heap.size, 0, none⟩ = some (Value.slice a1 n1 c1) := X1.out.cell 0
      have g1 : w1.cell? ⟨w.heap.size, 1, none⟩ = some (Value.slice a2 n2 c2) := X1.out.cell 1
      clear hb1 HG
      go_wp2_with fail
      refine Calls.mono (HI.out _) ?_
      rintro e w2 ⟨rfl, hb2⟩
      have B2 := kide (B1.out.trans (hb2.mono B1.out.size))
      clear hb2 HI
      go_wp2_with fail
      go_ret
      exact ⟨rfl, B2.out⟩
  · have hg' : graphR ks (bs.map Yg.ct) = false := by simpa using hg
    have hR : crwR ks (bs.map Yg.ct) x = -1 := by rw [crwR, if_neg (fun h => hg h.1)]
    rw [hR]
    rw [hg'] at HG
    generalize ks.length = n1 at *
    generalize bs.length = n2 at *
    clear hR hz hb0 hg hg' HI
    go_enter Try.func17, Try.ntmps17
    go_wp2_with fail
    refine Calls.mono (HG.out _ BW.out) ?_
    rintro e w1 ⟨rfl, hb1⟩
    have B1 := kide (BW.out.trans (hb1.mono BW.out.size))
    clear hb1 HG
    go_wp2_with fail
    go_ret
    exact ⟨rfl, B1.out⟩

theorem crowdIn (n : Nat) (x : Int) (u : World) : Calls Try.prog 26 #[.int .i64 x, .int .i64 0, .int .i64 ((n : Int) - 1)] u fun e w' => e = .returned (.bool (ndOk n x)) ∧ w' = u := by
  refine (l1In_any x 0 ((n : Int) - 1) u).mono (fun e w' h => ⟨?_, h.2⟩)
  rw [h.1]
  have : decide (0 ≤ x ∧ x ≤ (n : Int) - 1) = ndOk n x := by
    rw [Bool.eq_iff_iff]; simp [ndOk]; omega
  rw [this]

set_option maxHeartbeats 1000000 in
theorem specCrowd_any (z : Gz) (x : Int) (w : World) (hz : RdG w z) :
    Calls Try.prog 18 #[z.val, .int .i64 x] w fun e w' => e = .returned (.int .i64 (crwR z.ks (z.bs.map Yg.ct) x)) ∧ Below w.heap.size w w' := by
  obtain ⟨a1, c1, ks, a2, c2, bs⟩ := z
  have hn1 := hz.1.1
  have hb0 : Below w.heap.size w (w.alloc (Obj.cells #[Value.slice a1 ks.length c1, Value.slice a2 bs.length c2] 32)) := (Below.refl _ _).alloc (Nat.le_refl _) _
  have HG := kide (fun u (hu : Below w.heap.size w u) => specGraph_any ⟨a1, c1, ks, a2, c2, bs⟩ u (hz.later hu))
  have HI := kide (fun u => crowdIn ks.length x u)
  have X0 := kide (Bz.new w #[Value.slice a1 ks.length c1, Value.slice a2 bs.length c2] 32)
  have BW := kide hb0
  simp only [Gz.val] at *
  by_cases hg : graphR ks (bs.map Yg.ct) = true
  · obtain ⟨k200, b1000, good⟩ := graph_good hg
    have HH := kide (fun u (hu : Below w.heap.size w u) => l10Crowd_any ⟨a1, c1, ks, a2, c2, bs⟩ x u (hz.later hu) (fun y hy => (good y.ct (List.mem_map.2 ⟨y, hy, rfl⟩)).2.1) (by simp only []; simpa using b1000))
    simp only [Gz.val] at HH
    rw [hg] at HG
    by_cases hn : ndOk ks.length x = true
    · have hR : crwR ks (bs.map Yg.ct) x = crF (setY [] ((bs.map Yg.ct).map nrmC)) x.toNat := by rw [crwR, if_pos ⟨hg, hn⟩]
      rw [hR]
      rw [hn] at HI
      simp [ndOk] at hn
      obtain ⟨i, rfl⟩ : ∃ i : Nat, x = (i : Int) := ⟨x.toNat, by omega⟩
      have hi : i < ks.length := by omega
      have hi2 : (i : Int) < (ks.length : Int) := by omega
      rw [show ((i : Int)).toNat = i by omega]
      rw [← crowd_same (fun s hs => (good s hs).1)] at HH
      generalize crF (setY [] ((bs.map Yg.ct).map nrmC)) = CR at *
      generalize ks.length = n1 at *
      generalize bs.length = n2 at *
      clear hR hz good hb0 hg
      go_enter Try.func18, Try.ntmps18
      go_wp2_with fail
      refine Calls.mono (HG.out _ BW.out) ?_
      rintro e w1 ⟨rfl, hb1⟩
      have X1 := kide (X0.out.later hb1)
      have B1 := kide (BW.out.trans (hb1.mono BW.out.size))
      have g0 : w1.cell? ⟨w.heap.size, 0, none⟩ = some (Value.slice a1 n1 c1) := X1.out.cell 0
      have g1 : w1.cell? ⟨w.heap.size, 1, none⟩ = some (Value.slice a2 n2 c2) := X1.out.cell 1
      clear hb1 HG
      go_wp2_with fail
      refine Calls.mono (HI.out _) ?_
      rintro e w2 ⟨rfl, hw2⟩
      have hb2 : Below w1.heap.size w1 w2 := by rw [hw2]; exact Below.refl _ _
      clear hw2
      have X2 := kide (X1.out.later hb2)
      have B2 := kide (B1.out.trans (hb2.mono B1.out.size))
      clear g0 g1
      have g0 : w2.cell? ⟨w.heap.size, 0, none⟩ = some (Value.slice a1 n1 c1) := X2.out.cell 0
      have g1 : w2.cell? ⟨w.heap.size, 1, none⟩ = some (Value.slice a2 n2 c2) := X2.out.cell 1
      clear hb2 HI
      go_wp2_with fail
      refine Calls.mono (HH.out _ B2.out) ?_
      rintro e w3 ⟨rfl, hb3⟩
      have B3 := kide (B2.out.trans (hb3.mono B2.out.size))
      clear hb3 HH
      go_wp2_with fail
      go_ret
      exact ⟨rfl, B3.out⟩
    · have hn' : ndOk ks.length x = false := by simpa using hn
      have hR : crwR ks (bs.map Yg.ct) x = -1 := by rw [crwR, if_neg (fun h => hn h.2)]
      rw [hR]
      rw [hn'] at HI
      generalize ks.length = n1 at *
      generalize bs.length = n2 at *
      clear hR hz good hb0 hg hn hn' HH
      go_enter Try.func18, Try.ntmps18
      go_wp2_with fail
      refine Calls.mono (HG.out _ BW.out) ?_
      rintro e w1 ⟨rfl, hb1⟩
      have X1 := kide (X0.out.later hb1)
      have B1 := kide (BW.out.trans (hb1.mono BW.out.size))
      have g0 : w1.cell? ⟨w.heap.size, 0, none⟩ = some (Value.slice a1 n1 c1) := X1.out.cell 0
      have g1 : w1.cell? ⟨w.heap.size, 1, none⟩ = some (Value.slice a2 n2 c2) := X1.out.cell 1
      clear hb1 HG
      go_wp2_with fail
      refine Calls.mono (HI.out _) ?_
      rintro e w2 ⟨rfl, hw2⟩
      have hb2 : Below w1.heap.size w1 w2 := by rw [hw2]; exact Below.refl _ _
      clear hw2
      have B2 := kide (B1.out.trans (hb2.mono B1.out.size))
      clear hb2 HI
      go_wp2_with fail
      go_ret
      exact ⟨rfl, B2.out⟩
  · have hg' : graphR ks (bs.map Yg.ct) = false := by simpa using hg
    have hR : crwR ks (bs.map Yg.ct) x = -1 := by rw [crwR, if_neg (fun h => hg h.1)]
    rw [hR]
    rw [hg'] at HG
    generalize ks.length = n1 at *
    generalize bs.length = n2 at *
    clear hR hz hb0 hg hg' HI
    go_enter Try.func18, Try.ntmps18
    go_wp2_with fail
    refine Calls.mono (HG.out _ BW.out) ?_
    rintro e w1 ⟨rfl, hb1⟩
    have B1 := kide (BW.out.trans (hb1.mono BW.out.size))
    clear hb1 HG
    go_wp2_with fail
    go_ret
    exact ⟨rfl, B1.out⟩

end Go.Proofs.Ythoiajpbpoglfaa

/- A node's crowd is at most the bars. No program in sight. -/
namespace Go.Proofs.Ythoiajpbpoglfaa
set_option linter.unusedVariables false
set_option linter.unusedSimpArgs false
open Go.RowKit

theorem putY_more (l : List Yc) (s : Yc) : (putY l s).length ≤ l.length + 1 := by
  unfold putY
  split <;> simp
theorem setY_more (xs : List Yc) : ∀ l, (setY l xs).length ≤ l.length + xs.length := by
  induction xs with
  | nil => intro l; simp [setY]
  | cons x t ih =>
    intro l
    have h1 := ih (putY l x)
    have h2 := putY_more l x
    simp only [setY, List.foldl_cons, List.length_cons] at *
    omega

theorem stepC_one {cr : Nat → Int} {s : Yc} {K : Int} (h : ∀ i, cr i ≤ K) (hs : s.lo ≠ -1 → s.v.toNat ≠ s.lo.toNat) : ∀ i, stepC cr s i ≤ K + 1 := by
  intro i
  have h1 := h i
  have h2 := h s.v.toNat
  have h3 := h s.lo.toNat
  by_cases e : s.lo = -1
  · rw [show stepC cr s = _ from if_pos e]
    unfold upd
    split <;> omega
  · have hn := hs e
    rw [show stepC cr s = _ from if_neg e]
    have e9 : upd cr s.v.toNat (cr s.v.toNat + 1) s.lo.toNat = cr s.lo.toNat := upd_ne _ _ (fun h9 => hn h9.symm)
    rw [e9]
    unfold upd
    split
    · omega
    · split <;> omega

theorem crF_one (ys : List Yc) (hs : ∀ s ∈ ys, s.lo ≠ -1 → s.v.toNat ≠ s.lo.toNat) : ∀ k i, crF (ys.take k) i ≤ (k : Int) := by
  intro k
  induction k with
  | zero => intro i; simp [crF]
  | succ k ih =>
    intro i
    cases h : ys[k]? with
    | none =>
      rw [List.take_add_one, h]
      have := ih i
      simp at *
      omega
    | some s =>
      rw [crF_step h]
      have := stepC_one (s := s) ih (hs s (List.mem_of_getElem? h)) i
      omega

theorem crw_le (ks : List Int) (bs : List Yc) (x : Int) : crwR ks bs x ≤ (bs.length : Int) := by
  unfold crwR
  split
  · rename_i h
    have hg := (graph_good h.1).2.2
    have hl := setY_more (bs.map nrmC) []
    have hm : ∀ s ∈ setY [] (bs.map nrmC), s.lo ≠ -1 → s.v.toNat ≠ s.lo.toNat := fun s hs hne => by
      rcases (setY_mem _ _ _).1 hs with h1 | h1
      · cases h1
      · obtain ⟨y, hy, rfl⟩ := List.mem_map.1 h1
        obtain ⟨h2, h3⟩ := gdB_nrm (hg y hy).1
        rcases h2.2 with h4 | ⟨h4, h5, h6, -⟩
        · exact absurd h4 hne
        · have := h2.1
          omega
    have := crF_one _ hm (setY [] (bs.map nrmC)).length x.toNat
    rw [List.take_length] at this
    simp at hl
    omega
  · omega

end Go.Proofs.Ythoiajpbpoglfaa
