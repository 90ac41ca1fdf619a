/- What the given l10Crowd answers. -/
import Derived.Test.YtddgldfjeklhbaaBT
import Derived.Test.YtddgldfjeklhbaaBQ
namespace Go.Proofs.Ytddgldfjeklhbaa
set_option linter.unusedVariables false
set_option linter.unusedSimpArgs false
open Go.RowKit Go.WideMaps Go.Maps

/-- The other node of a bar of this one. -/
def othC (x : Int) (s : Yc) : Option Int := if s.v = x then (if s.lo < 0 then none else some s.lo) else if s.lo = x then some s.v else none
def othR (x : Int) (ys : List Yc) : List Int := ys.filterMap (othC x)
def valC (x : Int) (s : Yc) : Bool := decide (s.v = x) && decide (s.lo < 0)
def valR (x : Int) (ys : List Yc) : List Yc := (ys.filter (valC x)).foldl putY []

theorem othR_step {ys : List Yc} {k : Nat} {s : Yc} (h : ys[k]? = some s) (x : Int) : othR x (ys.take (k + 1)) = othR x (ys.take k) ++ (othC x s).toList := by
  rw [List.take_add_one, h]
  unfold othR
  rw [List.filterMap_append]
  cases e : othC x s <;> simp [e]
theorem valR_step {ys : List Yc} {k : Nat} {s : Yc} (h : ys[k]? = some s) (x : Int) : valR x (ys.take (k + 1)) = if valC x s = true then putY (valR x (ys.take k)) s else valR x (ys.take k) := by
  rw [List.take_add_one, h]
  unfold valR
  rw [List.filter_append, List.foldl_append]
  cases e : valC x s <;> simp [e]
theorem othR_len (x : Int) (ys : List Yc) : (othR x ys).length ≤ ys.length := List.length_filterMap_le _ _
theorem putY_len (l : List Yc) (s : Yc) : (putY l s).length ≤ l.length + 1 := by
  unfold putY; split <;> simp
theorem foldY_len (xs : List Yc) : ∀ l, (xs.foldl putY l).length ≤ l.length + xs.length := by
  induction xs with
  | nil => intro l; simp
  | cons x t ih =>
    intro l
    have h1 := ih (putY l x)
    have h2 := putY_len l x
    simp only [List.foldl_cons, List.length_cons]
    omega
theorem valR_len (x : Int) (ys : List Yc) : (valR x ys).length ≤ ys.length := by
  have h1 := foldY_len (ys.filter (valC x)) []
  have h2 := List.length_filter_le (valC x) ys
  unfold valR
  simp at h1
  omega
theorem OI1.ksb {w w' : World} {B : Nat} {v : Value} {xs : List Int} (h : OI1 w B v xs) (hk : Ksb w w') : OI1 w' B v xs := owr_move h (fun b hb => by obtain ⟨⟨cur, hc⟩, -⟩ := owr_typed h hb; exact hk.stay b _ _ _ hc (by decide) (by decide))
theorem OB4.ksh {w w' : World} {B : Nat} {v : Value} {l : List Yg} (h : OB4 w B v l) (hk : Ksh w w') : OB4 w' B v l := h.move (fun b hb => by obtain ⟨cur, hc⟩ := h.typed hb; exact hk.stay b _ _ _ hc (by decide) (by decide))
theorem nw_ksh {w w' : World} {lo : Nat} {a : Option Addr} {xs : List Nat} (h : Nw w lo a xs) (hk : Ksh w w') : Nw w' lo a xs := Nw.kept h fun k cur hc => hk.stay k _ _ _ hc (by decide) (by decide)
theorem OB4.empty (w : World) (B : Nat) (h : B ≤ w.heap.size) : OB4 (w.alloc (.cells #[] 54)) B (.slice (some ⟨w.heap.size, 0, Option.none⟩) 0 0) [] := World.ownsRow_made w #[] 0 h (Nat.zero_le _) (by simp)
theorem okY_at {w : World} {b o : Nat} {x : Yg} (h : YgAt w b o x) : okY x.ct := by
  obtain ⟨-, hr, h1, h2, h3⟩ := h
  exact ⟨h1, h2, h3, hr.2.1, hr.1⟩

set_option maxHeartbeats 4000000 in
set_option maxRecDepth 100000 in
theorem l10Crowd_any (z : Gz) (x : Int) (w : World) (hz : RdG w z) (hgd : ∀ y ∈ z.bs, y.ct.lo < 0 → 0 < y.ct.ws.length) (hb1000 : z.bs.length ≤ 1000) :
    Calls Try.prog 33 #[z.val, .int .i64 x] w fun e w' => e = .returned (.int .i64 (((risI [] (othR x (z.bs.map Yg.ct))).length : Int) + ((valR x (z.bs.map Yg.ct)).length : Int))) ∧ Below w.heap.size w w' := by
  obtain ⟨a1, c1, ks, a2, c2, bs⟩ := z
  obtain ⟨hz1, hz2⟩ := hz
  simp only [Gz.val] at *
  have HGD := kide hgd
  have hb0 : Below w.heap.size w (w.alloc (Obj.cells #[Value.slice a1 ks.length c1, Value.slice a2 bs.length c2] 40)) := (Below.refl _ _).alloc (Nat.le_refl _) _
  have X0 := kide (Bz.new w #[Value.slice a1 ks.length c1, Value.slice a2 bs.length c2] 40)
  have HZ2 := kide (hz2.later hb0)
  have BW := kide hb0
  obtain ⟨n1, e1⟩ : ∃ n1, ks.length = n1 := ⟨_, rfl⟩
  obtain ⟨n2, e2⟩ : ∃ n2, bs.length = n2 := ⟨_, rfl⟩
  rw [e1, e2] at X0 HZ2 BW
  rw [e2] at hb1000
  rw [e1, e2]
  have HE2 := kide e2
  obtain ⟨RR, hRR⟩ : ∃ RR : Int, (((risI [] (othR x (bs.map Yg.ct))).length : Int) + ((valR x (bs.map Yg.ct)).length : Int)) = RR := ⟨_, rfl⟩
  rw [hRR]
  have HRR := kide hRR
  clear hz1 hz2 hb0 e1 e2 hgd hRR
  go_enter Try.func33, Try.ntmps33
  go_wp2_with fail
  have OO0 := kide (OI1.empty (w.alloc (Obj.cells #[Value.slice a1 n1 c1, Value.slice a2 n2 c2] 40)) _ (Nat.le_refl _))
  have hsz1 : (w.alloc (Obj.cells #[Value.slice a1 n1 c1, Value.slice a2 n2 c2] 40)).heap.size = w.heap.size + 1 := by simp
  have hbe : Below ((w.alloc (Obj.cells #[Value.slice a1 n1 c1, Value.slice a2 n2 c2] 40)).alloc (Obj.cells #[] 2)).heap.size ((w.alloc (Obj.cells #[Value.slice a1 n1 c1, Value.slice a2 n2 c2] 40)).alloc (Obj.cells #[] 2)) (((w.alloc (Obj.cells #[Value.slice a1 n1 c1, Value.slice a2 n2 c2] 40)).alloc (Obj.cells #[] 2)).alloc (Obj.cells #[] 54)) := (Below.refl _ _).alloc (Nat.le_refl _) _
  have OO1 := kide (OO0.out.later hbe)
  have OV1 := kide (OB4.empty ((w.alloc (Obj.cells #[Value.slice a1 n1 c1, Value.slice a2 n2 c2] 40)).alloc (Obj.cells #[] 2)) (w.alloc (Obj.cells #[Value.slice a1 n1 c1, Value.slice a2 n2 c2] 40)).heap.size (by simp))
  have BV1 : Hid (Below (w.alloc (Obj.cells #[Value.slice a1 n1 c1, Value.slice a2 n2 c2] 40)).heap.size (w.alloc (Obj.cells #[Value.slice a1 n1 c1, Value.slice a2 n2 c2] 40)) (((w.alloc (Obj.cells #[Value.slice a1 n1 c1, Value.slice a2 n2 c2] 40)).alloc (Obj.cells #[] 2)).alloc (Obj.cells #[] 54))) := ((Below.refl _ _).alloc (Nat.le_refl _) _).alloc (by simp) _
  rw [show ((w.alloc (Obj.cells #[Value.slice a1 n1 c1, Value.slice a2 n2 c2] 40)).alloc (Obj.cells #[] 2)).heap.size = w.heap.size + 1 + 1 by simp] at OV1
  rw [hsz1] at OO1
  clear OO0 hbe
  generalize ((w.alloc (Obj.cells #[Value.slice a1 n1 c1, Value.slice a2 n2 c2] 40)).alloc (Obj.cells #[] 2)).alloc (Obj.cells #[] 54) = V at *
  rw [← hsz1] at OO1
  generalize w.alloc (Obj.cells #[Value.slice a1 n1 c1, Value.slice a2 n2 c2] 40) = W at *
  obtain ⟨b0, hb0⟩ : ∃ b0, w.heap.size = b0 := ⟨_, rfl⟩
  rw [hb0] at X0 OV1 hsz1
  simp only [hb0]
  rw [hsz1] at OO1
  have HSZ1 := kide hsz1
  have OO2 : Hid (OI1 V W.heap.size (.slice (some ⟨b0 + 1, 0, none⟩) 0 0) []) := by show OI1 _ _ _ _; rw [hsz1]; exact OO1.out
  clear hb0 hsz1
  have HIN : Hid (∀ y ∈ othR x (bs.map Yg.ct), in64 y) := fun y hy => by
    obtain ⟨s, hs, es⟩ := List.mem_filterMap.1 hy
    obtain ⟨g, hg, rfl⟩ := List.mem_map.1 hs
    obtain ⟨-, h | ⟨b, o, e, hc⟩⟩ := HZ2.out
    · rw [h] at hg; cases hg
    · obtain ⟨j, hj, ej⟩ := List.mem_iff_getElem.1 hg
      obtain ⟨-, -, h1, h2, h3⟩ := hc j g (by rw [List.getElem?_eq_getElem hj, ej])
      unfold othC at es
      split at es
      · split at es
        · cases es
        · cases es; exact h2
      · split at es
        · cases es; exact h1
        · cases es
  go_loopw [6, 5, 7] (fun vv vo q wr => ∃ (k : Nat) (l : List Yg), k ≤ n2 ∧ q = .int .i64 (k : Int) ∧ OI1 wr W.heap.size vo (othR x ((bs.map Yg.ct).take k)) ∧ OB4 wr W.heap.size vv l ∧ l.map Yg.ct = valR x ((bs.map Yg.ct).take k) ∧ (∀ y ∈ l, Nw wr W.heap.size y.a y.ct.ws ∧ okY y.ct) ∧ Below W.heap.size W wr) (fun _ _ q _ => n2 - (intOf q).toNat)
  case atStart => exact ⟨0, [], Nat.zero_le _, rfl, OO2.out, OV1.out, rfl, by simp, BV1.out⟩
  case round =>
    obtain ⟨k, l, hk, rfl, hoo, hov, hlc, hlw, hb⟩ := hrel
    have HOO := kide hoo
    have HOV := kide hov
    have HLC := kide hlc
    have HLW := kide hlw
    have HB := kide hb
    have XG := kide (X0.out.later hb)
    have gg1 : wr.cell? ⟨b0, 1, none⟩ = some (Value.slice a2 n2 c2) := XG.out.cell 1
    have hlb := XG.out.lt
    have hl1 : l.length ≤ 1000 := by have h9 := congrArg List.length hlc; have h8 := valR_len x ((bs.map Yg.ct).take k); rw [List.length_map] at h9; rw [List.length_take] at h8; omega
    have hl2 : (othR x ((bs.map Yg.ct).take k)).length ≤ 1000 := by have h8 := othR_len x ((bs.map Yg.ct).take k); rw [List.length_take] at h8; omega
    clear OO1 OO2 OV1 BV1
    by_cases hlt : k < n2
    · have i0 : (k : Int) < (n2 : Int) := by omega
      obtain ⟨y, gy⟩ : ∃ y, bs[k]? = some y := ⟨bs[k]'(by rw [HE2.out]; exact hlt), List.getElem?_eq_getElem _⟩
      have gc : (bs.map Yg.ct)[k]? = some y.ct := by simp [gy]
      have hso := othR_step gc x
      have hsv := valR_step gc x
      have hws := HGD.out y (List.mem_of_getElem? gy)
      obtain ⟨-, h | ⟨b, o, rfl, hc⟩⟩ := HZ2.out.later hb
      · rw [h] at gy; simp at gy
      have hya := hc k y gy
      have hoky := okY_at hya
      obtain ⟨⟨p0, p1, p2, p3⟩, pr, -⟩ := hya
      obtain ⟨⟨xv, xlo, xbw, xws⟩, xa, xc⟩ := y
      simp only [Yg.hd] at p0 p1 p2 p3 pr hws hoky
      obtain ⟨xn, hxn⟩ : ∃ xn, xws.length = xn := ⟨_, rfl⟩
      rw [hxn] at p3 hws
      have HXN := kide hxn
      have hbx : Below wr.heap.size wr (wr.alloc (Obj.cells #[Value.int .i64 xv, Value.int .i64 xlo, Value.int .i64 xbw, Value.slice xa xn xc] 54)) := (Below.refl _ _).alloc (Nat.le_refl _) _
      clear hxn hc gy gc hoo hov hlc hlw hb
      by_cases hvx : xv = x
      · subst hvx
        have hee : (xv == xv) = true := by simp
        by_cases hl0 : xlo < 0
        · have HSO : Hid (othR xv ((bs.map Yg.ct).take (k + 1)) = othR xv ((bs.map Yg.ct).take k)) := by show _ = _; rw [hso]; simp [othC, hl0]
          have HSV : Hid (valR xv ((bs.map Yg.ct).take (k + 1)) = putY (valR xv ((bs.map Yg.ct).take k)) ⟨xv, xlo, xbw, xws⟩) := by show _ = _; rw [hsv]; simp [valC, hl0]
          have hpp := l9Put_any W.heap.size _ l ⟨⟨xv, xlo, xbw, xws⟩, xa, xc⟩ _ (HOV.out.later hbx) (fun y hy => ⟨(HLW.out y hy).1.later hbx, (HLW.out y hy).2⟩) (pr.later hbx) hoky (by simp only []; rw [HXN.out]; exact hws hl0) (by omega) (Nat.le_trans HB.out.size hbx.size)
          simp only [Yg.val, HXN.out] at hpp
          have HPP := kide hpp
          have BBX := kide (HB.out.trans (hbx.mono HB.out.size))
          have OOX := kide (HOO.out.later hbx)
          clear hpp hso hsv hbx pr hws hoky
          go_wp2_with fail
          refine Calls.mono HPP.out ?_
          rintro e w5 ⟨v5, l5, rfl, ho5, hl5, hw5, hb5, hk5⟩
          have OV5 := kide ho5
          have HL5 := kide hl5
          have HW5 := kide hw5
          have BB5 := kide (BBX.out.trans hb5)
          have OO5 := kide (OOX.out.ksb hk5)
          clear ho5 hl5 hw5 hb5 hk5 HPP BBX OOX
          go_wp2_with fail
          go_roundw
          case rel => exact ⟨k + 1, l5, by omega, by go_num, by rw [HSO.out]; exact OO5.out, OV5.out, by rw [HL5.out, HSV.out, HLC.out], HW5.out, BB5.out⟩
          case measure => simp [intOf]; omega
        · have HSO : Hid (othR xv ((bs.map Yg.ct).take (k + 1)) = othR xv ((bs.map Yg.ct).take k) ++ [xlo]) := by show _ = _; rw [hso]; simp [othC, hl0]
          have HSV : Hid (valR xv ((bs.map Yg.ct).take (k + 1)) = valR xv ((bs.map Yg.ct).take k)) := by show _ = _; rw [hsv]; simp [valC, hl0]
          clear hso hsv pr hws hoky
          have hoa := HOO.out.later hbx
          have hbs : Below (wr.alloc (Obj.cells #[Value.int .i64 xv, Value.int .i64 xlo, Value.int .i64 xbw, Value.slice xa xn xc] 54)).heap.size (wr.alloc (Obj.cells #[Value.int .i64 xv, Value.int .i64 xlo, Value.int .i64 xbw, Value.slice xa xn xc] 54)) ((wr.alloc (Obj.cells #[Value.int .i64 xv, Value.int .i64 xlo, Value.int .i64 xbw, Value.slice xa xn xc] 54)).alloc (Obj.cells #[Value.int .i64 xlo] 2)) := (Below.refl _ _).alloc (Nat.le_refl _) _
          have hob := hoa.later hbs
          unfold OI1 at hob
          rw [show (othR xv ((bs.map Yg.ct).take k)).length = ((othR xv ((bs.map Yg.ct).take k)).map (Value.int .i64)).length by simp] at hob
          have HOA := kide hob
          have KS1 := kide ((Ksh.of hbx).trans (Ksh.of hbs))
          have BB1 := kide ((HB.out.trans (hbx.mono HB.out.size)).trans (hbs.mono (by have := HB.out.size; have := hbx.size; omega)))
          have hlm : ((othR xv ((bs.map Yg.ct).take k)).map (Value.int .i64)).length ≤ 1073741824 := by rw [List.length_map]; omega
          have hBs : Hid (W.heap.size ≤ ((wr.alloc (Obj.cells #[Value.int .i64 xv, Value.int .i64 xlo, Value.int .i64 xbw, Value.slice xa xn xc] 54)).alloc (Obj.cells #[Value.int .i64 xlo] 2)).heap.size) := BB1.out.size
          have q0 : Hid (((wr.alloc (Obj.cells #[Value.int .i64 xv, Value.int .i64 xlo, Value.int .i64 xbw, Value.slice xa xn xc] 54)).alloc (Obj.cells #[Value.int .i64 xlo] 2)).cell? ⟨wr.heap.size + 1, 0, none⟩ = some (.int .i64 xlo)) := by
            have h9 := (Bz.new (wr.alloc (Obj.cells #[Value.int .i64 xv, Value.int .i64 xlo, Value.int .i64 xbw, Value.slice xa xn xc] 54)) #[Value.int .i64 xlo] 2).cell 0
            rw [show (wr.alloc (Obj.cells #[Value.int .i64 xv, Value.int .i64 xlo, Value.int .i64 xbw, Value.slice xa xn xc] 54)).heap.size = wr.heap.size + 1 by simp] at h9
            exact h9
          clear hoa hbs hob
          go_wp2_with (at_builtin; refine wpList_appI8 rfl _ _ rfl W.heap.size _ ((othR xv ((bs.map Yg.ct).take k)).map (Value.int .i64)) xlo rfl HOA.out _ rfl q0.out hlm hBs.out ?_)
          intro v5 w5 ho5 hg5 hat5
          have HK5 := kide (KS1.out.trans (Ksh.grown hg5 HOA.out))
          have HO5 : Hid (OI1 w5 W.heap.size v5 (othR xv ((bs.map Yg.ct).take k) ++ [xlo])) := by
            show OI1 _ _ _ _
            unfold OI1
            simpa using ho5
          have HB5 := kide (Below.grown BB1.out hg5 hBs.out (fun j hj => (owr_typed HOA.out hj).2))
          clear ho5 hg5 hat5 HOA BB1 q0 KS1
          go_wp2_with fail
          go_roundw
          case rel => exact ⟨k + 1, l, by omega, by go_num, by rw [HSO.out]; exact HO5.out, HOV.out.ksh HK5.out, by rw [HSV.out]; exact HLC.out, fun y hy => ⟨nw_ksh (HLW.out y hy).1 HK5.out, (HLW.out y hy).2⟩, HB5.out⟩
          case measure => simp [intOf]; omega
      · have hee : (xv == x) = false := by simp [hvx]
        by_cases hlx : xlo = x
        · subst hlx
          have hff : (xlo == xlo) = true := by simp
          have HSO : Hid (othR xlo ((bs.map Yg.ct).take (k + 1)) = othR xlo ((bs.map Yg.ct).take k) ++ [xv]) := by show _ = _; rw [hso]; simp [othC, hvx]
          have HSV : Hid (valR xlo ((bs.map Yg.ct).take (k + 1)) = valR xlo ((bs.map Yg.ct).take k)) := by show _ = _; rw [hsv]; simp [valC, hvx]
          clear hso hsv pr hws hoky hvx
          have hoa := HOO.out.later hbx
          have hbs : Below (wr.alloc (Obj.cells #[Value.int .i64 xv, Value.int .i64 xlo, Value.int .i64 xbw, Value.slice xa xn xc] 54)).heap.size (wr.alloc (Obj.cells #[Value.int .i64 xv, Value.int .i64 xlo, Value.int .i64 xbw, Value.slice xa xn xc] 54)) ((wr.alloc (Obj.cells #[Value.int .i64 xv, Value.int .i64 xlo, Value.int .i64 xbw, Value.slice xa xn xc] 54)).alloc (Obj.cells #[Value.int .i64 xv] 2)) := (Below.refl _ _).alloc (Nat.le_refl _) _
          have hob := hoa.later hbs
          unfold OI1 at hob
          rw [show (othR xlo ((bs.map Yg.ct).take k)).length = ((othR xlo ((bs.map Yg.ct).take k)).map (Value.int .i64)).length by simp] at hob
          have HOA := kide hob
          have KS1 := kide ((Ksh.of hbx).trans (Ksh.of hbs))
          have BB1 := kide ((HB.out.trans (hbx.mono HB.out.size)).trans (hbs.mono (by have := HB.out.size; have := hbx.size; omega)))
          have hlm : ((othR xlo ((bs.map Yg.ct).take k)).map (Value.int .i64)).length ≤ 1073741824 := by rw [List.length_map]; omega
          have hBs : Hid (W.heap.size ≤ ((wr.alloc (Obj.cells #[Value.int .i64 xv, Value.int .i64 xlo, Value.int .i64 xbw, Value.slice xa xn xc] 54)).alloc (Obj.cells #[Value.int .i64 xv] 2)).heap.size) := BB1.out.size
          have q0 : Hid (((wr.alloc (Obj.cells #[Value.int .i64 xv, Value.int .i64 xlo, Value.int .i64 xbw, Value.slice xa xn xc] 54)).alloc (Obj.cells #[Value.int .i64 xv] 2)).cell? ⟨wr.heap.size + 1, 0, none⟩ = some (.int .i64 xv)) := by
            have h9 := (Bz.new (wr.alloc (Obj.cells #[Value.int .i64 xv, Value.int .i64 xlo, Value.int .i64 xbw, Value.slice xa xn xc] 54)) #[Value.int .i64 xv] 2).cell 0
            rw [show (wr.alloc (Obj.cells #[Value.int .i64 xv, Value.int .i64 xlo, Value.int .i64 xbw, Value.slice xa xn xc] 54)).heap.size = wr.heap.size + 1 by simp] at h9
            exact h9
          clear hoa hbs hob
          go_wp2_with (at_builtin; refine wpList_appI8 rfl _ _ rfl W.heap.size _ ((othR xlo ((bs.map Yg.ct).take k)).map (Value.int .i64)) xv rfl HOA.out _ rfl q0.out hlm hBs.out ?_)
          intro v5 w5 ho5 hg5 hat5
          have HK5 := kide (KS1.out.trans (Ksh.grown hg5 HOA.out))
          have HO5 : Hid (OI1 w5 W.heap.size v5 (othR xlo ((bs.map Yg.ct).take k) ++ [xv])) := by
            show OI1 _ _ _ _
            unfold OI1
            simpa using ho5
          have HB5 := kide (Below.grown BB1.out hg5 hBs.out (fun j hj => (owr_typed HOA.out hj).2))
          clear ho5 hg5 hat5 HOA BB1 q0 KS1
          go_wp2_with fail
          go_roundw
          case rel => exact ⟨k + 1, l, by omega, by go_num, by rw [HSO.out]; exact HO5.out, HOV.out.ksh HK5.out, by rw [HSV.out]; exact HLC.out, fun y hy => ⟨nw_ksh (HLW.out y hy).1 HK5.out, (HLW.out y hy).2⟩, HB5.out⟩
          case measure => simp [intOf]; omega
        · have hff : (xlo == x) = false := by simp [hlx]
          have HSO : Hid (othR x ((bs.map Yg.ct).take (k + 1)) = othR x ((bs.map Yg.ct).take k)) := by show _ = _; rw [hso]; simp [othC, hvx, hlx]
          have HSV : Hid (valR x ((bs.map Yg.ct).take (k + 1)) = valR x ((bs.map Yg.ct).take k)) := by show _ = _; rw [hsv]; simp [valC, hvx]
          have BBX := kide (HB.out.trans (hbx.mono HB.out.size))
          have OOX := kide (HOO.out.later hbx)
          have OVX := kide (HOV.out.later hbx)
          have HWX := kide (fun y hy => And.intro ((HLW.out y hy).1.later hbx) (HLW.out y hy).2)
          clear hso hsv hbx pr hws hoky hvx hlx
          go_wp2_with fail
          go_roundw
          case rel => exact ⟨k + 1, l, by omega, by go_num, by rw [HSO.out]; exact OOX.out, OVX.out, by rw [HSV.out]; exact HLC.out, HWX.out, BBX.out⟩
          case measure => simp [intOf]; omega
    · have e : k = n2 := by omega
      subst e
      rw [List.take_of_length_le (by rw [List.length_map, HE2.out]; exact Nat.le_refl _)] at HOO HLC hl2
      obtain ⟨av, cv, rfl⟩ := HOO.out.form
      obtain ⟨bv, dv, rfl⟩ := HOV.out.form
      have HRS := kide (l7Rising_any av cv _ (othR x (bs.map Yg.ct)) wr (HOO.out.rd (by omega) HIN.out) rfl)
      have hrl := risI_len (othR x (bs.map Yg.ct)) []
      have hvl : l.length = (valR x (bs.map Yg.ct)).length := by have h9 := congrArg List.length HLC.out; rw [List.length_map] at h9; exact h9
      generalize risI [] (othR x (bs.map Yg.ct)) = RI at *
      generalize (othR x (bs.map Yg.ct)).length = on at *
      generalize (valR x (bs.map Yg.ct)).length = vn at *
      rw [hvl]
      rw [hvl] at hl1
      simp only [List.length_nil, Nat.zero_add] at hrl
      clear hoo hov hlc hlw hb hvl
      go_wp2_with fail
      refine Calls.mono HRS.out ?_
      rintro e w5 ⟨v5, rfl, ho5, hb5⟩
      obtain ⟨a5, c5, rfl⟩ := ho5.form
      have B5 := kide (BW.out.trans ((HB.out.trans (hb5.mono HB.out.size)).mono BW.out.size))
      have hrr := HRR.out
      have hi1 : (RI.length : Int) ≤ 1000 := by omega
      have hi2 : (vn : Int) ≤ 1000 := by omega
      clear ho5 hb5 HRS
      go_wp2_with fail
      go_ret
      exact ⟨by rw [← hrr]; go_num, B5.out⟩

end Go.Proofs.Ytddgldfjeklhbaa
