/- A bar is put into a set of bars. -/
import Derived.Test.YthoiajpbpoglfaaZKAF
import Derived.Test.YthoiajpbpoglfaaRX
namespace Go.Proofs.Ythoiajpbpoglfaa
set_option linter.unusedVariables false
set_option linter.unusedSimpArgs false
open Go.RowKit Go.WideMaps Go.Maps Go.MapKept Go.ChangeMaps

theorem turned_cells {w w' : World} {g b : Nat} {cs : Array Value} {t : TypeId} {fz : Nat × Nat} (h : w.mapTurned w' g) (hb : w.heap[b]? = some (.cells cs t fz)) : w'.heap[b]? = w.heap[b]? := by
  obtain ⟨es, clock, es', clock', hg, rfl⟩ := h
  refine heap_setBlock_other hg _ (fun e => ?_)
  subst e
  rw [hg] at hb
  cases hb
theorem Bz.ksb' {w w' : World} {g b : Nat} {cs : Array Value} {t : TypeId} (_ : Ksb w w') (hb : Bz w b cs t) (h : w.mapTurned w' g) : Bz w' b cs t := (turned_cells h hb).trans hb
theorem nsv {w : World} {s B : Nat} {cs : Array Value} {v : Value} {l : List Yg} (h : Bz w s cs 116) (ho : OB4 w B v l) (e : some s = v.ownBlock) : False := by
  obtain ⟨cur, hc⟩ := ho.typed e.symm
  unfold Bz at h
  rw [h] at hc
  cases hc
theorem nmv {w : World} {g n B : Nat} {D : DataW Unit} {v : Value} {l : List Yg} (h : w.ownsMap Try.prog 132 unitElem g n D) (ho : OB4 w B v l) (e : some g = v.ownBlock) : False := by
  obtain ⟨cur, hc⟩ := ho.typed e.symm
  obtain ⟨es, ck, hm⟩ := own_isMap h
  rw [hm] at hc
  cases hc

set_option maxHeartbeats 4000000 in
set_option maxRecDepth 100000 in
theorem add_any (B s : Nat) (l : List Yg) (x : Yg) (w : World) (hs : Bset w B s l) (hr : Rd w x.a x.ct.ws) (hx : okY x.ct) (hl : l.length ≤ 1048576) :
    Calls Try.prog 74 #[.pointer (some ⟨s, 0, none⟩), .agg #[.int .i64 x.ct.v, .int .i64 x.ct.lo, .int .i64 x.ct.bw, .slice x.a x.ct.ws.length x.c]] w fun e w' => e = .returned (.tuple #[]) ∧ Bset w' B s (putG l x) ∧ Below B w w' ∧ Ksb w w' := by
  obtain ⟨g, v, D, hown, hbox, hmp, hsk, hle⟩ := hs
  have hb0 : Below w.heap.size w (w.alloc (Obj.cells #[Value.int .i64 x.ct.v, Value.int .i64 x.ct.lo, Value.int .i64 x.ct.bw, Value.slice x.a x.ct.ws.length x.c] 86)) := (Below.refl _ _).alloc (Nat.le_refl _) _
  have HK := kide (fun u (hu : Below w.heap.size w u) => listKey_any x.a x.c x.ct.ws.length x.ct.ws u (hr.later hu) rfl)
  have X0 := kide (Bz.new w #[Value.int .i64 x.ct.v, Value.int .i64 x.ct.lo, Value.int .i64 x.ct.bw, Value.slice x.a x.ct.ws.length x.c] 86)
  obtain ⟨T, hT⟩ : ∃ T, keyS x.ct.ws = T := ⟨_, rfl⟩
  rw [hT] at HK
  obtain ⟨kl, hkl⟩ := keyOf_ok hx
  have hhas := hsk.has _ kl hx hkl
  have hskst := hsk.step hx hkl
  unfold kvB at hkl
  rw [hT] at hkl
  have HKL := kide hkl
  have HHAS := kide hhas
  have HSKS := kide hskst
  have BW := kide hb0
  obtain ⟨y, hy⟩ : ∃ y : Yg, y = x := ⟨x, rfl⟩
  have HP : Hid (putG l x = if Maps.has D kl = true then l else l ++ [y]) := by
    show _ = _
    rw [hy]; unfold putG
    by_cases e : x.ct ∈ l.map Yg.ct
    · rw [if_pos e, if_pos (hhas.2 e)]
    · rw [if_neg e, if_neg (fun h => e (hhas.1 h))]
  have y1 := kide (show x.ct.v = y.ct.v by rw [hy])
  have y2 := kide (show x.ct.lo = y.ct.lo by rw [hy])
  have y3 := kide (show x.ct.bw = y.ct.bw by rw [hy])
  have y4 := kide (show Value.slice x.a x.ct.ws.length x.c = .slice y.a y.ct.ws.length y.c by rw [hy])
  have y5 := kide (show l.map Yg.ct ++ [x.ct] = (l ++ [y]).map Yg.ct by rw [hy]; simp)
  have HO := kide hown
  have HBX := kide hbox
  have HMP := kide hmp
  have HSK := kide hsk
  have HLE := kide hle
  have HBW := kide (show B ≤ w.heap.size by have := lt_of_block hbox; omega)
  generalize putG l x = L2 at *
  clear hr hb0 hT hx hown hbox hmp hsk hhas hskst hkl hle hy
  obtain ⟨⟨xv, xlo, xbw, xws⟩, xa, xc⟩ := x
  simp only [] at *
  generalize xws.length = xn at *
  go_enter Try.func74, Try.ntmps74
  go_wp2_with fail
  generalize w.alloc (Obj.cells #[Value.int .i64 xv, Value.int .i64 xlo, Value.int .i64 xbw, Value.slice xa xn xc] 86) = W at *
  obtain ⟨b0, hb0⟩ : ∃ b0, w.heap.size = b0 := ⟨_, rfl⟩
  rw [hb0] at X0
  simp only [hb0]
  have HB0 := kide hb0
  clear hb0
  have hlt0 := X0.out.lt
  have g0 : W.cell? ⟨b0, 0, none⟩ = some (Value.int .i64 xv) := X0.out.cell 0
  have g1 : W.cell? ⟨b0, 1, none⟩ = some (Value.int .i64 xlo) := X0.out.cell 1
  have g2 : W.cell? ⟨b0, 2, none⟩ = some (Value.int .i64 xbw) := X0.out.cell 2
  have g3 : W.cell? ⟨b0, 3, none⟩ = some (Value.slice xa xn xc) := X0.out.cell 3
  apply share2 (F := fun u kb => Below W.heap.size W u ∧ Bz u kb #[Value.int .i64 xv, Value.int .i64 xlo, Value.int .i64 xbw, Value.string T] 132 ∧ W.heap.size ≤ kb)
  · intro key
    refine wp_region_x (SA := fun _ => False) (SB := fun uu => Below W.heap.size W uu) (k := 999) (by kernel_rfl) ?_
    have hu0 : Hid (Below W.heap.size W W.drew) := (Below.refl _ _).drew
    generalize W.drew = u0 at *
    try go_simp
    refine wpAnyX_both (T := fun uu => Below W.heap.size W uu) (i := 0) (v := Value.pointer (some ⟨b0, 0, none⟩)) rfl (by kernel_rfl) (by kernel_rfl) (by kernel_rfl) (fun _ _ _ h => by first | exact h | exact h.elim) (by decide) (fun _ h => h.elim) (fun _ h => h) (Sx.behind (by kernel_rfl) hu0.out) (Or.inl ⟨by rfl, fun uu hu => by go_simp⟩) ?_
    try go_simp
    refine wpAnyX_both (T := fun uu => Below W.heap.size W uu) (i := 1) (v := Value.int .i64 xv) rfl (by kernel_rfl) (by kernel_rfl) (by kernel_rfl) (fun _ _ _ h => by first | exact h | exact h.elim) (by decide) (fun _ h => h.elim) (fun _ h => h) (Sx.behind (by kernel_rfl) hu0.out) (Or.inl ⟨by rfl, fun uu hu => by have e1 := (kcell hu b0 0 hlt0).trans g0; go_simp⟩) ?_
    try go_simp
    refine wpAnyX_both (T := fun uu => Below W.heap.size W uu) (i := 2) (v := Value.pointer (some ⟨b0, 1, none⟩)) rfl (by kernel_rfl) (by kernel_rfl) (by kernel_rfl) (fun _ _ _ h => by first | exact h | exact h.elim) (by decide) (fun _ h => h.elim) (fun _ h => h) (Sx.behind (by kernel_rfl) hu0.out) (Or.inl ⟨by rfl, fun uu hu => by go_simp⟩) ?_
    try go_simp
    refine wpAnyX_both (T := fun uu => Below W.heap.size W uu) (i := 3) (v := Value.int .i64 xlo) rfl (by kernel_rfl) (by kernel_rfl) (by kernel_rfl) (fun _ _ _ h => by first | exact h | exact h.elim) (by decide) (fun _ h => h.elim) (fun _ h => h) (Sx.behind (by kernel_rfl) hu0.out) (Or.inl ⟨by rfl, fun uu hu => by have e1 := (kcell hu b0 1 hlt0).trans g1; go_simp⟩) ?_
    try go_simp
    refine wpAnyX_both (T := fun uu => Below W.heap.size W uu) (i := 4) (v := Value.pointer (some ⟨b0, 2, none⟩)) rfl (by kernel_rfl) (by kernel_rfl) (by kernel_rfl) (fun _ _ _ h => by first | exact h | exact h.elim) (by decide) (fun _ h => h.elim) (fun _ h => h) (Sx.behind (by kernel_rfl) hu0.out) (Or.inl ⟨by rfl, fun uu hu => by go_simp⟩) ?_
    try go_simp
    refine wpAnyX_both (T := fun uu => Below W.heap.size W uu) (i := 5) (v := Value.pointer (some ⟨b0, 2, none⟩)) rfl (by kernel_rfl) (by kernel_rfl) (by kernel_rfl) (fun _ _ _ h => by first | exact h | exact h.elim) (by decide) (fun _ h => h.elim) (fun _ h => h) (Sx.behind (by kernel_rfl) hu0.out) (Or.inl ⟨by rfl, fun uu hu => by go_simp⟩) ?_
    try go_simp
    refine wpAnyX_both (T := fun uu => Below W.heap.size W uu) (i := 6) (v := Value.int .i64 xbw) rfl (by kernel_rfl) (by kernel_rfl) (by kernel_rfl) (fun _ _ _ h => by first | exact h | exact h.elim) (by decide) (fun _ h => h.elim) (fun _ h => h) (Sx.behind (by kernel_rfl) hu0.out) (Or.inl ⟨by rfl, fun uu hu => by have e1 := (kcell hu b0 2 hlt0).trans g2; go_simp⟩) ?_
    try go_simp
    refine wpAnyX_both (T := fun uu => Below W.heap.size W uu) (i := 7) (v := Value.pointer (some ⟨b0, 2, none⟩)) rfl (by kernel_rfl) (by kernel_rfl) (by kernel_rfl) (fun _ _ _ h => by first | exact h | exact h.elim) (by decide) (fun _ h => h.elim) (fun _ h => h) (Sx.behind (by kernel_rfl) hu0.out) (Or.inl ⟨by rfl, fun uu hu => by go_simp⟩) ?_
    try go_simp
    refine wpAnyX_both (T := fun uu => Below W.heap.size W uu) (i := 8) (v := Value.pointer (some ⟨b0, 3, none⟩)) rfl (by kernel_rfl) (by kernel_rfl) (by kernel_rfl) (fun _ _ _ h => by first | exact h | exact h.elim) (by decide) (fun _ h => h.elim) (fun _ h => h) (Sx.behind (by kernel_rfl) hu0.out) (Or.inl ⟨by rfl, fun uu hu => by go_simp⟩) ?_
    try go_simp
    refine wpAnyX_both (T := fun uu => Below W.heap.size W uu) (i := 9) (v := Value.slice xa xn xc) rfl (by kernel_rfl) (by kernel_rfl) (by kernel_rfl) (fun _ _ _ h => by first | exact h | exact h.elim) (by decide) (fun _ h => h.elim) (fun _ h => h) (Sx.behind (by kernel_rfl) hu0.out) (Or.inl ⟨by rfl, fun uu hu => by have e1 := (kcell hu b0 3 hlt0).trans g3; go_simp⟩) ?_
    try go_simp
    refine wpAnyX_ready (rs := [10, 12]) (by kernel_rfl) (by simp) (AllX.cons rfl (fun K hK => ?_) (AllX.cons rfl (fun K hK => ?_) AllX.nil))
    · go_simp
      refine Calls.mono (HK.out _ (BW.out.trans (hu0.out.mono BW.out.size))) ?_
      rintro e u1 ⟨rfl, hb⟩
      have hu1 : Hid (Below W.heap.size W u1) := hu0.out.trans (hb.mono hu0.out.size)
      refine hK _ _ (Sx.behind (by kernel_rfl) hu1.out) ?_
      clear hK K hb
      try go_simp
      refine wpAnyX_both (T := fun uu => Below W.heap.size W uu) (i := 11) (v := Value.agg #[Value.int .i64 xv, Value.int .i64 xlo, Value.int .i64 xbw, Value.string T]) rfl (by kernel_rfl) (by kernel_rfl) (by kernel_rfl) (fun _ _ _ h => by first | exact h | exact h.elim) (by decide) (fun _ h => h.elim) (fun _ h => h) (Sx.behind (by kernel_rfl) hu1.out) (Or.inl ⟨by rfl, fun uu hu => by go_simp⟩) ?_
      try go_simp
      refine wpAnyX_ready (rs := [12]) (by kernel_rfl) (by simp) (AllX.cons rfl (fun K hK => ?_) AllX.nil)
      go_simp
      refine hK _ _ (Sx.behind (by kernel_rfl) (hu1.out.alloc hu1.out.size _)) ?_
      clear hK K
      have hu2 : Hid (Below W.heap.size W (u1.alloc (Obj.cells #[Value.int .i64 0, Value.int .i64 0, Value.int .i64 0, Value.string { data := #[] }] 132))) := hu1.out.alloc hu1.out.size _
      have bkb_2 : Hid (Bz (u1.alloc (Obj.cells #[Value.int .i64 0, Value.int .i64 0, Value.int .i64 0, Value.string { data := #[] }] 132)) u1.heap.size #[Value.int .i64 0, Value.int .i64 0, Value.int .i64 0, Value.string { data := #[] }] 132) := Bz.new _ _ _
      have w2 : Below u1.heap.size u1 (u1.alloc (Obj.cells #[Value.int .i64 0, Value.int .i64 0, Value.int .i64 0, Value.string { data := #[] }] 132)) := (Below.refl _ _).alloc (Nat.le_refl _) _
      have lkb : W.heap.size ≤ u1.heap.size := hu1.out.size
      clear w2
      generalize hqkb : u1.heap.size = kb at *
      generalize u1.alloc (Obj.cells #[Value.int .i64 0, Value.int .i64 0, Value.int .i64 0, Value.string { data := #[] }] 132) = u2 at *
      clear hqkb
      try go_simp
      refine wpAnyX_ready (rs := [13]) (by kernel_rfl) (by simp) (AllX.cons rfl (fun K hK => ?_) AllX.nil)
      have e0 := bkb_2.out.cell 0
      have f0 := bkb_2.out.froz 0
      have e1 := bkb_2.out.cell 1
      have f1 := bkb_2.out.froz 1
      have e2 := bkb_2.out.cell 2
      have f2 := bkb_2.out.froz 2
      have e3 := bkb_2.out.cell 3
      have f3 := bkb_2.out.froz 3
      simp at e0 e1 e2 e3
      go_simp
      have bkb_3 : Hid (Bz ((((u2.setCell ⟨kb, 0, none⟩ (Value.int .i64 xv)).setCell ⟨kb, 1, none⟩ (Value.int .i64 xlo)).setCell ⟨kb, 2, none⟩ (Value.int .i64 xbw)).setCell ⟨kb, 3, none⟩ (Value.string T)) kb #[Value.int .i64 xv, Value.int .i64 xlo, Value.int .i64 xbw, Value.string T] 132) := ((((bkb_2.out.set 0 _).set 1 _).set 2 _).set 3 _)
      have hu3 : Hid (Below W.heap.size W ((((u2.setCell ⟨kb, 0, none⟩ (Value.int .i64 xv)).setCell ⟨kb, 1, none⟩ (Value.int .i64 xlo)).setCell ⟨kb, 2, none⟩ (Value.int .i64 xbw)).setCell ⟨kb, 3, none⟩ (Value.string T))) := ((((hu2.out.setCell (show _ ≤ kb from lkb) _).setCell (show _ ≤ kb from lkb) _).setCell (show _ ≤ kb from lkb) _).setCell (show _ ≤ kb from lkb) _)
      refine hK _ _ (Sx.behind (by kernel_rfl) hu3.out) ?_
      clear hK K e0 f0 e1 f1 e2 f2 e3 f3
      generalize ((((u2.setCell ⟨kb, 0, none⟩ (Value.int .i64 xv)).setCell ⟨kb, 1, none⟩ (Value.int .i64 xlo)).setCell ⟨kb, 2, none⟩ (Value.int .i64 xbw)).setCell ⟨kb, 3, none⟩ (Value.string T)) = u3 at *
      try go_simp
      refine wpAnyX_done (by kernel_rfl) ?_ _
      exact key u3 kb ⟨hu3.out, bkb_3.out, lkb⟩
    · go_simp
      refine hK _ _ (Sx.behind (by kernel_rfl) (hu0.out.alloc hu0.out.size _)) ?_
      clear hK K
      have hu1 : Hid (Below W.heap.size W (u0.alloc (Obj.cells #[Value.int .i64 0, Value.int .i64 0, Value.int .i64 0, Value.string { data := #[] }] 132))) := hu0.out.alloc hu0.out.size _
      have bkb_1 : Hid (Bz (u0.alloc (Obj.cells #[Value.int .i64 0, Value.int .i64 0, Value.int .i64 0, Value.string { data := #[] }] 132)) u0.heap.size #[Value.int .i64 0, Value.int .i64 0, Value.int .i64 0, Value.string { data := #[] }] 132) := Bz.new _ _ _
      have w1 : Below u0.heap.size u0 (u0.alloc (Obj.cells #[Value.int .i64 0, Value.int .i64 0, Value.int .i64 0, Value.string { data := #[] }] 132)) := (Below.refl _ _).alloc (Nat.le_refl _) _
      have lkb : W.heap.size ≤ u0.heap.size := hu0.out.size
      clear w1
      generalize hqkb : u0.heap.size = kb at *
      generalize u0.alloc (Obj.cells #[Value.int .i64 0, Value.int .i64 0, Value.int .i64 0, Value.string { data := #[] }] 132) = u1 at *
      clear hqkb
      try go_simp
      refine wpAnyX_ready (rs := [10]) (by kernel_rfl) (by simp) (AllX.cons rfl (fun K hK => ?_) AllX.nil)
      go_simp
      refine Calls.mono (HK.out _ (BW.out.trans (hu1.out.mono BW.out.size))) ?_
      rintro e u2 ⟨rfl, hb⟩
      have hu2 : Hid (Below W.heap.size W u2) := hu1.out.trans (hb.mono hu1.out.size)
      have bkb_2 : Hid (Bz u2 kb #[Value.int .i64 0, Value.int .i64 0, Value.int .i64 0, Value.string { data := #[] }] 132) := Bz.later bkb_1.out hb
      refine hK _ _ (Sx.behind (by kernel_rfl) hu2.out) ?_
      clear hK K hb
      try go_simp
      refine wpAnyX_both (T := fun uu => Below W.heap.size W uu) (i := 11) (v := Value.agg #[Value.int .i64 xv, Value.int .i64 xlo, Value.int .i64 xbw, Value.string T]) rfl (by kernel_rfl) (by kernel_rfl) (by kernel_rfl) (fun _ _ _ h => by first | exact h | exact h.elim) (by decide) (fun _ h => h.elim) (fun _ h => h) (Sx.behind (by kernel_rfl) hu2.out) (Or.inl ⟨by rfl, fun uu hu => by go_simp⟩) ?_
      try go_simp
      refine wpAnyX_ready (rs := [13]) (by kernel_rfl) (by simp) (AllX.cons rfl (fun K hK => ?_) AllX.nil)
      have e0 := bkb_2.out.cell 0
      have f0 := bkb_2.out.froz 0
      have e1 := bkb_2.out.cell 1
      have f1 := bkb_2.out.froz 1
      have e2 := bkb_2.out.cell 2
      have f2 := bkb_2.out.froz 2
      have e3 := bkb_2.out.cell 3
      have f3 := bkb_2.out.froz 3
      simp at e0 e1 e2 e3
      go_simp
      have bkb_3 : Hid (Bz ((((u2.setCell ⟨kb, 0, none⟩ (Value.int .i64 xv)).setCell ⟨kb, 1, none⟩ (Value.int .i64 xlo)).setCell ⟨kb, 2, none⟩ (Value.int .i64 xbw)).setCell ⟨kb, 3, none⟩ (Value.string T)) kb #[Value.int .i64 xv, Value.int .i64 xlo, Value.int .i64 xbw, Value.string T] 132) := ((((bkb_2.out.set 0 _).set 1 _).set 2 _).set 3 _)
      have hu3 : Hid (Below W.heap.size W ((((u2.setCell ⟨kb, 0, none⟩ (Value.int .i64 xv)).setCell ⟨kb, 1, none⟩ (Value.int .i64 xlo)).setCell ⟨kb, 2, none⟩ (Value.int .i64 xbw)).setCell ⟨kb, 3, none⟩ (Value.string T))) := ((((hu2.out.setCell (show _ ≤ kb from lkb) _).setCell (show _ ≤ kb from lkb) _).setCell (show _ ≤ kb from lkb) _).setCell (show _ ≤ kb from lkb) _)
      refine hK _ _ (Sx.behind (by kernel_rfl) hu3.out) ?_
      clear hK K e0 f0 e1 f1 e2 f2 e3 f3
      generalize ((((u2.setCell ⟨kb, 0, none⟩ (Value.int .i64 xv)).setCell ⟨kb, 1, none⟩ (Value.int .i64 xlo)).setCell ⟨kb, 2, none⟩ (Value.int .i64 xbw)).setCell ⟨kb, 3, none⟩ (Value.string T)) = u3 at *
      try go_simp
      refine wpAnyX_done (by kernel_rfl) ?_ _
      exact key u3 kb ⟨hu3.out, bkb_3.out, lkb⟩
  · intro u kb hF
    obtain ⟨hbu, xk, lkb⟩ := hF
    have BU := kide (BW.out.trans (hbu.mono BW.out.size))
    have hlk := xk.lt
    have k0 : u.cell? ⟨kb, 0, none⟩ = some (Value.int .i64 xv) := xk.cell 0
    have k1 : u.cell? ⟨kb, 1, none⟩ = some (Value.int .i64 xlo) := xk.cell 1
    have k2 : u.cell? ⟨kb, 2, none⟩ = some (Value.int .i64 xbw) := xk.cell 2
    have k3 : u.cell? ⟨kb, 3, none⟩ = some (Value.string T) := xk.cell 3
    have hbx : Bz u s #[v, .map (some g)] 116 := Bz.later (u := w) HBX.out BU.out
    have hls := hbx.lt
    have s0 : u.cell? ⟨s, 0, none⟩ = some v := hbx.cell 0
    have s1 : u.cell? ⟨s, 1, none⟩ = some (.map (some g)) := hbx.cell 1
    have hmu := own_below HMP.out (fun hg => BU.out.block g hg)
    have HLK := kide (fun u' (hu : Below u.heap.size u u') => look_bar (own_below hmu (fun hg => hu.block g hg)) HKL.out)
    have HOU := kide (HO.out.later BU.out)
    have XB : Hid (Bz u b0 #[Value.int .i64 xv, Value.int .i64 xlo, Value.int .i64 xbw, Value.slice xa xn xc] 86) := Bz.later X0.out hbu
    have XS := kide hbx
    have XK := kide xk
    have HMU := kide hmu
    generalize hHD : Maps.has D kl = H at *
    clear hbu xk hbx hmu BW HK HMP HBX hHD
    go_wp2_with fail
    apply share2 (F := fun u2 eb => Below u.heap.size u u2)
    · intro key
      refine wp_region_x (SA := fun _ => False) (SB := fun uu => Below u.heap.size u uu) (k := 999) (by kernel_rfl) ?_
      have hz0 : Hid (Below u.heap.size u u.drew) := (Below.refl _ _).drew
      generalize u.drew = z0 at *
      try go_simp
      refine wpAnyX_both (T := fun uu => Below u.heap.size u uu) (i := 0) (v := Value.pointer (some ⟨s, 0, none⟩)) rfl (by kernel_rfl) (by kernel_rfl) (by kernel_rfl) (fun _ _ _ h => by first | exact h | exact h.elim) (by decide) (fun _ h => h.elim) (fun _ h => h) (Sx.behind (by kernel_rfl) hz0.out) (Or.inl ⟨by rfl, fun uu hu => by go_simp⟩) ?_
      try go_simp
      refine wpAnyX_both (T := fun uu => Below u.heap.size u uu) (i := 1) (v := Value.pointer (some ⟨s, 0, none⟩)) rfl (by kernel_rfl) (by kernel_rfl) (by kernel_rfl) (fun _ _ _ h => by first | exact h | exact h.elim) (by decide) (fun _ h => h.elim) (fun _ h => h) (Sx.behind (by kernel_rfl) hz0.out) (Or.inl ⟨by rfl, fun uu hu => by go_simp⟩) ?_
      try go_simp
      refine wpAnyX_both (T := fun uu => Below u.heap.size u uu) (i := 2) (v := Value.pointer (some ⟨s, 1, none⟩)) rfl (by kernel_rfl) (by kernel_rfl) (by kernel_rfl) (fun _ _ _ h => by first | exact h | exact h.elim) (by decide) (fun _ h => h.elim) (fun _ h => h) (Sx.behind (by kernel_rfl) hz0.out) (Or.inl ⟨by rfl, fun uu hu => by go_simp⟩) ?_
      try go_simp
      refine wpAnyX_both (T := fun uu => Below u.heap.size u uu) (i := 3) (v := Value.map (some g)) rfl (by kernel_rfl) (by kernel_rfl) (by kernel_rfl) (fun _ _ _ h => by first | exact h | exact h.elim) (by decide) (fun _ h => h.elim) (fun _ h => h) (Sx.behind (by kernel_rfl) hz0.out) (Or.inl ⟨by rfl, fun uu hu => by have e1 := (kcell hu s 1 hls).trans s1; go_simp⟩) ?_
      try go_simp
      refine wpAnyX_both (T := fun uu => Below u.heap.size u uu) (i := 4) (v := Value.agg #[Value.int .i64 xv, Value.int .i64 xlo, Value.int .i64 xbw, Value.string T]) rfl (by kernel_rfl) (by kernel_rfl) (by kernel_rfl) (fun _ _ _ h => by first | exact h | exact h.elim) (by decide) (fun _ h => h.elim) (fun _ h => h) (Sx.behind (by kernel_rfl) hz0.out) (Or.inl ⟨by rfl, fun uu hu => by have e0 := (kcell hu kb 0 hlk).trans k0; have e1 := (kcell hu kb 1 hlk).trans k1; have e2 := (kcell hu kb 2 hlk).trans k2; have e3 := (kcell hu kb 3 hlk).trans k3; go_simp⟩) ?_
      try go_simp
      refine wpAnyX_both (T := fun uu => Below u.heap.size u uu) (i := 5) (v := Value.tuple #[Value.agg #[], Value.bool H]) rfl (by kernel_rfl) (by kernel_rfl) (by kernel_rfl) (fun _ _ _ h => by first | exact h | exact h.elim) (by decide) (fun _ h => h.elim) (fun _ h => h) (Sx.behind (by kernel_rfl) hz0.out) (Or.inl ⟨by rfl, fun uu hu => by have e1 := HLK.out uu hu; go_simp⟩) ?_
      try go_simp
      refine wpAnyX_both (T := fun uu => Below u.heap.size u uu) (i := 6) (v := Value.tuple #[Value.agg #[], Value.bool H]) rfl (by kernel_rfl) (by kernel_rfl) (by kernel_rfl) (fun _ _ _ h => by first | exact h | exact h.elim) (by decide) (fun _ h => h.elim) (fun _ h => h) (Sx.behind (by kernel_rfl) hz0.out) (Or.inl ⟨by rfl, fun uu hu => by go_simp⟩) ?_
      try go_simp
      refine wpAnyX_both (T := fun uu => Below u.heap.size u uu) (i := 7) (v := Value.agg #[]) rfl (by kernel_rfl) (by kernel_rfl) (by kernel_rfl) (fun _ _ _ h => by first | exact h | exact h.elim) (by decide) (fun _ h => h.elim) (fun _ h => h) (Sx.behind (by kernel_rfl) hz0.out) (Or.inl ⟨by rfl, fun uu hu => by go_simp⟩) ?_
      try go_simp
      refine wpAnyX_both (T := fun uu => Below u.heap.size u uu) (i := 8) (v := Value.bool H) rfl (by kernel_rfl) (by kernel_rfl) (by kernel_rfl) (fun _ _ _ h => by first | exact h | exact h.elim) (by decide) (fun _ h => h.elim) (fun _ h => h) (Sx.behind (by kernel_rfl) hz0.out) (Or.inl ⟨by rfl, fun uu hu => by go_simp⟩) ?_
      try go_simp
      refine wpAnyX_ready (rs := [9]) (by kernel_rfl) (by simp) (AllX.cons rfl (fun K hK => ?_) AllX.nil)
      go_simp
      refine hK _ _ (Sx.behind (by kernel_rfl) (hz0.out.alloc hz0.out.size _)) ?_
      clear hK K
      have hz1 : Hid (Below u.heap.size u (z0.alloc (Obj.cells #[] 126))) := hz0.out.alloc hz0.out.size _
      have beb_1 : Hid (Bz (z0.alloc (Obj.cells #[] 126)) z0.heap.size #[] 126) := Bz.new _ _ _
      have w1 : Below z0.heap.size z0 (z0.alloc (Obj.cells #[] 126)) := (Below.refl _ _).alloc (Nat.le_refl _) _
      have leb : u.heap.size ≤ z0.heap.size := hz0.out.size
      clear w1
      generalize hqeb : z0.heap.size = eb at *
      generalize z0.alloc (Obj.cells #[] 126) = z1 at *
      clear hqeb
      try go_simp
      refine wpAnyX_ready (rs := [10]) (by kernel_rfl) (by simp) (AllX.cons rfl (fun K hK => ?_) AllX.nil)
      go_simp
      refine hK _ _ (Sx.behind (by kernel_rfl) hz1.out) ?_
      clear hK K
      try go_simp
      refine wpAnyX_both (T := fun uu => Below u.heap.size u uu) (i := 11) (v := Value.bool H) rfl (by kernel_rfl) (by kernel_rfl) (by kernel_rfl) (fun _ _ _ h => by first | exact h | exact h.elim) (by decide) (fun _ h => h.elim) (fun _ h => h) (Sx.behind (by kernel_rfl) hz1.out) (Or.inl ⟨by rfl, fun uu hu => by go_simp⟩) ?_
      try go_simp
      refine wpAnyX_done (by kernel_rfl) ?_ _
      exact key z1 eb hz1.out
    · intro u2 eb hb2
      have B2 := kide (BU.out.trans (hb2.mono BU.out.size))
      have XB2 := kide (Bz.later XB.out hb2)
      have XS2 := kide (Bz.later XS.out hb2)
      have XK2 := kide (Bz.later XK.out hb2)
      have HM2 := kide (own_below HMU.out (fun hg => hb2.block g hg))
      have HO2 := kide (HOU.out.later hb2)
      clear XB XS XK HMU HOU HLK k0 k1 k2 k3 s0 s1 hb2
      have s0 : u2.cell? ⟨s, 0, none⟩ = some v := XS2.out.cell 0
      have s1 : u2.cell? ⟨s, 1, none⟩ = some (.map (some g)) := XS2.out.cell 1
      have k0 : u2.cell? ⟨kb, 0, none⟩ = some (Value.int .i64 xv) := XK2.out.cell 0
      have k1 : u2.cell? ⟨kb, 1, none⟩ = some (Value.int .i64 xlo) := XK2.out.cell 1
      have k2 : u2.cell? ⟨kb, 2, none⟩ = some (Value.int .i64 xbw) := XK2.out.cell 2
      have k3 : u2.cell? ⟨kb, 3, none⟩ = some (Value.string T) := XK2.out.cell 3
      cases H with
      | true =>
        have hL : L2 = l := by rw [HP.out, if_pos rfl]
        subst hL
        go_wp2_with fail
        refine bodyPost_ret (v := .tuple #[]) (by simp [results, Try.results74, go_sem]) rfl ?_
        exact ⟨rfl, ⟨g, v, D, HO2.out, XS2.out, HM2.out, HSK.out, HLE.out⟩, B2.out.mono HBW.out, Ksb.of B2.out⟩
      | false =>
        have hL : L2 = l ++ [y] := by rw [HP.out, if_neg (by simp)]
        have HL := kide hL
        clear hL HP
        go_wp2_with fail
        refine wp_region_x (SA := fun uu => uu.cell? ⟨s, 1, none⟩ = some (Value.map (some g)) ∧ uu.cell? ⟨kb, 0, none⟩ = some (Value.int .i64 xv) ∧ uu.cell? ⟨kb, 1, none⟩ = some (Value.int .i64 xlo) ∧ uu.cell? ⟨kb, 2, none⟩ = some (Value.int .i64 xbw) ∧ uu.cell? ⟨kb, 3, none⟩ = some (Value.string T)) (SB := fun _ => True) (k := 6) (by kernel_rfl) ?_
        have hbd : Below u2.heap.size u2 u2.drew := (Below.refl _ _).drew
        have XS_0 := kide (Bz.later XS2.out hbd)
        have XK_0 := kide (Bz.later XK2.out hbd)
        have XB_0 := kide (Bz.later XB2.out hbd)
        have HM_0 := kide (own_below HM2.out (fun hg => hbd.block g hg))
        have HO_0 := kide (HO2.out.later hbd)
        have B_0 := kide (B2.out.trans (hbd.mono B2.out.size))
        clear hbd s0 s1 k0 k1 k2 k3
        generalize u2.drew = p0 at *
        have c0_0 : p0.cell? ⟨s, 1, none⟩ = some (Value.map (some g)) := XS_0.out.cell 1
        have c1_0 : p0.cell? ⟨kb, 0, none⟩ = some (Value.int .i64 xv) := XK_0.out.cell 0
        have c2_0 : p0.cell? ⟨kb, 1, none⟩ = some (Value.int .i64 xlo) := XK_0.out.cell 1
        have c3_0 : p0.cell? ⟨kb, 2, none⟩ = some (Value.int .i64 xbw) := XK_0.out.cell 2
        have c4_0 : p0.cell? ⟨kb, 3, none⟩ = some (Value.string T) := XK_0.out.cell 3
        have hs0 : Hid ((fun uu => uu.cell? ⟨s, 1, none⟩ = some (Value.map (some g)) ∧ uu.cell? ⟨kb, 0, none⟩ = some (Value.int .i64 xv) ∧ uu.cell? ⟨kb, 1, none⟩ = some (Value.int .i64 xlo) ∧ uu.cell? ⟨kb, 2, none⟩ = some (Value.int .i64 xbw) ∧ uu.cell? ⟨kb, 3, none⟩ = some (Value.string T)) p0) := ⟨c0_0, c1_0, c2_0, c3_0, c4_0⟩
        try go_simp
        refine wpAnyX_both (T := fun _ => True) (i := 0) (v := Value.pointer (some ⟨s, 0, none⟩)) rfl (by kernel_rfl) (by kernel_rfl) (by kernel_rfl) (fun _ _ _ h => by first | exact h | exact h.elim) (by decide) (fun _ _ => trivial) (fun _ _ => trivial) (Sx.before (by kernel_rfl) hs0.out) (Or.inl ⟨by rfl, fun uu hu => by go_simp⟩) ?_
        try go_simp
        refine wpAnyX_both (T := fun _ => True) (i := 1) (v := Value.pointer (some ⟨s, 0, none⟩)) rfl (by kernel_rfl) (by kernel_rfl) (by kernel_rfl) (fun _ _ _ h => by first | exact h | exact h.elim) (by decide) (fun _ _ => trivial) (fun _ _ => trivial) (Sx.before (by kernel_rfl) hs0.out) (Or.inl ⟨by rfl, fun uu hu => by go_simp⟩) ?_
        try go_simp
        refine wpAnyX_both (T := fun _ => True) (i := 2) (v := Value.pointer (some ⟨s, 1, none⟩)) rfl (by kernel_rfl) (by kernel_rfl) (by kernel_rfl) (fun _ _ _ h => by first | exact h | exact h.elim) (by decide) (fun _ _ => trivial) (fun _ _ => trivial) (Sx.before (by kernel_rfl) hs0.out) (Or.inl ⟨by rfl, fun uu hu => by go_simp⟩) ?_
        try go_simp
        refine wpAnyX_take (i := 3) (v := Value.map (some g)) rfl (by kernel_rfl) (by kernel_rfl) (by kernel_rfl) (fun _ _ _ h => by first | exact h | exact h.elim) (by decide) (by kernel_rfl) (by kernel_rfl) hs0.out (Or.inl ⟨by rfl, fun uu hu => by obtain ⟨e0, e1, e2, e3, e4⟩ := hu; go_simp⟩) ?_
        try go_simp
        refine wpAnyX_take (i := 4) (v := Value.agg #[Value.int .i64 xv, Value.int .i64 xlo, Value.int .i64 xbw, Value.string T]) rfl (by kernel_rfl) (by kernel_rfl) (by kernel_rfl) (fun _ _ _ h => by first | exact h | exact h.elim) (by decide) (by kernel_rfl) (by kernel_rfl) hs0.out (Or.inl ⟨by rfl, fun uu hu => by obtain ⟨e0, e1, e2, e3, e4⟩ := hu; go_simp⟩) ?_
        try go_simp
        refine wpAnyX_both (T := fun _ => True) (i := 5) (v := Value.agg #[]) rfl (by kernel_rfl) (by kernel_rfl) (by kernel_rfl) (fun _ _ _ h => by first | exact h | exact h.elim) (by decide) (fun _ _ => trivial) (fun _ _ => trivial) (Sx.before (by kernel_rfl) hs0.out) (Or.inl ⟨by rfl, fun uu hu => by go_simp⟩) ?_
        try go_simp
        refine wpAnyX_ready (rs := [6]) (by kernel_rfl) (by simp) (AllX.cons rfl (fun K hK => ?_) AllX.nil)
        refine step_mapB _ rfl _ _ _ rfl g l.length D (by first | rfl | simp [Act.eval]) HM_0.out (by unfold maxLen; omega) _ kl (by first | rfl | simp [Act.eval]) (by first | rfl | simp [Act.eval]) HKL.out ?_
        intro p1 hm1 ht1
        have HM_1 := kide hm1
        have HT_1 := kide ht1
        clear hm1 ht1
        refine hK _ _ (Sx.behind (by kernel_rfl) trivial) ?_
        clear hK K
        try go_simp
        refine wpAnyX_done (by kernel_rfl) ?_ _
        have XS_1 : Hid (Bz p1 s #[v, .map (some g)] 116) := Bz.ksb' (Ksb.turned HT_1.out) XS_0.out HT_1.out
        have XB_1 : Hid (Bz p1 b0 #[Value.int .i64 xv, Value.int .i64 xlo, Value.int .i64 xbw, Value.slice xa xn xc] 86) := Bz.ksb' (Ksb.turned HT_1.out) XB_0.out HT_1.out
        have HO_1 : Hid (OB4 p1 B v l) := HO_0.out.move (fun b hb => by obtain ⟨cur, hc⟩ := HO_0.out.typed hb; exact turned_cells HT_1.out hc)
        have BB_1 : Hid (Below B w p1) := Below.grown (B_0.out.mono HBW.out) HT_1.out.grown (Nat.le_trans HBW.out B_0.out.size) (fun j hj => by cases hj; exact HLE.out.2)
        have KK_1 := kide ((Ksb.of B_0.out).trans (Ksb.turned HT_1.out))
        clear HT_1 XS_0 XK_0 XB_0 HM_0 HO_0 B_0
        go_wp2_with fail
        refine wp_region_x (SA := fun uu => uu.cell? ⟨s, 0, none⟩ = some (v) ∧ uu.cell? ⟨b0, 0, none⟩ = some (Value.int .i64 xv) ∧ uu.cell? ⟨b0, 1, none⟩ = some (Value.int .i64 xlo) ∧ uu.cell? ⟨b0, 2, none⟩ = some (Value.int .i64 xbw) ∧ uu.cell? ⟨b0, 3, none⟩ = some (Value.slice xa xn xc)) (SB := fun _ => True) (k := 10) (by kernel_rfl) ?_
        have hbd : Below p1.heap.size p1 p1.drew := (Below.refl _ _).drew
        have XS0 := kide (Bz.later XS_1.out hbd)
        have XB0 := kide (Bz.later XB_1.out hbd)
        have MM0 := kide (own_below HM_1.out (fun hg => hbd.block g hg))
        have OO0 := kide (HO_1.out.later hbd)
        have BB0 := kide (BB_1.out.trans (hbd.mono (Nat.le_trans HBW.out BB_1.out.size)))
        have KK0 := kide (KK_1.out.trans (Ksb.of hbd))
        clear hbd XS_1 XB_1 HM_1 HO_1 BB_1 KK_1
        generalize p1.drew = q0 at *
        have c0_0 : q0.cell? ⟨s, 0, none⟩ = some (v) := XS0.out.cell 0
        have c1_0 : q0.cell? ⟨b0, 0, none⟩ = some (Value.int .i64 xv) := XB0.out.cell 0
        have c2_0 : q0.cell? ⟨b0, 1, none⟩ = some (Value.int .i64 xlo) := XB0.out.cell 1
        have c3_0 : q0.cell? ⟨b0, 2, none⟩ = some (Value.int .i64 xbw) := XB0.out.cell 2
        have c4_0 : q0.cell? ⟨b0, 3, none⟩ = some (Value.slice xa xn xc) := XB0.out.cell 3
        have hs0 : Hid ((fun uu => uu.cell? ⟨s, 0, none⟩ = some (v) ∧ uu.cell? ⟨b0, 0, none⟩ = some (Value.int .i64 xv) ∧ uu.cell? ⟨b0, 1, none⟩ = some (Value.int .i64 xlo) ∧ uu.cell? ⟨b0, 2, none⟩ = some (Value.int .i64 xbw) ∧ uu.cell? ⟨b0, 3, none⟩ = some (Value.slice xa xn xc)) q0) := ⟨c0_0, c1_0, c2_0, c3_0, c4_0⟩
        try go_simp
        refine wpAnyX_both (T := fun _ => True) (i := 0) (v := Value.pointer (some ⟨s, 0, none⟩)) rfl (by kernel_rfl) (by kernel_rfl) (by kernel_rfl) (fun _ _ _ h => by first | exact h | exact h.elim) (by decide) (fun _ _ => trivial) (fun _ _ => trivial) (Sx.before (by kernel_rfl) hs0.out) (Or.inl ⟨by rfl, fun uu hu => by go_simp⟩) ?_
        try go_simp
        refine wpAnyX_both (T := fun _ => True) (i := 1) (v := Value.pointer (some ⟨s, 0, none⟩)) rfl (by kernel_rfl) (by kernel_rfl) (by kernel_rfl) (fun _ _ _ h => by first | exact h | exact h.elim) (by decide) (fun _ _ => trivial) (fun _ _ => trivial) (Sx.before (by kernel_rfl) hs0.out) (Or.inl ⟨by rfl, fun uu hu => by go_simp⟩) ?_
        try go_simp
        refine wpAnyX_both (T := fun _ => True) (i := 2) (v := Value.pointer (some ⟨s, 0, none⟩)) rfl (by kernel_rfl) (by kernel_rfl) (by kernel_rfl) (fun _ _ _ h => by first | exact h | exact h.elim) (by decide) (fun _ _ => trivial) (fun _ _ => trivial) (Sx.before (by kernel_rfl) hs0.out) (Or.inl ⟨by rfl, fun uu hu => by go_simp⟩) ?_
        try go_simp
        refine wpAnyX_both (T := fun _ => True) (i := 3) (v := Value.pointer (some ⟨s, 0, none⟩)) rfl (by kernel_rfl) (by kernel_rfl) (by kernel_rfl) (fun _ _ _ h => by first | exact h | exact h.elim) (by decide) (fun _ _ => trivial) (fun _ _ => trivial) (Sx.before (by kernel_rfl) hs0.out) (Or.inl ⟨by rfl, fun uu hu => by go_simp⟩) ?_
        try go_simp
        refine wpAnyX_take (i := 4) (v := v) rfl (by kernel_rfl) (by kernel_rfl) (by kernel_rfl) (fun _ _ _ h => by first | exact h | exact h.elim) (by decide) (by kernel_rfl) (by kernel_rfl) hs0.out (Or.inl ⟨by rfl, fun uu hu => by obtain ⟨e0, e1, e2, e3, e4⟩ := hu; go_simp⟩) ?_
        try go_simp
        refine wpAnyX_take (i := 5) (v := Value.agg #[Value.int .i64 xv, Value.int .i64 xlo, Value.int .i64 xbw, Value.slice xa xn xc]) rfl (by kernel_rfl) (by kernel_rfl) (by kernel_rfl) (fun _ _ _ h => by first | exact h | exact h.elim) (by decide) (by kernel_rfl) (by kernel_rfl) hs0.out (Or.inl ⟨by rfl, fun uu hu => by obtain ⟨e0, e1, e2, e3, e4⟩ := hu; go_simp⟩) ?_
        try go_simp
        refine wpAnyX_ready (rs := [6]) (by kernel_rfl) (by simp) (AllX.cons rfl (fun K hK => ?_) AllX.nil)
        go_simp
        have hbx : Below q0.heap.size q0 (q0.alloc (Obj.cells #[Value.int .i64 xv, Value.int .i64 xlo, Value.int .i64 xbw, Value.slice xa xn xc] 86)) := (Below.refl _ _).alloc (Nat.le_refl _) _
        have XN1 := kide (Bz.new q0 #[Value.int .i64 xv, Value.int .i64 xlo, Value.int .i64 xbw, Value.slice xa xn xc] 86)
        have XS1 := kide (XS0.out.later hbx)
        have XB1 := kide (XB0.out.later hbx)
        have OO1 := kide (OO0.out.later hbx)
        have MM1 := kide (own_below MM0.out (fun hg => hbx.block g hg))
        have BB1 : Hid (Below B w (q0.alloc (Obj.cells #[Value.int .i64 xv, Value.int .i64 xlo, Value.int .i64 xbw, Value.slice xa xn xc] 86))) := BB0.out.alloc (Nat.le_trans HBW.out BB0.out.size) _
        have KK1 := kide (KK0.out.trans (Ksb.of hbx))
        obtain ⟨gn, hgn⟩ : ∃ x, q0.heap.size = x := ⟨_, rfl⟩
        rw [hgn] at XN1
        simp only [hgn]
        clear hbx hgn
        generalize q0.alloc (Obj.cells #[Value.int .i64 xv, Value.int .i64 xlo, Value.int .i64 xbw, Value.slice xa xn xc] 86) = q1 at *
        have c0_1 : q1.cell? ⟨s, 0, none⟩ = some (v) := XS1.out.cell 0
        have c1_1 : q1.cell? ⟨b0, 0, none⟩ = some (Value.int .i64 xv) := XB1.out.cell 0
        have c2_1 : q1.cell? ⟨b0, 1, none⟩ = some (Value.int .i64 xlo) := XB1.out.cell 1
        have c3_1 : q1.cell? ⟨b0, 2, none⟩ = some (Value.int .i64 xbw) := XB1.out.cell 2
        have c4_1 : q1.cell? ⟨b0, 3, none⟩ = some (Value.slice xa xn xc) := XB1.out.cell 3
        have hs1 : Hid ((fun uu => uu.cell? ⟨s, 0, none⟩ = some (v) ∧ uu.cell? ⟨b0, 0, none⟩ = some (Value.int .i64 xv) ∧ uu.cell? ⟨b0, 1, none⟩ = some (Value.int .i64 xlo) ∧ uu.cell? ⟨b0, 2, none⟩ = some (Value.int .i64 xbw) ∧ uu.cell? ⟨b0, 3, none⟩ = some (Value.slice xa xn xc)) q1) := ⟨c0_1, c1_1, c2_1, c3_1, c4_1⟩
        refine hK _ _ (Sx.before (by kernel_rfl) hs1.out) ?_
        clear hK K
        try go_simp
        refine wpAnyX_ready (rs := [7]) (by kernel_rfl) (by simp) (AllX.cons rfl (fun K hK => ?_) AllX.nil)
        refine step_appB4 _ rfl _ _ rfl B v l y (by first | rfl | simp [Act.eval]) OO1.out gn 1 (by first | rfl | simp [Act.eval]) ((XN1.out.cell 0).trans (by rw [← y1.out]; rfl)) ((XN1.out.cell 1).trans (by rw [← y2.out]; rfl)) ((XN1.out.cell 2).trans (by rw [← y3.out]; rfl)) ((XN1.out.cell 3).trans (by rw [← y4.out]; rfl)) (by omega) (Nat.le_trans HBW.out BB1.out.size) ?_
        intro g7 c7 q2 ho hg
        have OO2 := kide ho
        have XS2 : Hid (Bz q2 s #[v, .map (some g)] 116) := (hg.block s XS1.out.lt (fun e => nsv XS1.out OO1.out e)).trans XS1.out
        have XB2 : Hid (Bz q2 b0 #[Value.int .i64 xv, Value.int .i64 xlo, Value.int .i64 xbw, Value.slice xa xn xc] 86) := (hg.block b0 XB1.out.lt (fun e => by have := (HO.out.lt e.symm).2; have := HB0.out; omega)).trans XB1.out
        have MM2 := kide (own_below MM1.out (fun hl => hg.block g hl (fun e => nmv MM1.out OO1.out e)))
        have BB2 : Hid (Below B w q2) := Below.grown BB1.out hg (Nat.le_trans HBW.out BB1.out.size) (fun j hj => (OO1.out.lt hj).1)
        have KK2 := kide (KK1.out.trans (Ksb.grown hg (fun b hb => OO1.out.typed hb)))
        clear ho hg
        have c0_2 : q2.cell? ⟨s, 0, none⟩ = some (v) := XS2.out.cell 0
        have c1_2 : q2.cell? ⟨b0, 0, none⟩ = some (Value.int .i64 xv) := XB2.out.cell 0
        have c2_2 : q2.cell? ⟨b0, 1, none⟩ = some (Value.int .i64 xlo) := XB2.out.cell 1
        have c3_2 : q2.cell? ⟨b0, 2, none⟩ = some (Value.int .i64 xbw) := XB2.out.cell 2
        have c4_2 : q2.cell? ⟨b0, 3, none⟩ = some (Value.slice xa xn xc) := XB2.out.cell 3
        have hs2 : Hid ((fun uu => uu.cell? ⟨s, 0, none⟩ = some (v) ∧ uu.cell? ⟨b0, 0, none⟩ = some (Value.int .i64 xv) ∧ uu.cell? ⟨b0, 1, none⟩ = some (Value.int .i64 xlo) ∧ uu.cell? ⟨b0, 2, none⟩ = some (Value.int .i64 xbw) ∧ uu.cell? ⟨b0, 3, none⟩ = some (Value.slice xa xn xc)) q2) := ⟨c0_2, c1_2, c2_2, c3_2, c4_2⟩
        refine hK _ _ (Sx.before (by kernel_rfl) hs2.out) ?_
        clear hK K
        try go_simp
        refine wpAnyX_both (T := fun _ => True) (i := 8) (v := Value.pointer (some ⟨s, 0, none⟩)) rfl (by kernel_rfl) (by kernel_rfl) (by kernel_rfl) (fun _ _ _ h => by first | exact h | exact h.elim) (by decide) (fun _ _ => trivial) (fun _ _ => trivial) (Sx.before (by kernel_rfl) hs2.out) (Or.inl ⟨by rfl, fun uu hu => by go_simp⟩) ?_
        try go_simp
        refine wpAnyX_both (T := fun _ => True) (i := 9) (v := Value.pointer (some ⟨s, 0, none⟩)) rfl (by kernel_rfl) (by kernel_rfl) (by kernel_rfl) (fun _ _ _ h => by first | exact h | exact h.elim) (by decide) (fun _ _ => trivial) (fun _ _ => trivial) (Sx.before (by kernel_rfl) hs2.out) (Or.inl ⟨by rfl, fun uu hu => by go_simp⟩) ?_
        try go_simp
        refine wpAnyX_ready (rs := [10]) (by kernel_rfl) (by simp) (AllX.cons rfl (fun K hK => ?_) AllX.nil)
        have e0 : q2.cell? ⟨s, 0, none⟩ = some v := XS2.out.cell 0
        have f0 := XS2.out.froz 0
        go_simp
        have XS3 : Hid (Bz (q2.setCell ⟨s, 0, none⟩ (Value.slice (some ⟨g7, 0, none⟩) (l.length + 1) c7)) s #[Value.slice (some ⟨g7, 0, none⟩) (l.length + 1) c7, .map (some g)] 116) := XS2.out.set 0 _
        have OO3 : Hid (OB4 (q2.setCell ⟨s, 0, none⟩ (Value.slice (some ⟨g7, 0, none⟩) (l.length + 1) c7)) B (Value.slice (some ⟨g7, 0, none⟩) (l.length + 1) c7) (l ++ [y])) := OO2.out.move (fun b hb => heap_setCell_other _ _ _ _ (fun e => by simp at e; subst e; exact nsv XS2.out OO2.out hb.symm))
        have MM3 : Hid (World.ownsMap (q2.setCell ⟨s, 0, none⟩ (Value.slice (some ⟨g7, 0, none⟩) (l.length + 1) c7)) Try.prog 132 unitElem g (l.length + 1) (D.put kl (.agg []))) := own_below MM2.out (fun hl => heap_setCell_other _ _ _ _ (fun e => by simp at e; subst e; obtain ⟨es, ck, hm⟩ := own_isMap MM2.out; have := XS2.out; unfold Bz at this; rw [hm] at this; cases this))
        have BB3 : Hid (Below B w (q2.setCell ⟨s, 0, none⟩ (Value.slice (some ⟨g7, 0, none⟩) (l.length + 1) c7))) := BB2.out.setCell HLE.out.1 _
        have KK3 := kide (KK2.out.trans (Ksb.set XS2.out 0 (Value.slice (some ⟨g7, 0, none⟩) (l.length + 1) c7)))
        clear e0 f0
        generalize q2.setCell ⟨s, 0, none⟩ (Value.slice (some ⟨g7, 0, none⟩) (l.length + 1) c7) = q3 at *
        refine hK _ _ (Sx.behind (by kernel_rfl) trivial) ?_
        clear hK K
        try go_simp
        refine wpAnyX_done (by kernel_rfl) ?_ _
        go_wp2_with fail
        go_end0
        exact ⟨rfl, ⟨g, _, _, by rw [HL.out]; exact OO3.out, XS3.out, by rw [HL.out, List.length_append]; exact MM3.out, by rw [HL.out, ← y5.out]; exact HSKS.out, HLE.out⟩, BB3.out, KK3.out⟩

end Go.Proofs.Ythoiajpbpoglfaa
