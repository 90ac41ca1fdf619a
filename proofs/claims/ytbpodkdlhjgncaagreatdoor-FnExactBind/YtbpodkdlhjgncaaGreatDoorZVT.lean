/- Several texts in one. -/
import Derived.Test.YtbpodkdlhjgncaaGreatDoorZVK
import Derived.Test.YtbpodkdlhjgncaaGreatDoorZVS

/- Rows of bindings compared, copied into rows that may be written to. -/
namespace Go.Proofs.YtbpodkdlhjgncaaGreatDoor
set_option linter.unusedVariables false
set_option linter.unusedSimpArgs false
open Go.RowKit

theorem rowIs_outV {w w' : World} {g N B1 B2 : Nat} {t : TypeId} {f : Nat → Value} (h : w.rowIs g t N f) (ho : Out B1 B2 w w') (hd : g < B1 ∨ B2 ≤ g) : w'.rowIs g t N f := by
  obtain ⟨cc, hh, r⟩ := h
  exact World.rowIs.of_block ⟨cc, hh, r⟩ (ho.2.2.2.2 g (lt_of_block hh) hd)
theorem rowIs_ltV {w : World} {g N : Nat} {t : TypeId} {f : Nat → Value} (h : w.rowIs g t N f) : g < w.heap.size := by
  obtain ⟨cc, hh, -⟩ := h
  exact lt_of_block hh
theorem kfrozV {W w1 : World} (hb : Below W.heap.size W w1) (b o : Nat) (h : b < W.heap.size) : w1.frozen? ⟨b, o, none⟩ = W.frozen? ⟨b, o, none⟩ := hb.frozen (p := ⟨b, o, none⟩) h

theorem eqBinding_same (v : Int) (ta tb : Option Addr) (tc td m : Nat) (zs us : List Tg) (w : World) (h3 : RdT w ta zs) (h4 : RdT w tb us) (e2 : zs.map Tg.ct = us.map Tg.ct) (l3 : zs.length = m) (l4 : us.length = m) :
    Calls Tryz.prog 38 #[.agg #[.int .i64 v, .slice ta m tc], .agg #[.int .i64 v, .slice tb m td]] w fun e w' => e = .returned (.bool true) ∧ Below w.heap.size w w' := by
  have hb0 : Below w.heap.size w ((w.alloc (Obj.cells #[Value.int .i64 v, Value.slice ta m tc] 62)).alloc (Obj.cells #[Value.int .i64 v, Value.slice tb m td] 62)) := ((Below.refl _ _).alloc (Nat.le_refl _) _).alloc (by simp) _
  have HB := kide (fun u (hu : Below w.heap.size w u) => eqTerm_same ta tb tc td zs us u (h3.later hu) (h4.later hu) e2 m l3 l4)
  have B2 := kide hb0
  have f0 : (v != v) = false := by simp
  clear h3 h4 e2 l3 l4 hb0
  go_enter Tryz.func38, Tryz.ntmps38
  go_wp2_with fail
  refine Calls.mono (HB.out _ B2.out) ?_
  rintro e w2 ⟨rfl, hb2⟩
  go_wp2_with fail
  go_ret
  exact ⟨rfl, B2.out.trans (hb2.mono B2.out.size)⟩

set_option maxHeartbeats 1000000 in
theorem eqBindingS_same (a b : Option Addr) (c d : Nat) (xs ys : List Vg) (w : World) (hr : RdV w a xs) (hs : RdV w b ys) (he : xs.map Vg.ct = ys.map Vg.ct) (n : Nat) (h1 : xs.length = n) (h2 : ys.length = n) :
    Calls Tryz.prog 14 #[.slice a n c, .slice b n d] w fun e w' => e = .returned (.bool true) ∧ Below w.heap.size w w' := by
  have hl1 := hr.1
  rw [h1] at hl1
  have hne : ((n : Int) != (n : Int)) = false := by simp
  have H1 := kide h1
  have H2 := kide h2
  have HE := kide he
  clear h1 h2 he
  go_enter Tryz.func14, Tryz.ntmps14
  go_wp2_with fail
  clear hne
  go_loopw [5] (fun i wr => ∃ k : Nat, k ≤ n ∧ i = .int .i64 k ∧ Below w.heap.size w wr) (fun i _ => n - (intOf i).toNat)
  case atStart => exact ⟨0, Nat.zero_le _, rfl, Below.refl _ _⟩
  case round =>
    obtain ⟨k, hk, rfl, hbel⟩ := hrel
    have HB := kide hbel
    by_cases hlt : k < n
    · obtain ⟨-, h | ⟨b1, o1, rfl, hc1⟩⟩ := hr
      · have := H1.out; subst h; simp at this; omega
      obtain ⟨-, h | ⟨b2, o2, rfl, hc2⟩⟩ := hs
      · have := H2.out; subst h; simp at this; omega
      obtain ⟨⟨v, ts1, ta1, tc1⟩, hx⟩ : ∃ x, xs[k]? = some x := ⟨xs[k]'(by rw [H1.out]; exact hlt), List.getElem?_eq_getElem _⟩
      obtain ⟨⟨v2, ts2, ta2, tc2⟩, hy⟩ : ∃ y, ys[k]? = some y := ⟨ys[k]'(by rw [H2.out]; exact hlt), List.getElem?_eq_getElem _⟩
      have hxy : Vg.ct ⟨v, ts1, ta1, tc1⟩ = Vg.ct ⟨v2, ts2, ta2, tc2⟩ := by
        have h := congrArg (fun l => l[k]?) HE.out
        simp [hx, hy] at h
        exact h
      simp only [Vg.ct, Vc.mk.injEq] at hxy
      obtain ⟨rfl, hts⟩ := hxy
      have htl : ts2.length = ts1.length := by simpa using (congrArg List.length hts).symm
      obtain ⟨⟨p0, p1⟩, pr2, -⟩ := (hc1 k _ hx).later hbel
      obtain ⟨⟨q0, q1⟩, qr2, -⟩ := (hc2 k _ hy).later hbel
      simp only [] at p0 p1 pr2 q0 q1 qr2
      rw [htl] at q1
      have l1 := block_lt_of_cell p0
      have l2 := block_lt_of_cell q0
      have i0 : (k : Int) < (n : Int) := by omega
      have HEQ := kide (fun u (hu : Below wr.heap.size wr u) => eqBinding_same v ta1 ta2 tc1 tc2 ts1.length ts1 ts2 u (pr2.later hu) (qr2.later hu) hts rfl htl)
      clear hc1 hc2 hbel hx hy pr2 qr2 hts htl
      generalize ts1.length = m2 at *
      go_wp2_with fail
      go_region_held3 (fun u => u.cell? ⟨b1, o1 + k * 2, none⟩ = some (Value.int .i64 v) ∧ u.cell? ⟨b1, o1 + k * 2 + 1, none⟩ = some (Value.slice ta1 m2 tc1) ∧ u.cell? ⟨b2, o2 + k * 2, none⟩ = some (Value.int .i64 v) ∧ u.cell? ⟨b2, o2 + k * 2 + 1, none⟩ = some (Value.slice ta2 m2 tc2)) (simp [*])
        ((go_at_call 38; refine Calls.mono (HEQ.out _ ?_) ?_; exact (Below.refl _ _).drew; rintro e w1 ⟨rfl, hb1⟩; replace hb1 := kundrew hb1; have k0 := kcell hb1 b1 (o1 + k * 2) l1; have k1 := kcell hb1 b1 (o1 + k * 2 + 1) l1; have j0 := kcell hb1 b2 (o2 + k * 2) l2; have j1 := kcell hb1 b2 (o2 + k * 2 + 1) l2))
      go_wp2_with fail
      go_roundw
      case rel => exact ⟨k + 1, by omega, by go_num, HB.out.trans (hb1.mono HB.out.size)⟩
      case measure => simp [intOf]; omega
    · clear hbel
      go_wp2_with fail
      go_ret
      exact ⟨rfl, HB.out⟩

theorem Tryz.infoBnd : (Tryz.prog.info? 62).map (fun i => (i.zero, i.size, i.bytes)) = some (some (.agg #[.int .i64 0, .slice none 0 0]), 2, 32) := by kernel_rfl
theorem make_binds (n : Nat) (hn : n ≤ 1048576) (kl kc : IntKind) (w : World) :
    (Instr.makeSlice 33 (.int kl (n : Int)) (.int kc (n : Int))).run Tryz.prog w = .ok (.slice (some ⟨w.heap.size, 0, none⟩) n n) (w.alloc (.cells (madeCells #[.int .i64 0, .slice none 0 0] (n * 2)) 62)) := by
  obtain ⟨i0, hi, hz0, hz1, hz2⟩ := info_parts Tryz.infoBnd
  have := run_make (P := Tryz.prog) w 33 62 i0 _ Tryz.underlying33 hi hz0 kl kc n n (by omega) (Int.le_refl _) (by rw [hz2]; omega) (by omega)
  rw [hz1] at this
  simp only [Int.toNat_natCast] at this
  exact this

/-- A term that may be written to: all of it lies between two blocks. -/
def WrTm (w : World) (B1 B2 : Nat) (a : Option Addr) (xs : List Tg) : Prop := ∃ g f, a = some ⟨g, 0, none⟩ ∧ B1 ≤ g ∧ g < B2 ∧ w.rowIs g 89 (xs.length * 7) f ∧ TnF f xs ∧ ∀ x ∈ xs, WrT w B1 B2 x ∧ x.ct.ws.length ≤ 1048576 ∧ x.ct.ks.length ≤ 1048576

theorem WrTm.out {w w' : World} {B1 B2 C1 C2 : Nat} {a : Option Addr} {xs : List Tg} (h : WrTm w B1 B2 a xs) (ho : Out C1 C2 w w') (hd : C2 ≤ B1 ∨ B2 ≤ C1) : WrTm w' B1 B2 a xs := by
  obtain ⟨g, f, e, h1, h2, h3, h4, h5⟩ := h
  exact ⟨g, f, e, h1, h2, rowIs_outV h3 ho (by omega), h4, fun x hx => ⟨(h5 x hx).1.out ho hd, (h5 x hx).2⟩⟩

theorem WrTm.later {w w' : World} {B1 B2 : Nat} {a : Option Addr} {xs : List Tg} (h : WrTm w B1 B2 a xs) (hb : Below w.heap.size w w') : WrTm w' B1 B2 a xs := h.out (Out.ofB (B1 := B2) (B2 := B2) hb) (.inr (Nat.le_refl _))

theorem WrTm.set {w : World} {B1 B2 b : Nat} {a : Option Addr} {xs : List Tg} (h : WrTm w B1 B2 a xs) (hd : b < B1 ∨ B2 ≤ b) (o : Nat) (v : Value) : WrTm (w.setCell ⟨b, o, none⟩ v) B1 B2 a xs := h.out (Out.grown (B1 := b) (B2 := b + 1) (grow_set (World.grownBy.refl w (some b)) o v) (Nat.le_refl _) (Nat.lt_succ_self _)) (by omega)

theorem WrTm.setp {w : World} {B1 B2 : Nat} {p : Addr} {a : Option Addr} {xs : List Tg} (h : WrTm w B1 B2 a xs) (hd : p.block < B1 ∨ B2 ≤ p.block) (v : Value) : WrTm (w.setCell p v) B1 B2 a xs :=
  h.out (C1 := p.block) (C2 := p.block + 1) ⟨rfl, rfl, rfl, by simp, fun k hk hne => heap_setCell_other w p k v (fun e => by omega)⟩ (by omega)

theorem WrTm.mono {w : World} {B B1 B2 : Nat} {a : Option Addr} {xs : List Tg} (h : WrTm w B1 B2 a xs) (hB : B ≤ B1) : WrTm w B B2 a xs := by
  obtain ⟨g, f, e, h1, h2, h3, h4, h5⟩ := h
  refine ⟨g, f, e, by omega, h2, h3, h4, fun x hx => ⟨?_, (h5 x hx).2⟩⟩
  obtain ⟨⟨g1, z1, a1, a2, a3, a4⟩, g2, z2, b1, b2, b3, b4⟩ := (h5 x hx).1
  exact ⟨⟨g1, z1, a1, by omega, a3, a4⟩, g2, z2, b1, by omega, b3, b4⟩

theorem toTerm_wm (a : Option Addr) (c : Nat) (xs : List Tg) (w : World) (hr : RdT w a xs) (n : Nat) (hn : xs.length = n) :
    Calls Tryz.prog 50 #[.agg #[.slice a n c]] w fun e w' => ∃ (g : Nat) (ms : List Tg), e = .returned (.agg #[.slice (some ⟨g, 0, none⟩) n n]) ∧ ms.map Tg.ct = xs.map Tg.ct ∧ RdT w' (some ⟨g, 0, none⟩) ms ∧ FarT w.heap.size (some ⟨g, 0, none⟩) ms ∧ WrTm w' w.heap.size w'.heap.size (some ⟨g, 0, none⟩) ms ∧ Below w.heap.size w w' := by
  refine Calls.mono (toTerm_own a c xs w hr n hn) ?_
  rintro e w' ⟨g, ms, h1, h2, h3, h4, h5, ⟨f, h6, h7⟩, h8⟩
  refine ⟨g, ms, h1, h2, h3, h4, ⟨g, f, rfl, h5, rowIs_ltV h6, by rw [len_of_tc h2 hn]; exact h6, TgOwn.tnf h7, fun x hx => ?_⟩, h8⟩
  obtain ⟨i, hi, e⟩ := List.mem_iff_getElem.1 hx
  have hi' : ms[i]? = some x := by rw [List.getElem?_eq_getElem hi, e]
  refine ⟨(h7 i x hi').wr h5, ?_⟩
  obtain ⟨-, h | ⟨b, o, -, hc⟩⟩ := h3
  · subst h; simp at hx
  · obtain ⟨-, r1, r2, -⟩ := hc i x hi'
    exact ⟨r1.1, r2.1⟩

set_option maxHeartbeats 1000000 in
theorem toBinding_own (z : Vg) (w : World) (h2 : RdT w z.ta z.ts) :
    Calls Tryz.prog 27 #[z.val] w fun e w' => ∃ (y : Vg) (H : Nat), e = .returned y.val ∧ y.ct = z.ct ∧ RdT w' y.ta y.ts ∧ FarT w.heap.size y.ta y.ts ∧ Below w.heap.size w w' ∧ (w.heap.size ≤ H ∧ H ≤ w'.heap.size) ∧ WrTm w' w.heap.size H y.ta y.ts := by
  obtain ⟨v, ts, ta, tc⟩ := z
  simp only [Vg.val, Vg.ct] at h2 ⊢
  have H2 := kide (fun u (hu : Below w.heap.size w u) => toTerm_wm ta tc ts u (h2.later hu) _ rfl)
  clear h2
  have h3 : Below w.heap.size w (((w.alloc (Obj.cells #[Value.int .i64 v, Value.slice ta ts.length tc] 51)).alloc (Obj.cells #[Value.int .i64 0, Value.slice none 0 0] 62)).alloc (Obj.cells #[Value.int .i64 v, Value.slice none 0 0] 62)) := (((Below.refl _ _).alloc (Nat.le_refl _) _).alloc (by simp) _).alloc (by simp; omega) _
  have B0 := kide h3
  clear h3
  go_enter Tryz.func27, Tryz.ntmps27
  go_wp2_with fail
  refine Calls.mono (H2.out _ B0.out) ?_
  rintro e w1 ⟨g1, m1, rfl, hm1, r1, f1, t1, hb1⟩
  have hz1 : w.heap.size + 3 ≤ w1.heap.size := by have := hb1.size; simp at this; omega
  have F1 : Hid (FarT (w.heap.size + 3) (some ⟨g1, 0, none⟩) m1) := by have h := f1; simp at h; exact h
  have T1 : Hid (WrTm w1 (w.heap.size + 3) w1.heap.size (some ⟨g1, 0, none⟩) m1) := by have h := t1; simp at h; exact h
  have qa0 : w1.cell? ⟨w.heap.size + 1, 0, none⟩ = some (Value.int .i64 0) := by rw [kcell hb1 _ _ (by first | (simp; done) | (simp; omega))]; simp [go_sem]
  have qa1 : w1.cell? ⟨w.heap.size + 1, 1, none⟩ = some (Value.slice none 0 0) := by rw [kcell hb1 _ _ (by first | (simp; done) | (simp; omega))]; simp [go_sem]
  have qb0 : w1.cell? ⟨w.heap.size + 1 + 1, 0, none⟩ = some (Value.int .i64 v) := by rw [kcell hb1 _ _ (by first | (simp; done) | (simp; omega))]; simp [go_sem]
  have qb1 : w1.cell? ⟨w.heap.size + 1 + 1, 1, none⟩ = some (Value.slice none 0 0) := by rw [kcell hb1 _ _ (by first | (simp; done) | (simp; omega))]; simp [go_sem]
  have fa0 : w1.frozen? ⟨w.heap.size + 1, 0, none⟩ = false := by rw [kfrozV hb1 _ _ (by first | (simp; done) | (simp; omega))]; simp [go_sem]
  have fa1 : w1.frozen? ⟨w.heap.size + 1, 1, none⟩ = false := by rw [kfrozV hb1 _ _ (by first | (simp; done) | (simp; omega))]; simp [go_sem]
  have fb0 : w1.frozen? ⟨w.heap.size + 1 + 1, 0, none⟩ = false := by rw [kfrozV hb1 _ _ (by first | (simp; done) | (simp; omega))]; simp [go_sem]
  have fb1 : w1.frozen? ⟨w.heap.size + 1 + 1, 1, none⟩ = false := by rw [kfrozV hb1 _ _ (by first | (simp; done) | (simp; omega))]; simp [go_sem]
  have B1 := kide (B0.out.trans (hb1.mono B0.out.size))
  have R1 := kide r1
  have M1 := kide hm1
  have hl1 : m1.length = ts.length := by simpa using congrArg List.length hm1
  have HL1 := kide hl1
  have HZ1 := kide hz1
  clear hb1 r1 f1 t1 hm1 B0 H2 hl1
  go_wp2_with fail
  refine bodyPost_ret (v := .agg #[.int .i64 v, .slice (some ⟨g1, 0, none⟩) ts.length ts.length]) (by simp [results, Tryz.results27, go_sem, qa0, qa1, qb0, qb1, fa0, fa1, fb0, fb1]) rfl ?_
  refine ⟨⟨v, m1, some ⟨g1, 0, none⟩, ts.length⟩, w1.heap.size, by simp [HL1.out], by simp [M1.out], ?_, F1.out.mono (by omega), ?_, ⟨by omega, ?_⟩, ?_⟩
  · repeat (refine RdT.set ?_ F1.out (by first | (simp; done) | (simp; omega)) _)
    exact R1.out
  · repeat (refine Below.setCell ?_ (by first | (simp; done) | (simp; omega)) _)
    exact B1.out
  · simp
  · refine WrTm.mono (B1 := w.heap.size + 3) ?_ (by omega)
    repeat (with_reducible (refine WrTm.setp ?_ (.inl (by first | (simp; done) | (simp; omega))) _))
    exact T1.out

/-- A copied binding: its term lies behind the row. -/
def VgOwn (w : World) (G : Nat) (f : Nat → Value) (j : Nat) (x : Vg) : Prop := (f (j * 2) = .int .i64 x.v ∧ f (j * 2 + 1) = .slice x.ta x.ts.length x.tc) ∧ RdT w x.ta x.ts ∧ FarT (G + 1) x.ta x.ts
theorem VgOwn.later {w w' : World} {G j : Nat} {f : Nat → Value} {x : Vg} (h : VgOwn w G f j x) (hb : Below w.heap.size w w') : VgOwn w' G f j x := ⟨h.1, h.2.1.later hb, h.2.2⟩
theorem VgOwn.row {w : World} {G j k : Nat} {f f' : Nat → Value} {x : Vg} (h : VgOwn w G f j x) (hf : ∀ i, i < k * 2 → f' i = f i) (hk : j < k) : VgOwn w G f' j x := by
  obtain ⟨⟨h0, h1⟩, h4⟩ := h
  exact ⟨⟨by rw [hf _ (by omega)]; exact h0, by rw [hf _ (by omega)]; exact h1⟩, h4⟩
theorem VgOwn.set {w : World} {G j : Nat} {f : Nat → Value} {x : Vg} (h : VgOwn w G f j x) (o : Nat) (v : Value) : VgOwn (w.setCell ⟨G, o, none⟩ v) G f j x := ⟨h.1, h.2.1.set h.2.2 (by simp) v, h.2.2⟩

def VgF (f : Nat → Value) (xs : List Vg) : Prop := ∀ i x, xs[i]? = some x → (∃ k0 : Int, f (i * 2) = .int .i64 k0) ∧ f (i * 2 + 1) = .slice x.ta x.ts.length x.tc
structure RowV (w : World) (G H n : Nat) (xs : List Vg) (f : Nat → Value) (rg : Nat → Nat) : Prop where
  row : w.rowIs G 62 (n * 2) f
  cells : VgF f xs
  lo : G < rg 0
  up : ∀ i, rg i ≤ rg (i + 1)
  hi : rg n ≤ H
  wr : ∀ i x, xs[i]? = some x → WrTm w (rg i) (rg (i + 1)) x.ta x.ts
theorem RowV.out {w w' : World} {G H n C1 C2 : Nat} {xs : List Vg} {f : Nat → Value} {rg : Nat → Nat} (h : RowV w G H n xs f rg) (hn : xs.length = n) (ho : Out C1 C2 w w') (hd : C2 ≤ G ∨ H ≤ C1) : RowV w' G H n xs f rg := by
  have up : ∀ i k, rg i ≤ rg (i + k) := fun i k => by
    induction k with
    | zero => exact Nat.le_refl _
    | succ k ih => exact Nat.le_trans ih (h.up (i + k))
  have lo : ∀ i, G < rg i := fun i => Nat.lt_of_lt_of_le h.lo (by have := up 0 i; rwa [Nat.zero_add] at this)
  have hi : ∀ i, i ≤ n → rg i ≤ H := fun i hi => Nat.le_trans (by have := up i (n - i); rwa [show i + (n - i) = n by omega] at this) h.hi
  refine ⟨rowIs_outV h.row ho (by have := lo n; have := h.hi; omega), h.cells, h.lo, h.up, h.hi, fun i x hx => (h.wr i x hx).out ho ?_⟩
  have hi1 := (List.getElem?_eq_some_iff.1 hx).1
  have := lo i
  have := hi (i + 1) (by omega)
  omega

theorem RowV.later {w w' : World} {G H n : Nat} {xs : List Vg} {f : Nat → Value} {rg : Nat → Nat} (h : RowV w G H n xs f rg) (hn : xs.length = n) (hb : Below w.heap.size w w') : RowV w' G H n xs f rg := h.out hn (Out.ofB (B1 := H) (B2 := H) hb) (.inr (Nat.le_refl _))

set_option maxHeartbeats 1000000 in
theorem toBindingS_own (a : Option Addr) (c : Nat) (xs : List Vg) (w : World) (hr : RdV w a xs) :
    Calls Tryz.prog 9 #[.slice a xs.length c] w fun e w' => ∃ ms : List Vg, e = .returned (.slice (some ⟨w.heap.size, 0, none⟩) xs.length xs.length) ∧ ms.map Vg.ct = xs.map Vg.ct ∧ RdV w' (some ⟨w.heap.size, 0, none⟩) ms ∧ Below w.heap.size w w' ∧ ∃ f rg, RowV w' w.heap.size w'.heap.size xs.length ms f rg := by
  have hlen := hr.1
  have hmk := make_binds xs.length hlen
  go_enter Tryz.func9, Tryz.ntmps9
  go_wp2_with fail
  have hrow := krow (heap_alloc_new w (.cells (madeCells #[.int .i64 0, .slice none 0 0] (xs.length * 2)) 62))
  rw [size_madeCells] at hrow
  have hb0 : Below w.heap.size w (w.alloc (.cells (madeCells #[.int .i64 0, .slice none 0 0] (xs.length * 2)) 62)) := (Below.refl _ _).alloc (Nat.le_refl _) _
  have hs0 : w.heap.size < (w.alloc (.cells (madeCells #[.int .i64 0, .slice none 0 0] (xs.length * 2)) 62)).heap.size := by simp
  generalize (w.alloc (.cells (madeCells #[.int .i64 0, .slice none 0 0] (xs.length * 2)) 62)) = w0 at *
  go_loopw [4] (fun i wr => ∃ (k : Nat) (f : Nat → Value) (ms : List Vg), k ≤ xs.length ∧ i = .int .i64 k ∧ wr.rowIs w.heap.size 62 (xs.length * 2) f ∧ ms.length = k ∧ ms.map Vg.ct = (xs.take k).map Vg.ct ∧ (∀ j x, ms[j]? = some x → VgOwn wr w.heap.size f j x) ∧ Below w.heap.size w wr ∧ w.heap.size < wr.heap.size ∧ ∃ rg : Nat → Nat, w.heap.size < rg 0 ∧ (∀ i, rg i ≤ rg (i + 1)) ∧ rg k ≤ wr.heap.size ∧ ∀ j x, ms[j]? = some x → WrTm wr (rg j) (rg (j + 1)) x.ta x.ts) (fun i _ => xs.length - (intOf i).toNat)
  case atStart => exact ⟨0, _, [], Nat.zero_le _, rfl, hrow, rfl, rfl, fun j x h => by simp at h, hb0, hs0, fun _ => w.heap.size + 1, Nat.lt_succ_self _, fun _ => Nat.le_refl _, hs0, fun j x h => by simp at h⟩
  case round =>
    obtain ⟨k, f, ms, hk, rfl, hrw, hml, hmc, hms, hbel, hsz, rg, hg0, hgu, hgk, hgw⟩ := hrel
    have HG0 := kide hg0
    have HGU := kide hgu
    have HGK := kide hgk
    have HGW := kide hgw
    clear hg0 hgu hgk hgw
    clear hrow hb0 hs0
    by_cases hlt : k < xs.length
    · obtain ⟨-, h | ⟨b, o, rfl, hc⟩⟩ := hr
      · subst h; simp at hlt
      obtain ⟨⟨bv, ts, ta, tc⟩, hx⟩ : ∃ x, xs[k] = x := ⟨_, rfl⟩
      have gx : xs[k]? = some ⟨bv, ts, ta, tc⟩ := by rw [List.getElem?_eq_getElem hlt, hx]
      obtain ⟨⟨p0, p1⟩, pr2, -⟩ := (hc k _ gx).later hbel
      simp only [] at p0 p1 pr2
      clear hx
      have HTO := kide (toBinding_own ⟨bv, ts, ta, tc⟩ wr pr2)
      simp only [Vg.val] at HTO
      have GX : Hid _ := gx
      have HML : Hid _ := hml
      have HMC : Hid _ := hmc
      have HMS : Hid _ := hms
      have HR : Hid _ := hrw
      have HB : Hid _ := hbel
      have i0 : (k : Int) < (xs.length : Int) := by omega
      clear gx hml hmc hms hc hrw hbel hmk pr2
      generalize htl : ts.length = tl at *
      clear htl
      go_wp2_with fail
      refine Calls.mono HTO.out ?_
      rintro e w1 ⟨y, H, rfl, hct, hrd2, hfar2, hb1, hMH, ht2⟩
      have HMH := kide hMH
      have HT2 := kide ht2
      clear hMH ht2
      have HCT := kide hct
      have HD2 := kide hrd2
      have HF2 := kide hfar2
      have HB1 := kide hb1
      have hr1 := World.rowIs.of_block HR.out (hb1.block _ hsz)
      obtain ⟨yv, yts, yta, ytc⟩ := y
      simp only [] at HCT HD2 HF2 HT2 ⊢
      have q0 := hr1.cell (i := k * 2) (by omega)
      have q1 := hr1.cell (i := k * 2 + 1) (by omega)
      have r0 := hr1.frozen (k * 2)
      have r1 := hr1.frozen (k * 2 + 1)
      have HR1 : Hid _ := hr1
      clear hr1 hct hrd2 hfar2 hb1
      go_wp2_with fail
      go_roundw
      case rel =>
        have hl := HML.out
        refine ⟨k + 1, _, ms ++ [⟨yv, yts, yta, ytc⟩], by omega, by go_num, World.rowIs.set (World.rowIs.set HR1.out (k * 2) (.int .i64 yv)) (k * 2 + 1) (.slice yta yts.length ytc), by simp [hl], ?_, fun j x hj => ?_, ?_, ?_, fun i => if i ≤ k then rg i else H, by show _ < (if 0 ≤ k then rg 0 else H); rw [if_pos (Nat.zero_le _)]; exact HG0.out, fun i => ?_, ?_, fun j x hj => ?_⟩
        · have h := HMC.out
          rw [List.map_append, h, List.take_add_one, GX.out, List.map_append]
          simp only [List.map_cons, List.map_nil, Option.toList_some]
          rw [HCT.out]
        · rw [List.getElem?_append] at hj
          split at hj
          · refine (((HMS.out j x hj).later HB1.out).set _ _).set _ _ |>.row (k := k) (fun i hi => ?_) (by omega)
            show (if _ then _ else _) = _
            rw [if_neg (by omega), if_neg (by omega)]
          · have hj2 : j - ms.length = 0 := by
              have := (List.getElem?_eq_some_iff.1 hj).1
              simp at this; exact this
            rw [hj2] at hj
            simp at hj
            subst hj
            have hjk : j = k := by omega
            subst hjk
            have hF2 : FarT (w.heap.size + 1) yta yts := HF2.out.mono (by omega)
            exact ⟨⟨by simp, by simp⟩, (HD2.out.set hF2 (by simp) _).set hF2 (by simp) _, hF2⟩
        · exact ((HB.out.trans (HB1.out.mono HB.out.size)).setCell (Nat.le_refl _) _).setCell (Nat.le_refl _) _
        · have := HB1.out.size
          simp; omega
        · have h1 := HGU.out i
          have h2 := HGK.out
          obtain ⟨h3, -⟩ := HMH.out
          show (if i ≤ k then rg i else H) ≤ (if i + 1 ≤ k then rg (i + 1) else H)
          by_cases c1 : i + 1 ≤ k
          · rw [if_pos c1, if_pos (by omega)]; exact h1
          · rw [if_neg c1]
            by_cases c2 : i ≤ k
            · have c3 : i = k := by omega
              rw [if_pos c2, c3]; omega
            · rw [if_neg c2]; exact Nat.le_refl _
        · show (if k + 1 ≤ k then rg (k + 1) else H) ≤ _
          rw [if_neg (by omega)]
          have h5 := HMH.out.2
          simp; exact h5
        · have hz0 := HG0.out
          have hlow : ∀ i, w.heap.size < rg i := fun i => by
            induction i with
            | zero => exact hz0
            | succ i ih => exact Nat.lt_of_lt_of_le ih (HGU.out i)
          have main : WrTm w1 (if j ≤ k then rg j else H) (if j + 1 ≤ k then rg (j + 1) else H) x.ta x.ts ∧ w.heap.size < (if j ≤ k then rg j else H) := by
            rw [List.getElem?_append] at hj
            split at hj
            · rename_i hjl
              rw [hl] at hjl
              rw [if_pos (by omega), if_pos (by omega)]
              exact ⟨(HGW.out j x hj).later HB1.out, hlow j⟩
            · have hj2 : j - ms.length = 0 := by
                have := (List.getElem?_eq_some_iff.1 hj).1
                simp at this; exact this
              rw [hj2] at hj
              simp at hj
              subst hj
              have hjk : j = k := by omega
              subst hjk
              rw [if_pos (Nat.le_refl _), if_neg (by omega)]
              obtain ⟨h3, -⟩ := HMH.out
              have h2 := HGK.out
              exact ⟨HT2.out.mono h2, hlow j⟩
          exact ((main.1.setp (.inl main.2) _).setp (.inl main.2) _)
      case measure => simp [intOf]; omega
    · have e : k = xs.length := by omega
      have HM : Hid _ := hml
      have HC : Hid _ := hmc
      have HS : Hid _ := hms
      have HR : Hid _ := hrw
      have HB : Hid _ := hbel
      have HE : Hid _ := e
      clear hml hmc hms hrw hbel e hmk
      go_wp2_with fail
      go_ret
      refine ⟨ms, rfl, ?_, ⟨by rw [HM.out]; omega, .inr ⟨_, 0, rfl, fun i x hi => ?_⟩⟩, HB.out, f, rg, ⟨HR.out, fun i x hi => ?_, HG0.out, HGU.out, by rw [← HE.out]; exact HGK.out, HGW.out⟩⟩
      · have h := HC.out
        rw [HE.out, List.take_length] at h
        exact h
      · obtain ⟨⟨h0, h1⟩, h5⟩ := HS.out i x hi
        have hik : i < k := by have := (List.getElem?_eq_some_iff.1 hi).1; rw [HM.out] at this; exact this
        have hct : ∃ y, xs[i]? = some y ∧ y.ct = x.ct := by
          have h := HC.out
          rw [HE.out, List.take_length] at h
          have h' : (ms.map Vg.ct)[i]? = (xs.map Vg.ct)[i]? := by rw [h]
          rw [List.getElem?_map, List.getElem?_map, hi, Option.map_some] at h'
          cases hy : xs[i]? with
          | none => rw [hy] at h'; cases h'
          | some y => rw [hy] at h'; simp at h'; exact ⟨y, rfl, h'.symm⟩
        obtain ⟨y, hy, hyx⟩ := hct
        obtain ⟨-, hn | ⟨b, o, -, hc⟩⟩ := hr
        · subst hn; simp at hy
        obtain ⟨-, -, l3⟩ := hc i y hy
        have e1 : y.v = x.v := congrArg Vc.v hyx
        rw [e1] at l3
        refine ⟨⟨?_, ?_⟩, h5.1, l3⟩
        · rw [Nat.zero_add]; exact (World.rowIs.cell HR.out (by omega)).trans (congrArg some h0)
        · rw [Nat.zero_add]; exact (World.rowIs.cell HR.out (by omega)).trans (congrArg some h1)
      · obtain ⟨⟨h0, h1⟩, -⟩ := HS.out i x hi
        exact ⟨⟨_, h0⟩, h1⟩

end Go.Proofs.YtbpodkdlhjgncaaGreatDoor

/- A row of bindings marked. -/
namespace Go.Proofs.YtbpodkdlhjgncaaGreatDoor
set_option linter.unusedVariables false
set_option linter.unusedSimpArgs false
open Go.RowKit

theorem Out.widenV {B1 B2 C1 C2 : Nat} {w w' : World} (h : Out B1 B2 w w') (h1 : C1 ≤ B1) (h2 : B2 ≤ C2) : Out C1 C2 w w' := ⟨h.1, h.2.1, h.2.2.1, h.2.2.2.1, fun k hk hd => h.2.2.2.2 k hk (by omega)⟩

set_option maxHeartbeats 2000000 in
set_option maxRecDepth 100000 in
theorem markBindingS_any (G c n k H : Nat) (xs : List Vg) (w : World) (f : Nat → Value) (rg : Nat → Nat) (h : RowV w G H n xs f rg) (hn : xs.length = n) (hn2 : n ≤ 1048576) (hl : ∀ x ∈ xs, x.ts.length ≤ 1048576) (hk : k + n * 4398056996866 ≤ 5000000000000000000) :
    Calls Tryz.prog 16 #[.slice (some ⟨G, 0, none⟩) n c, .int .i64 (k : Int)] w fun e w' => (∃ r : Nat, r ≤ k + n * 4398056996866 ∧ e = .returned (.int .i64 (r : Int))) ∧ Out G H w w' := by
  have HN := kide hn
  have HL := kide hl
  have up : ∀ i k, rg i ≤ rg (i + k) := fun i k => by
    induction k with
    | zero => exact Nat.le_refl _
    | succ k ih => exact Nat.le_trans ih (h.up (i + k))
  have HLO : Hid (∀ i, G < rg i) := fun i => Nat.lt_of_lt_of_le h.lo (by have := up 0 i; rwa [Nat.zero_add] at this)
  have HHI : Hid (∀ i, i ≤ n → rg i ≤ H) := fun i hi => Nat.le_trans (by have := up i (n - i); rwa [show i + (n - i) = n by omega] at this) h.hi
  have HUP : Hid (∀ i j, i ≤ j → rg i ≤ rg j) := fun i j hij => by have := up i (j - i); rwa [show i + (j - i) = j by omega] at this
  have HGH : Hid (G < H) := Nat.lt_of_lt_of_le (HLO.out n) h.hi
  have HR0 := kide h.row
  have HC0 := kide h.cells
  have HW0 := kide h.wr
  clear hn hl h up
  go_enter Tryz.func16, Tryz.ntmps16
  go_wp2_with fail
  go_loopw [1, 5] (fun q i wr => ∃ (j K : Nat) (f : Nat → Value), j ≤ n ∧ i = .int .i64 (j : Int) ∧ q = .int .i64 (K : Int) ∧ K ≤ k + j * 4398056996866 ∧ wr.rowIs G 62 (n * 2) f ∧ VgF f xs ∧ (∀ i x, j ≤ i → xs[i]? = some x → WrTm wr (rg i) (rg (i + 1)) x.ta x.ts) ∧ Out G H w wr) (fun _ i _ => n - (intOf i).toNat)
  case atStart => exact ⟨0, k, f, Nat.zero_le _, rfl, rfl, by omega, HR0.out, HC0.out, fun i x _ hx => HW0.out i x hx, Out.refl _ _ _⟩
  case round =>
    clear HR0 HC0 HW0
    obtain ⟨j, K, f, hj, rfl, rfl, hK, hrow, hf, hws, hout⟩ := hrel
    have HO := kide hout
    have HRW := kide hrow
    have HWS := kide hws
    have HF := kide hf
    by_cases hlt : j < n
    · obtain ⟨x, gx⟩ : ∃ x, xs[j]? = some x := ⟨xs[j]'(by rw [HN.out]; exact hlt), List.getElem?_eq_getElem _⟩
      have htl := HL.out _ (List.mem_of_getElem? gx)
      obtain ⟨⟨k0, e0⟩, e1⟩ := hf j _ gx
      have q0 := hrow.cell (i := j * 2) (by omega)
      have q1 := hrow.cell (i := j * 2 + 1) (by omega)
      rw [e0] at q0
      rw [e1] at q1
      have r0 := hrow.frozen (j * 2)
      have hKb : K ≤ 5000000000000000000 := by omega
      have HKN := kide hK
      have i0 : (j : Int) < (n : Int) := by omega
      have GX := kide gx
      clear hout hrow hws hf gx hK e0 e1
      go_wp2_with fail
      have HR1 := kide (World.rowIs.set HRW.out (j * 2) (.int .i64 (K : Int)))
      have HW1 : Hid (∀ i x, j ≤ i → xs[i]? = some x → WrTm (wr.setCell ⟨G, j * 2, none⟩ (.int .i64 (K : Int))) (rg i) (rg (i + 1)) x.ta x.ts) := fun i x hi hx => (HWS.out i x hi hx).setp (.inl (HLO.out i)) _
      have HO1 : Hid (Out G H w (wr.setCell ⟨G, j * 2, none⟩ (.int .i64 (K : Int)))) := HO.out.trans (Out.grown (grow_set (World.grownBy.refl wr (some G)) (j * 2) _) (Nat.le_refl _) HGH.out)
      generalize wr.setCell ⟨G, j * 2, none⟩ (.int .i64 (K : Int)) = w1 at *
      have hf1 : ∃ f1, w1.rowIs G 62 (n * 2) f1 ∧ VgF f1 xs := ⟨_, HR1.out, fun i x hi => by
        obtain ⟨⟨k0', e0⟩, e1⟩ := HF.out i x hi
        by_cases hij : i = j
        · subst hij
          refine ⟨⟨K, ?_⟩, ?_⟩
          all_goals simp
          all_goals exact e1
        · refine ⟨⟨k0', ?_⟩, ?_⟩
          all_goals
            show (if _ then _ else _) = _
            rw [if_neg (by omega)]
            assumption⟩
      obtain ⟨f1, hrow1, htn1⟩ := hf1
      obtain ⟨gt, ft, et, t1, t2, t3, t4, t5⟩ := HW1.out j x (Nat.le_refl _) GX.out
      have R1 := kide hrow1
      have T1 := kide htn1
      obtain ⟨v, ts, ta, tc⟩ := x
      simp only [] at et t1 t2 t3 t4 t5 htl ⊢
      subst et
      have U3 := kide t3
      have U4 := kide t4
      have U5 := kide t5
      obtain ⟨K2, hK2⟩ : ∃ K2 : Nat, K + 1 = K2 := ⟨_, rfl⟩
      have hKe : (K : Int) + 1 = (K2 : Int) := by omega
      rw [hKe]
      have hb2 : Hid (K2 + ts.length * 2097157 ≤ 9000000000000000000) := by show _ ≤ _; omega
      have HK2 := kide hK2
      clear hrow1 htn1 HR1 HRW HF HWS HO q0 q1 r0 t3 t4 t5 hKe hK2
      refine Calls.mono (markTNodeS_big gt tc ts.length K2 (rg j) (rg (j + 1)) ts w1 ft U3.out U4.out U5.out rfl htl hb2.out t1 t2) ?_
      rintro e w3 ⟨⟨r3, hr3, rfl⟩, ho3⟩
      have R3 : Hid (w3.rowIs G 62 (n * 2) f1) := rowIs_outV R1.out ho3 (.inl (HLO.out j))
      have HW3 : Hid (∀ i x, j + 1 ≤ i → xs[i]? = some x → WrTm w3 (rg i) (rg (i + 1)) x.ta x.ts) := fun i x hi hx => (HW1.out i x (by omega) hx).out ho3 (.inl (HUP.out (j + 1) i hi))
      have HO3 := kide (HO1.out.trans (ho3.widenV (by have := HLO.out j; omega) (HHI.out (j + 1) (by omega))))
      have HKF : Hid (r3 ≤ k + (j + 1) * 4398056996866) := by
        show _ ≤ _
        have h1 := HKN.out
        have h2 := HK2.out
        rw [Nat.succ_mul]
        omega
      clear ho3 hr3 HW1 HO1 R1 U3 U4 U5 hb2
      go_wp2_with fail
      go_roundw
      case rel => exact ⟨j + 1, r3, f1, by omega, by go_num, rfl, HKF.out, R3.out, T1.out, HW3.out, HO3.out⟩
      case measure => simp [intOf]; omega
    · have e : j = n := by omega
      have hKn : Hid (K ≤ k + n * 4398056996866) := by show _ ≤ _; rw [← e]; exact hK
      clear hout hrow hws hf hK
      go_wp2_with fail
      go_ret
      exact ⟨⟨K, hKn.out, rfl⟩, HO.out⟩

end Go.Proofs.YtbpodkdlhjgncaaGreatDoor
