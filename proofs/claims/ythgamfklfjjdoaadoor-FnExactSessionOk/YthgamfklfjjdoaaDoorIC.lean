/- Rows of literals compared, copied. -/
import Derived.Test.YthgamfklfjjdoaaDoorIB
namespace Go.Proofs.YthgamfklfjjdoaaDoor
set_option linter.unusedVariables false
set_option linter.unusedSimpArgs false
open Go.RowKit

set_option maxHeartbeats 1000000 in
theorem eqLiteralS_same (a b : Option Addr) (c d : Nat) (xs ys : List Lg) (w : World) (hr : RdL w a xs) (hs : RdL w b ys) (he : xs.map Lg.ct = ys.map Lg.ct) (n : Nat) (h1 : xs.length = n) (h2 : ys.length = n) :
    Calls Tryd.prog 17 #[.slice a n c, .slice b n d] w fun e w' => e = .returned (.bool true) ∧ Below w.heap.size w w' := by
  have hl1 := hr.1
  rw [h1] at hl1
  have hne : ((n : Int) != (n : Int)) = false := by simp
  have H1 := kide h1
  have H2 := kide h2
  have HE := kide he
  clear h1 h2 he
  go_enter Tryd.func17, Tryd.ntmps17
  go_wp2_with fail
  clear hne
  go_loopw [5] (fun i wr => ∃ k : Nat, k ≤ n ∧ i = .int .i64 k ∧ Below w.heap.size w wr) (fun i _ => n - (intOf i).toNat)
  case atStart => exact ⟨0, Nat.zero_le _, rfl, Below.refl _ _⟩
  case round =>
    obtain ⟨k, hk, rfl, hbel⟩ := hrel
    have HB := kide hbel
    by_cases hlt : k < n
    · obtain ⟨-, h | ⟨b1, o1, rfl, hc1⟩⟩ := hr
      · have := H1.out; subst h; simp at this; omega
      obtain ⟨-, h | ⟨b2, o2, rfl, hc2⟩⟩ := hs
      · have := H2.out; subst h; simp at this; omega
      obtain ⟨⟨id, q, ss1, sa1, sc1, ts1, ta1, tc1⟩, hx⟩ : ∃ x, xs[k]? = some x := ⟨xs[k]'(by rw [H1.out]; exact hlt), List.getElem?_eq_getElem _⟩
      obtain ⟨⟨id2, q2, ss2, sa2, sc2, ts2, ta2, tc2⟩, hy⟩ : ∃ y, ys[k]? = some y := ⟨ys[k]'(by rw [H2.out]; exact hlt), List.getElem?_eq_getElem _⟩
      have hxy : Lg.ct ⟨id, q, ss1, sa1, sc1, ts1, ta1, tc1⟩ = Lg.ct ⟨id2, q2, ss2, sa2, sc2, ts2, ta2, tc2⟩ := by
        have h := congrArg (fun l => l[k]?) HE.out
        simp [hx, hy] at h
        exact h
      simp only [Lg.ct, Lc.mk.injEq] at hxy
      obtain ⟨rfl, rfl, hss, hts⟩ := hxy
      have hsl : ss2.length = ss1.length := by simpa using (congrArg List.length hss).symm
      have htl : ts2.length = ts1.length := by simpa using (congrArg List.length hts).symm
      obtain ⟨⟨p0, p1, p2, p3⟩, pr, pr2, -⟩ := (hc1 k _ hx).later hbel
      obtain ⟨⟨q0, q1, q2, q3⟩, qr, qr2, -⟩ := (hc2 k _ hy).later hbel
      simp only [] at p0 p1 p2 p3 pr pr2 q0 q1 q2 q3 qr qr2
      rw [hsl] at q2
      rw [htl] at q3
      have l1 := block_lt_of_cell p0
      have l2 := block_lt_of_cell q0
      have i0 : (k : Int) < (n : Int) := by omega
      have HEQ := kide (fun u (hu : Below wr.heap.size wr u) => eqLiteral_same id q sa1 sa2 ta1 ta2 sc1 sc2 tc1 tc2 ss1.length ts1.length ss1 ss2 ts1 ts2 u (pr.later hu) (qr.later hu) (pr2.later hu) (qr2.later hu) hss hts rfl hsl rfl htl)
      clear hc1 hc2 hbel hx hy pr qr pr2 qr2 hss hts hsl htl
      generalize ss1.length = m at *
      generalize ts1.length = m2 at *
      go_wp2_with fail
      go_region_held3 (fun u => u.cell? ⟨b1, o1 + k * 4, none⟩ = some (Value.int .i64 id) ∧ u.cell? ⟨b1, o1 + k * 4 + 1, none⟩ = some (Value.bool q) ∧ u.cell? ⟨b1, o1 + k * 4 + 2, none⟩ = some (Value.slice sa1 m sc1) ∧ u.cell? ⟨b1, o1 + k * 4 + 3, none⟩ = some (Value.slice ta1 m2 tc1) ∧ u.cell? ⟨b2, o2 + k * 4, none⟩ = some (Value.int .i64 id) ∧ u.cell? ⟨b2, o2 + k * 4 + 1, none⟩ = some (Value.bool q) ∧ u.cell? ⟨b2, o2 + k * 4 + 2, none⟩ = some (Value.slice sa2 m sc2) ∧ u.cell? ⟨b2, o2 + k * 4 + 3, none⟩ = some (Value.slice ta2 m2 tc2)) (simp [*])
        ((go_at_call 37; refine Calls.mono (HEQ.out _ ?_) ?_; exact (Below.refl _ _).drew; rintro e w1 ⟨rfl, hb1⟩; replace hb1 := kundrew hb1; have k0 := kcell hb1 b1 (o1 + k * 4) l1; have k1 := kcell hb1 b1 (o1 + k * 4 + 1) l1; have k2 := kcell hb1 b1 (o1 + k * 4 + 2) l1; have k3 := kcell hb1 b1 (o1 + k * 4 + 3) l1; have j0 := kcell hb1 b2 (o2 + k * 4) l2; have j1 := kcell hb1 b2 (o2 + k * 4 + 1) l2; have j2 := kcell hb1 b2 (o2 + k * 4 + 2) l2; have j3 := kcell hb1 b2 (o2 + k * 4 + 3) l2))
      go_wp2_with fail
      go_roundw
      case rel => exact ⟨k + 1, by omega, by go_num, HB.out.trans (hb1.mono HB.out.size)⟩
      case measure => simp [intOf]; omega
    · clear hbel
      go_wp2_with fail
      go_ret
      exact ⟨rfl, HB.out⟩

theorem Tryd.infoLit : (Tryd.prog.info? 54).map (fun i => (i.zero, i.size, i.bytes)) = some (some (.agg #[.int .i64 0, .bool false, .slice none 0 0, .slice none 0 0]), 4, 64) := by kernel_rfl

theorem make_lits (n : Nat) (hn : n ≤ 1048576) (kl kc : IntKind) (w : World) :
    (Instr.makeSlice 40 (.int kl (n : Int)) (.int kc (n : Int))).run Tryd.prog w = .ok (.slice (some ⟨w.heap.size, 0, none⟩) n n) (w.alloc (.cells (madeCells #[.int .i64 0, .bool false, .slice none 0 0, .slice none 0 0] (n * 4)) 54)) := by
  obtain ⟨i0, hi, hz0, hz1, hz2⟩ := info_parts Tryd.infoLit
  have := run_make (P := Tryd.prog) w 40 54 i0 _ Tryd.underlying40 hi hz0 kl kc n n (by omega) (Int.le_refl _) (by rw [hz2]; omega) (by omega)
  rw [hz1] at this
  simp only [Int.toNat_natCast] at this
  exact this

/-- A copied literal: its terms lie behind the row. -/
def LgOwn (w : World) (G : Nat) (f : Nat → Value) (j : Nat) (x : Lg) : Prop :=
  (f (j * 4) = .int .i64 x.id ∧ f (j * 4 + 1) = .bool x.eq ∧ f (j * 4 + 2) = .slice x.sa x.ss.length x.sc ∧ f (j * 4 + 3) = .slice x.ta x.ts.length x.tc) ∧ (RdT w x.sa x.ss ∧ FarT (G + 1) x.sa x.ss) ∧ RdT w x.ta x.ts ∧ FarT (G + 1) x.ta x.ts

theorem LgOwn.later {w w' : World} {G j : Nat} {f : Nat → Value} {x : Lg} (h : LgOwn w G f j x) (hb : Below w.heap.size w w') : LgOwn w' G f j x := ⟨h.1, ⟨h.2.1.1.later hb, h.2.1.2⟩, h.2.2.1.later hb, h.2.2.2⟩

theorem LgOwn.row {w : World} {G j k : Nat} {f f' : Nat → Value} {x : Lg} (h : LgOwn w G f j x) (hf : ∀ i, i < k * 4 → f' i = f i) (hk : j < k) : LgOwn w G f' j x := by
  obtain ⟨⟨h0, h1, h2, h3⟩, h4⟩ := h
  exact ⟨⟨by rw [hf _ (by omega)]; exact h0, by rw [hf _ (by omega)]; exact h1, by rw [hf _ (by omega)]; exact h2, by rw [hf _ (by omega)]; exact h3⟩, h4⟩

theorem LgOwn.set {w : World} {G j : Nat} {f : Nat → Value} {x : Lg} (h : LgOwn w G f j x) (o : Nat) (v : Value) : LgOwn (w.setCell ⟨G, o, none⟩ v) G f j x := ⟨h.1, ⟨h.2.1.1.set h.2.1.2 (by simp) v, h.2.1.2⟩, h.2.2.1.set h.2.2.2 (by simp) v, h.2.2.2⟩

/-- Literals that lie from a block on. -/
def FarL (B : Nat) (a : Option Addr) (xs : List Lg) : Prop := (∀ b o sp, a = some ⟨b, o, sp⟩ → B ≤ b) ∧ ∀ x ∈ xs, FarT B x.sa x.ss ∧ FarT B x.ta x.ts
theorem FarL.mono {B B' : Nat} {a : Option Addr} {xs : List Lg} (h : FarL B a xs) (hB : B' ≤ B) : FarL B' a xs := ⟨fun b o sp e => Nat.le_trans hB (h.1 b o sp e), fun x hx => ⟨(h.2 x hx).1.mono hB, (h.2 x hx).2.mono hB⟩⟩
theorem RdL.set {w : World} {a : Option Addr} {xs : List Lg} (h : RdL w a xs) {B : Nat} (hf : FarL B a xs) {p : Addr} (hp : p.block < B) (v : Value) : RdL (w.setCell p v) a xs := by
  refine ⟨h.1, ?_⟩
  rcases h.2 with h3 | ⟨b, o, rfl, hc⟩
  · exact .inl h3
  · have := hf.1 b o none rfl
    refine .inr ⟨b, o, rfl, fun i n hi => ?_⟩
    obtain ⟨⟨c0, c1, c2, c3⟩, r1, r2, r3⟩ := hc i n hi
    have hn := hf.2 n (List.mem_of_getElem? hi)
    exact ⟨⟨ksetT c0 (by simp; omega), ksetT c1 (by simp; omega), ksetT c2 (by simp; omega), ksetT c3 (by simp; omega)⟩, r1.set hn.1 hp v, r2.set hn.2 hp v, r3⟩

set_option maxHeartbeats 1000000 in
theorem toLiteralS_far (a : Option Addr) (c : Nat) (xs : List Lg) (w : World) (hr : RdL w a xs) :
    Calls Tryd.prog 14 #[.slice a xs.length c] w fun e w' => ∃ ms : List Lg, e = .returned (.slice (some ⟨w.heap.size, 0, none⟩) xs.length xs.length) ∧ ms.map Lg.ct = xs.map Lg.ct ∧ RdL w' (some ⟨w.heap.size, 0, none⟩) ms ∧ FarL w.heap.size (some ⟨w.heap.size, 0, none⟩) ms ∧ Below w.heap.size w w' := by
  have hlen := hr.1
  have hmk := make_lits xs.length hlen
  go_enter Tryd.func14, Tryd.ntmps14
  go_wp2_with fail
  have hrow := krow (heap_alloc_new w (.cells (madeCells #[.int .i64 0, .bool false, .slice none 0 0, .slice none 0 0] (xs.length * 4)) 54))
  rw [size_madeCells] at hrow
  have hb0 : Below w.heap.size w (w.alloc (.cells (madeCells #[.int .i64 0, .bool false, .slice none 0 0, .slice none 0 0] (xs.length * 4)) 54)) := (Below.refl _ _).alloc (Nat.le_refl _) _
  have hs0 : w.heap.size < (w.alloc (.cells (madeCells #[.int .i64 0, .bool false, .slice none 0 0, .slice none 0 0] (xs.length * 4)) 54)).heap.size := by simp
  generalize (w.alloc (.cells (madeCells #[.int .i64 0, .bool false, .slice none 0 0, .slice none 0 0] (xs.length * 4)) 54)) = w0 at *
  go_loopw [4] (fun i wr => ∃ (k : Nat) (f : Nat → Value) (ms : List Lg), k ≤ xs.length ∧ i = .int .i64 k ∧ wr.rowIs w.heap.size 54 (xs.length * 4) f ∧ ms.length = k ∧ ms.map Lg.ct = (xs.take k).map Lg.ct ∧ (∀ j x, ms[j]? = some x → LgOwn wr w.heap.size f j x) ∧ Below w.heap.size w wr ∧ w.heap.size < wr.heap.size) (fun i _ => xs.length - (intOf i).toNat)
  case atStart => exact ⟨0, _, [], Nat.zero_le _, rfl, hrow, rfl, rfl, fun j x h => by simp at h, hb0, hs0⟩
  case round =>
    obtain ⟨k, f, ms, hk, rfl, hrw, hml, hmc, hms, hbel, hsz⟩ := hrel
    clear hrow hb0 hs0
    by_cases hlt : k < xs.length
    · obtain ⟨-, h | ⟨b, o, rfl, hc⟩⟩ := hr
      · subst h; simp at hlt
      obtain ⟨⟨id, q, ss, sa, sc, ts, ta, tc⟩, hx⟩ : ∃ x, xs[k] = x := ⟨_, rfl⟩
      have gx : xs[k]? = some ⟨id, q, ss, sa, sc, ts, ta, tc⟩ := by rw [List.getElem?_eq_getElem hlt, hx]
      obtain ⟨⟨p0, p1, p2, p3⟩, pr, pr2, -⟩ := (hc k _ gx).later hbel
      simp only [] at p0 p1 p2 p3 pr pr2
      clear hx
      have HTO := kide (toLiteral_far ⟨id, q, ss, sa, sc, ts, ta, tc⟩ wr pr pr2)
      simp only [Lg.val] at HTO
      have GX : Hid _ := gx
      have HML : Hid _ := hml
      have HMC : Hid _ := hmc
      have HMS : Hid _ := hms
      have HR : Hid _ := hrw
      have HB : Hid _ := hbel
      have i0 : (k : Int) < (xs.length : Int) := by omega
      clear gx hml hmc hms hc hrw hbel hmk pr pr2
      generalize hsl : ss.length = sl at *
      generalize htl : ts.length = tl at *
      clear hsl htl
      go_wp2_with fail
      refine Calls.mono HTO.out ?_
      rintro e w1 ⟨y, rfl, hct, hrd1, hfar1, hrd2, hfar2, hb1⟩
      have HCT := kide hct
      have HD1 := kide hrd1
      have HF1 := kide hfar1
      have HD2 := kide hrd2
      have HF2 := kide hfar2
      have HB1 := kide hb1
      have hr1 := World.rowIs.of_block HR.out (hb1.block _ hsz)
      obtain ⟨yid, yq, yss, ysa, ysc, yts, yta, ytc⟩ := y
      simp only [] at HCT HD1 HF1 HD2 HF2 ⊢
      have q0 := hr1.cell (i := k * 4) (by omega)
      have q1 := hr1.cell (i := k * 4 + 1) (by omega)
      have q2 := hr1.cell (i := k * 4 + 2) (by omega)
      have q3 := hr1.cell (i := k * 4 + 3) (by omega)
      have r0 := hr1.frozen (k * 4)
      have r1 := hr1.frozen (k * 4 + 1)
      have r2 := hr1.frozen (k * 4 + 2)
      have r3 := hr1.frozen (k * 4 + 3)
      have HR1 : Hid _ := hr1
      clear hr1 hct hrd1 hfar1 hrd2 hfar2 hb1
      go_wp2_with fail
      go_roundw
      case rel =>
        have hl := HML.out
        refine ⟨k + 1, _, ms ++ [⟨yid, yq, yss, ysa, ysc, yts, yta, ytc⟩], by omega, by go_num, World.rowIs.set (World.rowIs.set (World.rowIs.set (World.rowIs.set HR1.out (k * 4) (.int .i64 yid)) (k * 4 + 1) (.bool yq)) (k * 4 + 2) (.slice ysa yss.length ysc)) (k * 4 + 3) (.slice yta yts.length ytc), by simp [hl], ?_, fun j x hj => ?_, ?_, ?_⟩
        · have h := HMC.out
          rw [List.map_append, h, List.take_add_one, GX.out, List.map_append]
          simp only [List.map_cons, List.map_nil, Option.toList_some]
          rw [HCT.out]
        · rw [List.getElem?_append] at hj
          split at hj
          · refine (((((HMS.out j x hj).later HB1.out).set _ _).set _ _).set _ _).set _ _ |>.row (k := k) (fun i hi => ?_) (by omega)
            show (if _ then _ else _) = _
            rw [if_neg (by omega), if_neg (by omega), if_neg (by omega), if_neg (by omega)]
          · have hj2 : j - ms.length = 0 := by
              have := (List.getElem?_eq_some_iff.1 hj).1
              simp at this; exact this
            rw [hj2] at hj
            simp at hj
            subst hj
            have hjk : j = k := by omega
            subst hjk
            have hF : FarT (w.heap.size + 1) ysa yss := HF1.out.mono (by omega)
            have hF2 : FarT (w.heap.size + 1) yta yts := HF2.out.mono (by omega)
            exact ⟨⟨by simp, by simp, by simp, by simp⟩, ⟨(((HD1.out.set hF (by simp) _).set hF (by simp) _).set hF (by simp) _).set hF (by simp) _, hF⟩, (((HD2.out.set hF2 (by simp) _).set hF2 (by simp) _).set hF2 (by simp) _).set hF2 (by simp) _, hF2⟩
        · exact ((((HB.out.trans (HB1.out.mono HB.out.size)).setCell (Nat.le_refl _) _).setCell (Nat.le_refl _) _).setCell (Nat.le_refl _) _).setCell (Nat.le_refl _) _
        · have := HB1.out.size
          simp; omega
      case measure => simp [intOf]; omega
    · have e : k = xs.length := by omega
      have HM : Hid _ := hml
      have HC : Hid _ := hmc
      have HS : Hid _ := hms
      have HR : Hid _ := hrw
      have HB : Hid _ := hbel
      have HE : Hid _ := e
      clear hml hmc hms hrw hbel e hmk
      go_wp2_with fail
      go_ret
      refine ⟨ms, rfl, ?_, ⟨by rw [HM.out]; omega, .inr ⟨_, 0, rfl, fun i x hi => ?_⟩⟩, ⟨fun b o sp e => by cases e; exact Nat.le_refl _, fun x hx => ?_⟩, HB.out⟩
      · have h := HC.out
        rw [HE.out, List.take_length] at h
        exact h
      · obtain ⟨⟨h0, h1, h2, h3⟩, h4, h5⟩ := HS.out i x hi
        have hik : i < k := by have := (List.getElem?_eq_some_iff.1 hi).1; rw [HM.out] at this; exact this
        have hct : ∃ y, xs[i]? = some y ∧ y.ct = x.ct := by
          have h := HC.out
          rw [HE.out, List.take_length] at h
          have h' : (ms.map Lg.ct)[i]? = (xs.map Lg.ct)[i]? := by rw [h]
          rw [List.getElem?_map, List.getElem?_map, hi, Option.map_some] at h'
          cases hy : xs[i]? with
          | none => rw [hy] at h'; cases h'
          | some y => rw [hy] at h'; simp at h'; exact ⟨y, rfl, h'.symm⟩
        obtain ⟨y, hy, hyx⟩ := hct
        obtain ⟨-, hn | ⟨b, o, -, hc⟩⟩ := hr
        · subst hn; simp at hy
        obtain ⟨-, -, -, l3⟩ := hc i y hy
        have e1 : y.id = x.id := congrArg Lc.id hyx
        rw [e1] at l3
        refine ⟨⟨?_, ?_, ?_, ?_⟩, h4.1, h5.1, l3⟩
        · rw [Nat.zero_add]; exact (World.rowIs.cell HR.out (by omega)).trans (congrArg some h0)
        · rw [Nat.zero_add]; exact (World.rowIs.cell HR.out (by omega)).trans (congrArg some h1)
        · rw [Nat.zero_add]; exact (World.rowIs.cell HR.out (by omega)).trans (congrArg some h2)
        · rw [Nat.zero_add]; exact (World.rowIs.cell HR.out (by omega)).trans (congrArg some h3)
      · obtain ⟨i, hi⟩ := List.getElem?_of_mem hx
        obtain ⟨-, ⟨-, h4⟩, -, h5⟩ := HS.out i x hi
        exact ⟨h4.mono (Nat.le_succ _), h5.mono (Nat.le_succ _)⟩

theorem toLiteralS_any (a : Option Addr) (c : Nat) (xs : List Lg) (w : World) (hr : RdL w a xs) :
    Calls Tryd.prog 14 #[.slice a xs.length c] w fun e w' => ∃ ms : List Lg, e = .returned (.slice (some ⟨w.heap.size, 0, none⟩) xs.length xs.length) ∧ ms.map Lg.ct = xs.map Lg.ct ∧ RdL w' (some ⟨w.heap.size, 0, none⟩) ms ∧ Below w.heap.size w w' :=
  (toLiteralS_far a c xs w hr).mono fun e w' ⟨ms, h1, h2, h3, _, h5⟩ => ⟨ms, h1, h2, h3, h5⟩

end Go.Proofs.YthgamfklfjjdoaaDoor
