/- Scopes and sessions copied, as the laws mark them. -/
import Derived.Test.YtofdkdaehhpgbaaGreatDoorZSA
import Derived.Test.YtofdkdaehhpgbaaGreatDoorZWK
import Derived.Test.YtofdkdaehhpgbaaGreatDoorLTD
namespace Go.Proofs.YtofdkdaehhpgbaaGreatDoor
set_option linter.unusedVariables false
set_option linter.unusedSimpArgs false
open Go.RowKit

theorem WrTm.far {w : World} {B1 B2 : Nat} {a : Option Addr} {xs : List Tg} (h : WrTm w B1 B2 a xs) : FarT B1 a xs ∧ Sn xs := by
  obtain ⟨g, f, rfl, h1, -, -, -, h2⟩ := h
  refine ⟨⟨fun b o sp e => by cases e; exact h1, fun x hx => ?_⟩, fun x hx => ?_⟩
  · obtain ⟨⟨⟨g1, z1, e1, l1, -⟩, g2, z2, e2, l2, -⟩, -⟩ := h2 x hx
    exact ⟨(fun b o sp e => by rw [e1] at e; cases e; exact l1), (fun b o sp e => by rw [e2] at e; cases e; exact l2)⟩
  · obtain ⟨⟨⟨g1, z1, e1, -⟩, g2, z2, e2, -⟩, -⟩ := h2 x hx
    exact ⟨(fun e => by rw [e1] at e; cases e), (fun e => by rw [e2] at e; cases e)⟩

theorem RowL.up' {w : World} {G H n : Nat} {xs : List Lg} {f : Nat → Value} {rg : Nat → Nat} (h : RowL w G H n xs f rg) : ∀ i, G < rg i := fun i => by
  induction i with
  | zero => exact h.lo
  | succ i ih => exact Nat.lt_of_lt_of_le ih (h.up i)

theorem RowL.far {w : World} {G H n : Nat} {xs : List Lg} {f : Nat → Value} {rg : Nat → Nat} (h : RowL w G H n xs f rg) : FarL G (some ⟨G, 0, none⟩) xs ∧ SnL xs := by
  refine ⟨⟨fun b o sp e => by cases e; exact Nat.le_refl _, fun x hx => ?_⟩, fun x hx => ?_⟩
  · obtain ⟨i, hi⟩ := List.getElem?_of_mem hx
    obtain ⟨M, m1, m2, t1, t2⟩ := h.wr i x hi
    have := h.up' i
    exact ⟨t1.far.1.mono (by omega), t2.far.1.mono (by omega)⟩
  · obtain ⟨i, hi⟩ := List.getElem?_of_mem hx
    obtain ⟨M, m1, m2, t1, t2⟩ := h.wr i x hi
    exact ⟨t1.far.2, t2.far.2⟩

/-- A scope that may be written to: its literals lie from L on. -/
def WrS (w : World) (L H : Nat) (x : Sg) : Prop := ∃ G f rg, x.la = some ⟨G, 0, none⟩ ∧ L ≤ G ∧ RowL w G H x.ls.length x.ls f rg
theorem WrS.out {w w' : World} {L H C1 C2 : Nat} {x : Sg} (h : WrS w L H x) (ho : Out C1 C2 w w') (hd : C2 ≤ L ∨ H ≤ C1) : WrS w' L H x := by
  obtain ⟨G, f, rg, h1, h2, h3⟩ := h
  exact ⟨G, f, rg, h1, h2, h3.out rfl ho (by omega)⟩
theorem WrS.later {w w' : World} {L H : Nat} {x : Sg} (h : WrS w L H x) (hb : Below w.heap.size w w') : WrS w' L H x := by
  obtain ⟨G, f, rg, h1, h2, h3⟩ := h
  exact ⟨G, f, rg, h1, h2, h3.later rfl hb⟩
theorem WrS.mono {w : World} {L L' H : Nat} {x : Sg} (h : WrS w L H x) (hL : L' ≤ L) : WrS w L' H x := by
  obtain ⟨G, f, rg, h1, h2, h3⟩ := h
  exact ⟨G, f, rg, h1, by omega, h3⟩

structure RowS (w : World) (G H n : Nat) (xs : List Sg) (f : Nat → Value) (rg : Nat → Nat) : Prop where
  row : w.rowIs G 63 (n * 2) f
  cells : ∀ i x, xs[i]? = some x → (∃ k0 : Int, f (i * 2) = .int .i64 k0) ∧ f (i * 2 + 1) = .slice x.la x.ls.length x.lc
  lo : G < rg 0
  up : ∀ i, rg i ≤ rg (i + 1)
  hi : rg n ≤ H
  wr : ∀ i x, xs[i]? = some x → WrS w (rg i) (rg (i + 1)) x
theorem RowS.up' {w : World} {G H n : Nat} {xs : List Sg} {f : Nat → Value} {rg : Nat → Nat} (h : RowS w G H n xs f rg) : ∀ i k, rg i ≤ rg (i + k) := fun i k => by
  induction k with
  | zero => exact Nat.le_refl _
  | succ k ih => exact Nat.le_trans ih (h.up (i + k))
theorem RowS.out {w w' : World} {G H n C1 C2 : Nat} {xs : List Sg} {f : Nat → Value} {rg : Nat → Nat} (h : RowS w G H n xs f rg) (hn : xs.length = n) (ho : Out C1 C2 w w') (hd : C2 ≤ G ∨ H ≤ C1) : RowS w' G H n xs f rg := by
  have lo : ∀ i, G < rg i := fun i => Nat.lt_of_lt_of_le h.lo (by have := h.up' 0 i; rwa [Nat.zero_add] at this)
  have hi : ∀ i, i ≤ n → rg i ≤ H := fun i hi => Nat.le_trans (by have := h.up' i (n - i); rwa [show i + (n - i) = n by omega] at this) h.hi
  refine ⟨rowIs_out h.row ho (by have := lo n; have := h.hi; omega), h.cells, h.lo, h.up, h.hi, fun i x hx => (h.wr i x hx).out ho ?_⟩
  have hi1 := (List.getElem?_eq_some_iff.1 hx).1
  have := lo i
  have := hi (i + 1) (by omega)
  omega
theorem RowS.later {w w' : World} {G H n : Nat} {xs : List Sg} {f : Nat → Value} {rg : Nat → Nat} (h : RowS w G H n xs f rg) (hb : Below w.heap.size w w') : RowS w' G H n xs f rg :=
  ⟨rowIs_later h.row hb, h.cells, h.lo, h.up, h.hi, fun i x hx => (h.wr i x hx).later hb⟩
theorem RowS.sn {w : World} {G H n : Nat} {xs : List Sg} {f : Nat → Value} {rg : Nat → Nat} (h : RowS w G H n xs f rg) : ∀ x ∈ xs, SnL x.ls := fun x hx => by
  obtain ⟨i, hi⟩ := List.getElem?_of_mem hx
  obtain ⟨G', f', rg', -, -, h3⟩ := h.wr i x hi
  exact h3.far.2

set_option maxHeartbeats 1000000 in
theorem toScope_own (z : Sg) (w : World) (h1 : RdL w z.la z.ls) :
    Calls Tryz.prog 48 #[z.val] w fun e w' => ∃ y : Sg, e = .returned y.val ∧ y.ct = z.ct ∧ RdL w' y.la y.ls ∧ FarL w.heap.size y.la y.ls ∧ y.la ≠ none ∧ WrS w' w.heap.size w'.heap.size y ∧ Below w.heap.size w w' := by
  obtain ⟨d, ls, la, lc⟩ := z
  simp only [Sg.val, Sg.ct] at h1 ⊢
  have H1 : Hid (∀ u, Below w.heap.size w u → Calls Tryz.prog 78 #[.slice la ls.length lc] u fun e w' => ∃ g ms, e = .returned (.slice (some ⟨g, 0, none⟩) ls.length ls.length) ∧ ms.map Lg.ct = ls.map Lg.ct ∧ RdL w' (some ⟨g, 0, none⟩) ms ∧ FarL u.heap.size (some ⟨g, 0, none⟩) ms ∧ (u.heap.size ≤ g ∧ ∃ f rg, RowL w' g w'.heap.size ms.length ms f rg) ∧ Below u.heap.size u w') :=
    fun u hu => (toLiteralS_own la lc ls u (h1.later hu)).mono fun e w' ⟨ms, p1, p2, p3, p4, f, rg, p5⟩ => ⟨_, ms, p1, p2, p3, p5.far.1, ⟨Nat.le_refl _, f, rg, by rw [show ms.length = ls.length by simpa using congrArg List.length p2]; exact p5⟩, p4⟩
  clear h1
  have h3 : Below w.heap.size w (((w.alloc (Obj.cells #[Value.int .i64 d, Value.slice la ls.length lc] 83)).alloc (Obj.cells #[Value.int .i64 0, Value.slice none 0 0] 63)).alloc (Obj.cells #[Value.int .i64 d, Value.slice none 0 0] 63)) := (((Below.refl _ _).alloc (Nat.le_refl _) _).alloc (by simp) _).alloc (by simp; omega) _
  have B0 := kide h3
  clear h3
  go_enter Tryz.func48, Tryz.ntmps48
  go_wp2_with fail
  refine Calls.mono (H1.out _ B0.out) ?_
  rintro e w1 ⟨g1, m1, rfl, hm1, r1, f1, ⟨hg1, ff, rgg, hrow⟩, hb1⟩
  have HRW := kide hrow
  have HG1 : Hid (w.heap.size + 3 ≤ g1) := by show _ ≤ _; simp at hg1; omega
  clear hrow hg1
  have hz1 : w.heap.size + 3 ≤ w1.heap.size := by have := hb1.size; simp at this; omega
  have F1 : Hid (FarL (w.heap.size + 3) (some ⟨g1, 0, none⟩) m1) := by have h := f1; simp at h; exact h
  have B1 := kide (B0.out.trans (hb1.mono B0.out.size))
  have R1 := kide r1
  have M1 := kide hm1
  have qa0 : w1.cell? ⟨w.heap.size + 1, 0, none⟩ = some (Value.int .i64 0) := by rw [kcell hb1 _ _ (by first | (simp; done) | (simp; omega))]; simp [go_sem]
  have fa0 : w1.frozen? ⟨w.heap.size + 1, 0, none⟩ = false := by rw [kfrozL hb1 _ _ (by first | (simp; done) | (simp; omega))]; simp [go_sem]
  have qa1 : w1.cell? ⟨w.heap.size + 1, 1, none⟩ = some (Value.slice none 0 0) := by rw [kcell hb1 _ _ (by first | (simp; done) | (simp; omega))]; simp [go_sem]
  have fa1 : w1.frozen? ⟨w.heap.size + 1, 1, none⟩ = false := by rw [kfrozL hb1 _ _ (by first | (simp; done) | (simp; omega))]; simp [go_sem]
  have qb0 : w1.cell? ⟨w.heap.size + 1 + 1, 0, none⟩ = some (Value.int .i64 d) := by rw [kcell hb1 _ _ (by first | (simp; done) | (simp; omega))]; simp [go_sem]
  have fb0 : w1.frozen? ⟨w.heap.size + 1 + 1, 0, none⟩ = false := by rw [kfrozL hb1 _ _ (by first | (simp; done) | (simp; omega))]; simp [go_sem]
  have qb1 : w1.cell? ⟨w.heap.size + 1 + 1, 1, none⟩ = some (Value.slice none 0 0) := by rw [kcell hb1 _ _ (by first | (simp; done) | (simp; omega))]; simp [go_sem]
  have fb1 : w1.frozen? ⟨w.heap.size + 1 + 1, 1, none⟩ = false := by rw [kfrozL hb1 _ _ (by first | (simp; done) | (simp; omega))]; simp [go_sem]
  clear hb1 r1 f1 hm1 H1
  go_wp2_with fail
  refine bodyPost_ret (v := .agg #[.int .i64 d, .slice (some ⟨g1, 0, none⟩) ls.length ls.length]) (by simp [results, Tryz.results48, go_sem, qa0, qa1, qb0, qb1, fa0, fa1, fb0, fb1]) rfl ?_
  have hl1 : m1.length = ls.length := by simpa using congrArg List.length M1.out
  refine ⟨⟨d, m1, some ⟨g1, 0, none⟩, ls.length⟩, by simp [hl1], by simp [M1.out], ?_, F1.out.mono (by omega), by simp, ?_, ?_⟩
  · repeat (refine RdL.set ?_ F1.out (by first | (simp; done) | (simp; omega)) _)
    exact R1.out
  · refine ⟨g1, ff, rgg, rfl, by have := HG1.out; omega, ?_⟩
    have h0 := HRW.out
    have hh : ∀ (u : World) (b i : Nat) (v : Value), b < g1 → RowL u g1 w1.heap.size m1.length m1 ff rgg → RowL (u.setCell ⟨b, i, none⟩ v) g1 w1.heap.size m1.length m1 ff rgg := fun u b i v hb h => h.out rfl (Out.setc u b i v) (.inl (by omega))
    have hg := HG1.out
    simp only [World.size_setCell]
    repeat (refine hh _ _ _ _ (by omega) ?_)
    exact h0
  · repeat (refine Below.setCell ?_ (by first | (simp; done) | (simp; omega)) _)
    exact B1.out

set_option maxHeartbeats 1000000 in
theorem toScopeS_own (a : Option Addr) (c : Nat) (xs : List Sg) (w : World) (hr : RdS w a xs) :
    Calls Tryz.prog 26 #[.slice a xs.length c] w fun e w' => ∃ ms : List Sg, e = .returned (.slice (some ⟨w.heap.size, 0, none⟩) xs.length xs.length) ∧ ms.map Sg.ct = xs.map Sg.ct ∧ RdS w' (some ⟨w.heap.size, 0, none⟩) ms ∧ FarS w.heap.size (some ⟨w.heap.size, 0, none⟩) ms ∧ (∀ x ∈ ms, x.la ≠ none) ∧ (∃ f rg, RowS w' w.heap.size w'.heap.size xs.length ms f rg) ∧ Below w.heap.size w w' := by
  have hlen := hr.1
  have hmk := make_scopes xs.length hlen
  go_enter Tryz.func26, Tryz.ntmps26
  go_wp2_with fail
  have hrow := krow (heap_alloc_new w (.cells (madeCells #[.int .i64 0, .slice none 0 0] (xs.length * 2)) 63))
  rw [size_madeCells] at hrow
  have hb0 : Below w.heap.size w (w.alloc (.cells (madeCells #[.int .i64 0, .slice none 0 0] (xs.length * 2)) 63)) := (Below.refl _ _).alloc (Nat.le_refl _) _
  have hs0 : w.heap.size < (w.alloc (.cells (madeCells #[.int .i64 0, .slice none 0 0] (xs.length * 2)) 63)).heap.size := by simp
  generalize (w.alloc (.cells (madeCells #[.int .i64 0, .slice none 0 0] (xs.length * 2)) 63)) = w0 at *
  go_loopw [4] (fun i wr => ∃ (k : Nat) (f : Nat → Value) (ms : List Sg), k ≤ xs.length ∧ i = .int .i64 k ∧ wr.rowIs w.heap.size 63 (xs.length * 2) f ∧ ms.length = k ∧ ms.map Sg.ct = (xs.take k).map Sg.ct ∧ (∀ j x, ms[j]? = some x → SgOwn wr w.heap.size f j x) ∧ Below w.heap.size w wr ∧ w.heap.size < wr.heap.size ∧ ∃ rg : Nat → Nat, w.heap.size < rg 0 ∧ (∀ i, rg i ≤ rg (i + 1)) ∧ rg k ≤ wr.heap.size ∧ ∀ j x, ms[j]? = some x → WrS wr (rg j) (rg (j + 1)) x) (fun i _ => xs.length - (intOf i).toNat)
  case atStart => exact ⟨0, _, [], Nat.zero_le _, rfl, hrow, rfl, rfl, fun j x h => by simp at h, hb0, hs0, fun _ => w.heap.size + 1, Nat.lt_succ_self _, fun _ => Nat.le_refl _, hs0, fun j x h => by simp at h⟩
  case round =>
    obtain ⟨k, f, ms, hk, rfl, hrw, hml, hmc, hms, hbel, hsz, rg, hg0, hgu, hgk, hgw⟩ := hrel
    have HG0 := kide hg0
    have HGU := kide hgu
    have HGK := kide hgk
    have HGW := kide hgw
    clear hg0 hgu hgk hgw
    clear hrow hb0 hs0
    by_cases hlt : k < xs.length
    · obtain ⟨-, h | ⟨b, o, rfl, hc⟩⟩ := hr
      · subst h; simp at hlt
      obtain ⟨⟨d, ls, la, lc⟩, hx⟩ : ∃ x, xs[k] = x := ⟨_, rfl⟩
      have gx : xs[k]? = some ⟨d, ls, la, lc⟩ := by rw [List.getElem?_eq_getElem hlt, hx]
      obtain ⟨⟨p0, p1⟩, pr, -⟩ := (hc k _ gx).later hbel
      simp only [] at p0 p1 pr
      clear hx
      have HTO := kide (toScope_own ⟨d, ls, la, lc⟩ wr pr)
      simp only [Sg.val] at HTO
      have GX : Hid _ := gx
      have HML : Hid _ := hml
      have HMC : Hid _ := hmc
      have HMS : Hid _ := hms
      have HR : Hid _ := hrw
      have HB : Hid _ := hbel
      have i0 : (k : Int) < (xs.length : Int) := by omega
      clear gx hml hmc hms hc hrw hbel hmk pr
      generalize hsl : ls.length = sl at *
      clear hsl
      go_wp2_with fail
      refine Calls.mono HTO.out ?_
      rintro e w1 ⟨y, rfl, hct, hrd1, hfar1, hnn1, hws1, hb1⟩
      have HWS := kide hws1
      clear hws1
      have HNN := kide hnn1
      clear hnn1
      have HCT := kide hct
      have HD1 := kide hrd1
      have HF1 := kide hfar1
      have HB1 := kide hb1
      have hr1 := World.rowIs.of_block HR.out (hb1.block _ hsz)
      obtain ⟨yd, yls, yla, ylc⟩ := y
      simp only [] at HCT HD1 HF1 HNN HWS ⊢
      have q0 := hr1.cell (i := k * 2) (by omega)
      have q1 := hr1.cell (i := k * 2 + 1) (by omega)
      have r0 := hr1.frozen (k * 2)
      have r1 := hr1.frozen (k * 2 + 1)
      have HR1 : Hid _ := hr1
      clear hr1 hct hrd1 hfar1 hb1
      go_wp2_with fail
      go_roundw
      case rel =>
        have hl := HML.out
        refine ⟨k + 1, _, ms ++ [⟨yd, yls, yla, ylc⟩], by omega, by go_num, World.rowIs.set (World.rowIs.set HR1.out (k * 2) (.int .i64 yd)) (k * 2 + 1) (.slice yla yls.length ylc), by simp [hl], ?_, fun j x hj => ?_, ?_, ?_, fun i => if i ≤ k then rg i else w1.heap.size, by show _ < (if _ then _ else _); rw [if_pos (Nat.zero_le _)]; exact HG0.out, fun i => ?_, ?_, fun j x hj => ?_⟩
        · have h := HMC.out
          rw [List.map_append, h, List.take_add_one, GX.out, List.map_append]
          simp only [List.map_cons, List.map_nil, Option.toList_some]
          rw [HCT.out]
        · rw [List.getElem?_append] at hj
          split at hj
          · refine (((HMS.out j x hj).later HB1.out).set _ _).set _ _ |>.row (k := k) (fun i hi => ?_) (by omega)
            show (if _ then _ else _) = _
            rw [if_neg (by omega), if_neg (by omega)]
          · have hj2 : j - ms.length = 0 := by
              have := (List.getElem?_eq_some_iff.1 hj).1
              simp at this; exact this
            rw [hj2] at hj
            simp at hj
            subst hj
            have hjk : j = k := by omega
            subst hjk
            have hF : FarL (w.heap.size + 1) yla yls := HF1.out.mono (by omega)
            exact ⟨⟨by simp, by simp⟩, (HD1.out.set hF (by simp) _).set hF (by simp) _, hF, HNN.out⟩
        · exact ((HB.out.trans (HB1.out.mono HB.out.size)).setCell (Nat.le_refl _) _).setCell (Nat.le_refl _) _
        · have := HB1.out.size
          simp; omega
        · have h1 := HGU.out i
          have h2 := HGK.out
          have h3 := HB1.out.size
          show (if i ≤ k then rg i else w1.heap.size) ≤ (if i + 1 ≤ k then rg (i + 1) else w1.heap.size)
          by_cases c1 : i + 1 ≤ k
          · rw [if_pos c1, if_pos (by omega)]; exact h1
          · rw [if_neg c1]
            by_cases c2 : i ≤ k
            · have c3 : i = k := by omega
              rw [if_pos c2, c3]; omega
            · rw [if_neg c2]; exact Nat.le_refl _
        · show (if k + 1 ≤ k then rg (k + 1) else w1.heap.size) ≤ _
          rw [if_neg (by omega)]
          simp
        · have hz0 := HG0.out
          have hlow : ∀ i, w.heap.size < rg i := fun i => by
            induction i with
            | zero => exact hz0
            | succ i ih => exact Nat.lt_of_lt_of_le ih (HGU.out i)
          have main : WrS w1 (if j ≤ k then rg j else w1.heap.size) (if j + 1 ≤ k then rg (j + 1) else w1.heap.size) x ∧ w.heap.size < (if j ≤ k then rg j else w1.heap.size) := by
            rw [List.getElem?_append] at hj
            split at hj
            · rename_i hjl
              rw [hl] at hjl
              rw [if_pos (by omega), if_pos (by omega)]
              exact ⟨(HGW.out j x hj).later HB1.out, hlow j⟩
            · have hj2 : j - ms.length = 0 := by
                have := (List.getElem?_eq_some_iff.1 hj).1
                simp at this; exact this
              rw [hj2] at hj
              simp at hj
              subst hj
              have hjk : j = k := by omega
              subst hjk
              rw [if_pos (Nat.le_refl _), if_neg (by omega)]
              exact ⟨HWS.out.mono HGK.out, hlow j⟩
          exact (main.1.out (Out.setc _ _ _ _) (.inl main.2)).out (Out.setc _ _ _ _) (.inl main.2)
      case measure => simp [intOf]; omega
    · have e : k = xs.length := by omega
      have HM : Hid _ := hml
      have HC : Hid _ := hmc
      have HS : Hid _ := hms
      have HR : Hid _ := hrw
      have HB : Hid _ := hbel
      have HE : Hid _ := e
      clear hml hmc hms hrw hbel e hmk
      go_wp2_with fail
      go_ret
      refine ⟨ms, rfl, ?_, ⟨by rw [HM.out]; omega, .inr ⟨_, 0, rfl, fun i x hi => ?_⟩⟩, ⟨fun b o sp e => by cases e; exact Nat.le_refl _, fun x hx => ?_⟩, fun x hx => ?_, ⟨f, rg, HR.out, fun i x hi => ?_, HG0.out, HGU.out, by rw [← HE.out]; exact HGK.out, HGW.out⟩, HB.out⟩
      · have h := HC.out
        rw [HE.out, List.take_length] at h
        exact h
      · obtain ⟨⟨h0, h1⟩, h4, h5⟩ := HS.out i x hi
        have hik : i < k := by have := (List.getElem?_eq_some_iff.1 hi).1; rw [HM.out] at this; exact this
        have hct : ∃ y, xs[i]? = some y ∧ y.ct = x.ct := by
          have h := HC.out
          rw [HE.out, List.take_length] at h
          have h' : (ms.map Sg.ct)[i]? = (xs.map Sg.ct)[i]? := by rw [h]
          rw [List.getElem?_map, List.getElem?_map, hi, Option.map_some] at h'
          cases hy : xs[i]? with
          | none => rw [hy] at h'; cases h'
          | some y => rw [hy] at h'; simp at h'; exact ⟨y, rfl, h'.symm⟩
        obtain ⟨y, hy, hyx⟩ := hct
        obtain ⟨-, hn | ⟨b, o, -, hc⟩⟩ := hr
        · subst hn; simp at hy
        obtain ⟨-, -, l3⟩ := hc i y hy
        have e1 : y.d = x.d := congrArg Sc.d hyx
        rw [e1] at l3
        refine ⟨⟨?_, ?_⟩, h4, l3⟩
        · rw [Nat.zero_add]; exact (World.rowIs.cell HR.out (by omega)).trans (congrArg some h0)
        · rw [Nat.zero_add]; exact (World.rowIs.cell HR.out (by omega)).trans (congrArg some h1)
      · obtain ⟨i, hi⟩ := List.getElem?_of_mem hx
        obtain ⟨-, -, h5, -⟩ := HS.out i x hi
        exact h5.mono (Nat.le_succ _)
      · obtain ⟨i, hi⟩ := List.getElem?_of_mem hx
        exact (HS.out i x hi).2.2.2
      · obtain ⟨⟨h0, h1⟩, -⟩ := HS.out i x hi
        exact ⟨⟨_, h0⟩, h1⟩

set_option maxHeartbeats 2000000 in
theorem toSession_own (da sa : Option Addr) (dc sc n : Nat) (nx : Int) (ds : List Dc) (xs : List Sg) (w : World) (h1 : RdD w da ds) (h2 : RdS w sa xs) (hn : xs.length = n) :
    Calls Tryz.prog 7 #[.agg #[.slice da ds.length dc, .slice sa n sc, .int .i64 nx]] w fun e w' => ∃ (g1 g2 : Nat) (ms : List Sg), e = .returned (.agg #[.slice (some ⟨g1, 0, none⟩) ds.length ds.length, .slice (some ⟨g2, 0, none⟩) n n, .int .i64 nx]) ∧ ms.map Sg.ct = xs.map Sg.ct ∧ RdD w' (some ⟨g1, 0, none⟩) ds ∧ RdS w' (some ⟨g2, 0, none⟩) ms ∧ (∀ x ∈ ms, x.la ≠ none) ∧ Below w.heap.size w w' ∧ w.heap.size ≤ g1 ∧ g1 < g2 ∧ (∃ f, w'.rowIs g1 50 (ds.length * 2) f) ∧ ∃ f rg, RowS w' g2 w'.heap.size n ms f rg := by
  have H1 : Hid (∀ u, Below w.heap.size w u → Calls Tryz.prog 25 #[.slice da ds.length dc] u fun e w' => ∃ g, e = .returned (.slice (some ⟨g, 0, none⟩) ds.length ds.length) ∧ u.heap.size ≤ g ∧ RdD w' (some ⟨g, 0, none⟩) ds ∧ (∃ f, w'.rowIs g 50 (ds.length * 2) f) ∧ Below u.heap.size u w') :=
    fun u hu => (toDeclS_row da dc ds u (h1.later hu)).mono fun e w' ⟨p1, p2, p3, p4⟩ => ⟨_, p1, Nat.le_refl _, p2, p3, p4⟩
  have H2 : Hid (∀ u, Below w.heap.size w u → Calls Tryz.prog 26 #[.slice sa n sc] u fun e w' => ∃ g ms, e = .returned (.slice (some ⟨g, 0, none⟩) n n) ∧ ms.map Sg.ct = xs.map Sg.ct ∧ RdS w' (some ⟨g, 0, none⟩) ms ∧ FarS u.heap.size (some ⟨g, 0, none⟩) ms ∧ (∀ x ∈ ms, x.la ≠ none) ∧ (u.heap.size ≤ g ∧ ∃ f rg, RowS w' g w'.heap.size n ms f rg) ∧ Below u.heap.size u w') :=
    fun u hu => by
      have := toScopeS_own sa sc xs u (h2.later hu)
      rw [hn] at this
      exact this.mono fun e w' ⟨ms, p1, p2, p3, p4, p5, p6, p7⟩ => ⟨_, ms, p1, p2, p3, p4, p5, ⟨Nat.le_refl _, p6⟩, p7⟩
  have HNX := kide hn
  clear h1 h2 hn
  generalize ds.length = m at *
  have h3 : Below w.heap.size w (((w.alloc (Obj.cells #[Value.slice da m dc, Value.slice sa n sc, Value.int .i64 nx] 25)).alloc (Obj.cells #[Value.slice none 0 0, Value.slice none 0 0, Value.int .i64 0] 30)).alloc (Obj.cells #[Value.slice none 0 0, Value.slice none 0 0, Value.int .i64 0] 30)) := (((Below.refl _ _).alloc (Nat.le_refl _) _).alloc (by simp) _).alloc (by simp; omega) _
  have B0 := kide h3
  clear h3
  go_enter Tryz.func7, Tryz.ntmps7
  go_wp2_with fail
  refine Calls.mono (H1.out _ B0.out) ?_
  rintro e w1 ⟨g1, rfl, hg1, r1, ⟨fd, hfd⟩, hb1⟩
  have HLT := kide (rowIs_lt hfd)
  have HFD := kide hfd
  clear hfd
  have hz1 : w.heap.size + 3 ≤ w1.heap.size := by have := hb1.size; simp at this; omega
  have hG1 : w.heap.size + 3 ≤ g1 := by simp at hg1; omega
  have B1 := kide (B0.out.trans (hb1.mono B0.out.size))
  have R1 := kide r1
  have p1 : w1.cell? ⟨w.heap.size, 1, none⟩ = some (Value.slice sa n sc) := by rw [kcell hb1 _ _ (by first | (simp; done) | (simp; omega))]; simp [go_sem]
  have p2 : w1.cell? ⟨w.heap.size, 2, none⟩ = some (Value.int .i64 nx) := by rw [kcell hb1 _ _ (by first | (simp; done) | (simp; omega))]; simp [go_sem]
  have qa0 : w1.cell? ⟨w.heap.size + 1, 0, none⟩ = some (Value.slice none 0 0) := by rw [kcell hb1 _ _ (by first | (simp; done) | (simp; omega))]; simp [go_sem]
  have fa0 : w1.frozen? ⟨w.heap.size + 1, 0, none⟩ = false := by rw [kfrozL hb1 _ _ (by first | (simp; done) | (simp; omega))]; simp [go_sem]
  have qa1 : w1.cell? ⟨w.heap.size + 1, 1, none⟩ = some (Value.slice none 0 0) := by rw [kcell hb1 _ _ (by first | (simp; done) | (simp; omega))]; simp [go_sem]
  have fa1 : w1.frozen? ⟨w.heap.size + 1, 1, none⟩ = false := by rw [kfrozL hb1 _ _ (by first | (simp; done) | (simp; omega))]; simp [go_sem]
  have qa2 : w1.cell? ⟨w.heap.size + 1, 2, none⟩ = some (Value.int .i64 0) := by rw [kcell hb1 _ _ (by first | (simp; done) | (simp; omega))]; simp [go_sem]
  have fa2 : w1.frozen? ⟨w.heap.size + 1, 2, none⟩ = false := by rw [kfrozL hb1 _ _ (by first | (simp; done) | (simp; omega))]; simp [go_sem]
  have qb0 : w1.cell? ⟨w.heap.size + 1 + 1, 0, none⟩ = some (Value.slice none 0 0) := by rw [kcell hb1 _ _ (by first | (simp; done) | (simp; omega))]; simp [go_sem]
  have fb0 : w1.frozen? ⟨w.heap.size + 1 + 1, 0, none⟩ = false := by rw [kfrozL hb1 _ _ (by first | (simp; done) | (simp; omega))]; simp [go_sem]
  have qb1 : w1.cell? ⟨w.heap.size + 1 + 1, 1, none⟩ = some (Value.slice none 0 0) := by rw [kcell hb1 _ _ (by first | (simp; done) | (simp; omega))]; simp [go_sem]
  have fb1 : w1.frozen? ⟨w.heap.size + 1 + 1, 1, none⟩ = false := by rw [kfrozL hb1 _ _ (by first | (simp; done) | (simp; omega))]; simp [go_sem]
  have qb2 : w1.cell? ⟨w.heap.size + 1 + 1, 2, none⟩ = some (Value.int .i64 0) := by rw [kcell hb1 _ _ (by first | (simp; done) | (simp; omega))]; simp [go_sem]
  have fb2 : w1.frozen? ⟨w.heap.size + 1 + 1, 2, none⟩ = false := by rw [kfrozL hb1 _ _ (by first | (simp; done) | (simp; omega))]; simp [go_sem]
  have up1 : (w1.setCell ⟨w.heap.size + 1 + 1, 0, none⟩ (Value.slice (some ⟨g1, 0, none⟩) m m)).cell? ⟨w.heap.size, 1, none⟩ = some (Value.slice sa n sc) := by simp [go_sem, p1, p2, qa0, fa0, qa1, fa1, qa2, fa2, qb0, fb0, qb1, fb1, qb2, fb2]
  have up2 : (w1.setCell ⟨w.heap.size + 1 + 1, 0, none⟩ (Value.slice (some ⟨g1, 0, none⟩) m m)).cell? ⟨w.heap.size, 2, none⟩ = some (Value.int .i64 nx) := by simp [go_sem, p1, p2, qa0, fa0, qa1, fa1, qa2, fa2, qb0, fb0, qb1, fb1, qb2, fb2]
  have uqa0 : (w1.setCell ⟨w.heap.size + 1 + 1, 0, none⟩ (Value.slice (some ⟨g1, 0, none⟩) m m)).cell? ⟨w.heap.size + 1, 0, none⟩ = some (Value.slice none 0 0) := by simp [go_sem, p1, p2, qa0, fa0, qa1, fa1, qa2, fa2, qb0, fb0, qb1, fb1, qb2, fb2]
  have ufa0 : (w1.setCell ⟨w.heap.size + 1 + 1, 0, none⟩ (Value.slice (some ⟨g1, 0, none⟩) m m)).frozen? ⟨w.heap.size + 1, 0, none⟩ = false := by simp [go_sem, p1, p2, qa0, fa0, qa1, fa1, qa2, fa2, qb0, fb0, qb1, fb1, qb2, fb2]
  have uqa1 : (w1.setCell ⟨w.heap.size + 1 + 1, 0, none⟩ (Value.slice (some ⟨g1, 0, none⟩) m m)).cell? ⟨w.heap.size + 1, 1, none⟩ = some (Value.slice none 0 0) := by simp [go_sem, p1, p2, qa0, fa0, qa1, fa1, qa2, fa2, qb0, fb0, qb1, fb1, qb2, fb2]
  have ufa1 : (w1.setCell ⟨w.heap.size + 1 + 1, 0, none⟩ (Value.slice (some ⟨g1, 0, none⟩) m m)).frozen? ⟨w.heap.size + 1, 1, none⟩ = false := by simp [go_sem, p1, p2, qa0, fa0, qa1, fa1, qa2, fa2, qb0, fb0, qb1, fb1, qb2, fb2]
  have uqa2 : (w1.setCell ⟨w.heap.size + 1 + 1, 0, none⟩ (Value.slice (some ⟨g1, 0, none⟩) m m)).cell? ⟨w.heap.size + 1, 2, none⟩ = some (Value.int .i64 0) := by simp [go_sem, p1, p2, qa0, fa0, qa1, fa1, qa2, fa2, qb0, fb0, qb1, fb1, qb2, fb2]
  have ufa2 : (w1.setCell ⟨w.heap.size + 1 + 1, 0, none⟩ (Value.slice (some ⟨g1, 0, none⟩) m m)).frozen? ⟨w.heap.size + 1, 2, none⟩ = false := by simp [go_sem, p1, p2, qa0, fa0, qa1, fa1, qa2, fa2, qb0, fb0, qb1, fb1, qb2, fb2]
  have uqb0 : (w1.setCell ⟨w.heap.size + 1 + 1, 0, none⟩ (Value.slice (some ⟨g1, 0, none⟩) m m)).cell? ⟨w.heap.size + 1 + 1, 0, none⟩ = some (Value.slice (some ⟨g1, 0, none⟩) m m) := by simp [go_sem, p1, p2, qa0, fa0, qa1, fa1, qa2, fa2, qb0, fb0, qb1, fb1, qb2, fb2]
  have ufb0 : (w1.setCell ⟨w.heap.size + 1 + 1, 0, none⟩ (Value.slice (some ⟨g1, 0, none⟩) m m)).frozen? ⟨w.heap.size + 1 + 1, 0, none⟩ = false := by simp [go_sem, p1, p2, qa0, fa0, qa1, fa1, qa2, fa2, qb0, fb0, qb1, fb1, qb2, fb2]
  have uqb1 : (w1.setCell ⟨w.heap.size + 1 + 1, 0, none⟩ (Value.slice (some ⟨g1, 0, none⟩) m m)).cell? ⟨w.heap.size + 1 + 1, 1, none⟩ = some (Value.slice none 0 0) := by simp [go_sem, p1, p2, qa0, fa0, qa1, fa1, qa2, fa2, qb0, fb0, qb1, fb1, qb2, fb2]
  have ufb1 : (w1.setCell ⟨w.heap.size + 1 + 1, 0, none⟩ (Value.slice (some ⟨g1, 0, none⟩) m m)).frozen? ⟨w.heap.size + 1 + 1, 1, none⟩ = false := by simp [go_sem, p1, p2, qa0, fa0, qa1, fa1, qa2, fa2, qb0, fb0, qb1, fb1, qb2, fb2]
  have uqb2 : (w1.setCell ⟨w.heap.size + 1 + 1, 0, none⟩ (Value.slice (some ⟨g1, 0, none⟩) m m)).cell? ⟨w.heap.size + 1 + 1, 2, none⟩ = some (Value.int .i64 0) := by simp [go_sem, p1, p2, qa0, fa0, qa1, fa1, qa2, fa2, qb0, fb0, qb1, fb1, qb2, fb2]
  have ufb2 : (w1.setCell ⟨w.heap.size + 1 + 1, 0, none⟩ (Value.slice (some ⟨g1, 0, none⟩) m m)).frozen? ⟨w.heap.size + 1 + 1, 2, none⟩ = false := by simp [go_sem, p1, p2, qa0, fa0, qa1, fa1, qa2, fa2, qb0, fb0, qb1, fb1, qb2, fb2]
  have BW : Hid (Below w.heap.size w (w1.setCell ⟨w.heap.size + 1 + 1, 0, none⟩ (Value.slice (some ⟨g1, 0, none⟩) m m))) := B1.out.setCell (by first | (simp; done) | (simp; omega)) _
  have RW : Hid (RdD (w1.setCell ⟨w.heap.size + 1 + 1, 0, none⟩ (Value.slice (some ⟨g1, 0, none⟩) m m)) (some ⟨g1, 0, none⟩) ds) := R1.out.setp (fun b o sp e => by cases e; simp; omega) _
  have HFW : Hid ((w1.setCell ⟨w.heap.size + 1 + 1, 0, none⟩ (Value.slice (some ⟨g1, 0, none⟩) m m)).rowIs g1 50 (m * 2) fd) := rowIs_out HFD.out (Out.setc _ _ _ _) (.inr (by omega))
  have HLW : Hid (g1 < (w1.setCell ⟨w.heap.size + 1 + 1, 0, none⟩ (Value.slice (some ⟨g1, 0, none⟩) m m)).heap.size) := by show _ < _; have := HLT.out; simpa using this
  have hzW : w.heap.size + 3 ≤ (w1.setCell ⟨w.heap.size + 1 + 1, 0, none⟩ (Value.slice (some ⟨g1, 0, none⟩) m m)).heap.size := by simp; omega
  clear hb1 r1 hg1 H1 B1 R1 B0
  go_wp2_with fail
  clear p1 p2 qa0 fa0 qa1 fa1 qa2 fa2 qb0 fb0 qb1 fb1 qb2 fb2
  generalize (w1.setCell ⟨w.heap.size + 1 + 1, 0, none⟩ (Value.slice (some ⟨g1, 0, none⟩) m m)) = W1 at *
  refine Calls.mono (H2.out W1 BW.out) ?_
  rintro e w2 ⟨g2, m2, rfl, hm2, r2, f2, hnn, ⟨hg2, fs, rgs, hrs⟩, hb2⟩
  have HRS := kide hrs
  have HG2 := kide hg2
  have HFD2 := kide (rowIs_later HFW.out hb2)
  clear hrs hg2
  have NN := kide hnn
  have BX := kide (BW.out.trans (hb2.mono BW.out.size))
  have RX := kide (RW.out.later hb2)
  have R2 := kide r2
  have F2 : Hid (FarS (w.heap.size + 3) (some ⟨g2, 0, none⟩) m2) := f2.mono hzW
  have M2 := kide hm2
  have HML : Hid (m2.length = n) := by show _ = _; have := congrArg List.length hm2; simp at this; rw [this]; exact HNX.out
  have hz2 : w.heap.size + 3 ≤ w2.heap.size := Nat.le_trans hzW hb2.size
  have vp2 := (kcell hb2 w.heap.size 2 (by omega)).trans up2
  have vqa0 := (kcell hb2 (w.heap.size + 1) 0 (by omega)).trans uqa0
  have vfa0 := (kfrozL hb2 (w.heap.size + 1) 0 (by omega)).trans ufa0
  have vqa1 := (kcell hb2 (w.heap.size + 1) 1 (by omega)).trans uqa1
  have vfa1 := (kfrozL hb2 (w.heap.size + 1) 1 (by omega)).trans ufa1
  have vqa2 := (kcell hb2 (w.heap.size + 1) 2 (by omega)).trans uqa2
  have vfa2 := (kfrozL hb2 (w.heap.size + 1) 2 (by omega)).trans ufa2
  have vqb0 := (kcell hb2 (w.heap.size + 1 + 1) 0 (by omega)).trans uqb0
  have vfb0 := (kfrozL hb2 (w.heap.size + 1 + 1) 0 (by omega)).trans ufb0
  have vqb1 := (kcell hb2 (w.heap.size + 1 + 1) 1 (by omega)).trans uqb1
  have vfb1 := (kfrozL hb2 (w.heap.size + 1 + 1) 1 (by omega)).trans ufb1
  have vqb2 := (kcell hb2 (w.heap.size + 1 + 1) 2 (by omega)).trans uqb2
  have vfb2 := (kfrozL hb2 (w.heap.size + 1 + 1) 2 (by omega)).trans ufb2
  clear hb2 r2 f2 hm2 hnn up1 up2 uqa0 ufa0 uqa1 ufa1 uqa2 ufa2 uqb0 ufb0 uqb1 ufb1 uqb2 ufb2 BW RW H2
  go_wp2_with fail
  refine bodyPost_ret (v := .agg #[.slice (some ⟨g1, 0, none⟩) m m, .slice (some ⟨g2, 0, none⟩) n n, .int .i64 nx]) (by simp [results, Tryz.results7, go_sem, vp2, vqa0, vfa0, vqa1, vfa1, vqa2, vfa2, vqb0, vfb0, vqb1, vfb1, vqb2, vfb2]) rfl ?_
  have hhS : ∀ (u : World) (b i : Nat) (v : Value), b < w.heap.size + 3 → RowS u g2 w2.heap.size n m2 fs rgs → RowS (u.setCell ⟨b, i, none⟩ v) g2 w2.heap.size n m2 fs rgs := fun u b i v hb h => h.out HML.out (Out.setc u b i v) (.inl (by have := HG2.out; omega))
  have hhD : ∀ (u : World) (b i : Nat) (v : Value), b < w.heap.size + 3 → u.rowIs g1 50 (m * 2) fd → (u.setCell ⟨b, i, none⟩ v).rowIs g1 50 (m * 2) fd := fun u b i v hb h => rowIs_out h (Out.setc u b i v) (.inr (by omega))
  refine ⟨g1, g2, m2, rfl, M2.out, ?_, ?_, NN.out, ?_, by omega, Nat.lt_of_lt_of_le HLW.out HG2.out, ⟨fd, ?_⟩, fs, rgs, ?_⟩
  · repeat (refine RdD.setp ?_ (fun b o sp e => by cases e; simp; omega) _)
    exact RX.out
  · repeat (refine RdS.set ?_ F2.out (by first | (simp; done) | (simp; omega)) _)
    exact R2.out
  · repeat (refine Below.setCell ?_ (by first | (simp; done) | (simp; omega)) _)
    exact BX.out
  · repeat (refine hhD _ _ _ _ (by omega) ?_)
    exact HFD2.out
  · simp only [World.size_setCell]
    repeat (refine hhS _ _ _ _ (by omega) ?_)
    exact HRS.out

end Go.Proofs.YtofdkdaehhpgbaaGreatDoor
