/- Graphs copied, so that they may be marked. -/
import Derived.Test.YthoiajpbpoglfaaZKAR
import Derived.Test.YthoiajpbpoglfaaZKAC
namespace Go.Proofs.Ythoiajpbpoglfaa
set_option linter.unusedVariables false
set_option linter.unusedSimpArgs false
open Go.RowKit

/-- A row of n bars in a block of bars. -/
def TyB (w : World) (lo hi : Nat) (a : Option Addr) (n : Nat) : Prop := n ≤ 1048576 ∧ ∃ h cur, a = some ⟨h, 0, none⟩ ∧ lo ≤ h ∧ h < hi ∧ w.heap[h]? = some (.cells cur 86 (0, 0)) ∧ ∀ i, i < n → (∃ x : Int, cur[i * 4]? = some (.int .i64 x)) ∧ (∃ x : Int, cur[i * 4 + 1]? = some (.int .i64 x)) ∧ (∃ x : Int, cur[i * 4 + 2]? = some (.int .i64 x)) ∧ ∃ a' m c, cur[i * 4 + 3]? = some (.slice a' m c) ∧ TyW w lo hi a' m
theorem TyB.shp {w w' : World} {lo hi n : Nat} {a : Option Addr} (h : TyB w lo hi a n) (hs : Shp w w') : TyB w' lo hi a n := by
  obtain ⟨h0, g, cur, e, h1, h2, h3, h4⟩ := h
  obtain ⟨cur', e', r⟩ := hs g cur _ h3
  refine ⟨h0, g, cur', e, h1, h2, e', fun i hi => ?_⟩
  obtain ⟨i1, i2, i3, a', m, c, i4, i5⟩ := h4 i hi
  obtain ⟨v', j1, j2⟩ := r _ _ i4
  exact ⟨keep_int r i1, keep_int r i2, keep_int r i3, a', m, c, by rw [← j2.slice]; exact j1, i5.shp hs⟩
def RetM (w : World) (lo hi M : Nat) (e : Ending) (w' : World) : Prop := ∃ k' : Nat, e = .returned (.int .i64 (k' : Int)) ∧ k' ≤ M ∧ Shp w w' ∧ Out lo hi w w'

set_option maxHeartbeats 2000000 in
theorem markB_ty (lo hi c n k : Nat) (a : Option Addr) (w : World) (h : TyB w lo hi a n) (hk : k + n * 1048579 ≤ 8000000000000000000) :
    Calls Try.prog 42 #[.slice a n c, .int .i64 (k : Int)] w (RetM w lo hi (k + n * 1048579)) := by
  have H := kide h
  obtain ⟨hn, g, cur, rfl, hl, hh, -⟩ := h
  go_enter Try.func42, Try.ntmps42
  go_wp2_with fail
  go_loopw [1, 5] (fun q i wr => ∃ (j K : Nat), j ≤ n ∧ i = .int .i64 (j : Int) ∧ q = .int .i64 (K : Int) ∧ K ≤ k + j * 1048579 ∧ Shp w wr ∧ Out lo hi w wr) (fun _ i _ => n - (intOf i).toNat)
  case atStart => exact ⟨0, k, Nat.zero_le _, rfl, rfl, by omega, Shp.refl _, Out.refl _ _ _⟩
  case round =>
    obtain ⟨j, K, hj, rfl, rfl, hK, hs, ho⟩ := hrel
    have HS := kide hs
    have HO := kide ho
    by_cases hlt : j < n
    · obtain ⟨-, g', cu, e', -, -, hg, hc⟩ := H.out.shp hs
      cases e'
      obtain ⟨⟨x0, q0⟩, ⟨x1, q1⟩, ⟨x2, q2⟩, a', m, c', q3, htw⟩ := hc j hlt
      have cell := fun o => cell_of_row wr g o cu _ _ hg
      have p0 : wr.cell? ⟨g, j * 4, none⟩ = some (.int .i64 x0) := by rw [cell]; exact q0
      have p1 : wr.cell? ⟨g, j * 4 + 1, none⟩ = some (.int .i64 x1) := by rw [cell]; exact q1
      have p2 : wr.cell? ⟨g, j * 4 + 2, none⟩ = some (.int .i64 x2) := by rw [cell]; exact q2
      have p3 : wr.cell? ⟨g, j * 4 + 3, none⟩ = some (.slice a' m c') := by rw [cell]; exact q3
      have r0 := frozen_of_row wr g (j * 4) _ _ hg
      have r1 := frozen_of_row wr g (j * 4 + 1) _ _ hg
      have r2 := frozen_of_row wr g (j * 4 + 2) _ _ hg
      have hm := htw.1
      have hKb : K ≤ 8000000000000000000 := by have : j * 1048579 ≤ n * 1048579 := Nat.mul_le_mul_right _ hj; omega
      have i0 : (j : Int) < (n : Int) := by omega
      have s1 := Shp.set p0 (K : Int)
      have p1' : (wr.setCell ⟨g, j * 4, none⟩ (.int .i64 (K : Int))).cell? ⟨g, j * 4 + 1, none⟩ = some (.int .i64 x1) := by rw [cell_of_row _ g _ _ _ _ (heap_setCell_same wr g (j * 4) _ _ _ hg), Array.getElem?_setIfInBounds_ne (by omega)]; exact q1
      have s2 := s1.trans (Shp.set p1' ((K : Int) + 1))
      have hg2 := heap_setCell_same _ g (j * 4 + 1) _ _ (.int .i64 ((K : Int) + 1)) (heap_setCell_same wr g (j * 4) _ _ (.int .i64 (K : Int)) hg)
      have p2' : ((wr.setCell ⟨g, j * 4, none⟩ (.int .i64 (K : Int))).setCell ⟨g, j * 4 + 1, none⟩ (.int .i64 ((K : Int) + 1))).cell? ⟨g, j * 4 + 2, none⟩ = some (.int .i64 x2) := by rw [cell_of_row _ g _ _ _ _ hg2, Array.getElem?_setIfInBounds_ne (by omega), Array.getElem?_setIfInBounds_ne (by omega)]; exact q2
      have s3 := s2.trans (Shp.set p2' ((K : Int) + 1 + 1))
      have S3 := kide (hs.trans s3)
      have O3 := kide (((ho.set hl hh (.int .i64 (K : Int)) (o := j * 4)).set hl hh (.int .i64 ((K : Int) + 1)) (o := j * 4 + 1)).set hl hh (.int .i64 ((K : Int) + 1 + 1)) (o := j * 4 + 2))
      have HT := kide (htw.shp s3)
      have hM := markU_ty lo hi c' m (K + 3) a' _ HT.out (by omega)
      rw [show ((K + 3 : Nat) : Int) = (K : Int) + 1 + 1 + 1 by omega] at hM
      have HM := kide hM
      clear hc hs ho q0 q1 q2 q3 cell s1 s2 s3 p1' p2' hg2 htw hM HT
      go_wp2_with fail
      refine Calls.mono HM.out ?_
      rintro e w5 ⟨rfl, hs5, ho5⟩
      have S5 := kide (S3.out.trans hs5)
      have O5 := kide (O3.out.trans ho5)
      clear hs5 ho5 HM S3 O3
      go_wp2_with fail
      go_roundw
      case rel => exact ⟨j + 1, K + 3 + m, by omega, by go_num, rfl, by omega, S5.out, O5.out⟩
      case measure => simp [intOf]; omega
    · have e : j = n := by omega
      subst e
      clear hs ho
      go_wp2_with fail
      go_ret
      exact ⟨K, rfl, hK, HS.out, HO.out⟩

theorem grow_set {w wr : World} {g : Nat} (h : w.grownBy wr (some g)) (i : Nat) (v : Value) : w.grownBy (wr.setCell ⟨g, i, none⟩ v) (some g) :=
  ⟨h.os, h.tape, h.output, by simpa using h.size, fun k hk hne => by rw [heap_setCell_other wr ⟨g, i, none⟩ k v (fun e => hne (by simp [e]))]; exact h.block k hk hne⟩

theorem markInt64S_big (g c n k : Nat) (zs : List Int) (w : World) (ho : OwnI w g zs) (hz : zs.length = n) (hn : n ≤ 1048576) (hk : k + n ≤ 9000000000000000000) :
    Calls Try.prog 41 #[.slice (some ⟨g, 0, none⟩) n c, .int .i64 (k : Int)] w fun e w' => e = .returned (.int .i64 ((k + n : Nat) : Int)) ∧ (∃ zs', OwnI w' g zs' ∧ zs'.length = n) ∧ w.grownBy w' (some g) := by
  go_enter Try.func41, Try.ntmps41
  go_wp2_with fail
  go_loopw [1, 5] (fun q i wr => ∃ (j : Nat) (ys : List Int), j ≤ n ∧ i = .int .i64 (j : Int) ∧ q = .int .i64 ((k + j : Nat) : Int) ∧ OwnI wr g ys ∧ ys.length = n ∧ w.grownBy wr (some g)) (fun _ i _ => n - (intOf i).toNat)
  case atStart => exact ⟨0, zs, Nat.zero_le _, rfl, by simp, ho, hz, ⟨rfl, rfl, rfl, Nat.le_refl _, fun _ _ _ => rfl⟩⟩
  case round =>
    obtain ⟨j, ys, hj, rfl, rfl, hown, hl, hg⟩ := hrel
    have HG := kide hg
    by_cases hlt : j < n
    · have q0 := hown.cell (i := j) (by omega)
      have r0 := hown.free j
      generalize ys.getD j 0 = y0 at q0
      generalize hK : k + j = K at *
      have HK := kide hK
      have hKb : K ≤ 9000000000000000000 := by omega
      have i0 : (j : Int) < (n : Int) := by omega
      have HO := kide hown
      have HL := kide hl
      clear hown hl hg hK
      go_wp2_with fail
      go_roundw
      case rel => exact ⟨j + 1, ys.set j (K : Int), by omega, by go_num, by rw [show k + (j + 1) = K + 1 by have := HK.out; omega]; first | go_num | (simp; done), HO.out.put j _, by rw [List.length_set]; exact HL.out, grow_set HG.out j _⟩
      case measure => simp [intOf]; omega
    · have e : j = n := by omega
      subst e
      have HO := kide hown
      have HL := kide hl
      clear hown hl hg
      go_wp2_with fail
      go_ret
      exact ⟨rfl, ⟨ys, HO.out, HL.out⟩, HG.out⟩

/-- A row of numbers, in a block from lo on below hi. -/
def Ti (w : World) (lo hi : Nat) (a : Option Addr) (n : Nat) : Prop := ∃ g zs, a = some ⟨g, 0, none⟩ ∧ lo ≤ g ∧ g < hi ∧ OwnI w g zs ∧ zs.length = n
theorem Ti.out {w w' : World} {lo hi B1 B2 n : Nat} {a : Option Addr} (h : Ti w lo hi a n) (ho : Out B1 B2 w w') (hd : hi ≤ B1 ∨ B2 ≤ lo) : Ti w' lo hi a n := by
  obtain ⟨g, zs, e, h1, h2, h3, h4⟩ := h
  refine ⟨g, zs, e, h1, h2, ?_, h4⟩
  unfold OwnI
  rw [ho.2.2.2.2 g h3.lt (by omega)]
  exact h3
theorem toInt64S_ti (a : Option Addr) (c n : Nat) (xs : List Int) (w : World) (hr : RdI w a xs) (hn : xs.length = n) :
    Calls Try.prog 31 #[.slice a n c] w fun e w' => e = .returned (.slice (some ⟨w.heap.size, 0, none⟩) n n) ∧ RdI w' (some ⟨w.heap.size, 0, none⟩) xs ∧ Ti w' w.heap.size w'.heap.size (some ⟨w.heap.size, 0, none⟩) n ∧ Below w.heap.size w w' := by
  subst hn
  refine (toInt64S_any a c xs w hr).mono ?_
  rintro e w' ⟨rfl, ho, hb⟩
  exact ⟨rfl, ho.rd hr.1 hr.2.1, ⟨_, xs, rfl, Nat.le_refl _, ho.lt, ho, rfl⟩, hb⟩
theorem markInt64S_ti (lo hi c n k : Nat) (a : Option Addr) (w : World) (h : Ti w lo hi a n) (hn : n ≤ 1048576) (hk : k ≤ 8000000000000000000) :
    Calls Try.prog 41 #[.slice a n c, .int .i64 (k : Int)] w fun e w' => e = .returned (.int .i64 ((k + n : Nat) : Int)) ∧ Out lo hi w w' := by
  obtain ⟨g, zs, rfl, h1, h2, h3, h4⟩ := h
  refine (markInt64S_big g c n k zs w h3 h4 hn (by omega)).mono ?_
  intro e w' h
  exact ⟨h.1, Out.grown h.2.2 h1 h2⟩

theorem rowIs_parts {w : World} {g N : Nat} {t : TypeId} {f : Nat → Value} (h : w.rowIs g t N f) : ∃ cc, w.heap[g]? = some (.cells cc t (0, 0)) ∧ cc.size = N ∧ ∀ i, i < N → cc[i]? = some (f i) := by
  obtain ⟨cc, hh, r1, r2⟩ := h
  exact ⟨cc, hh, r1, fun i hi => r2 i hi⟩

theorem TyW.far {w w' : World} {lo hi n : Nat} {a : Option Addr} (h : TyW w lo hi a n) (hk : ∀ b, lo ≤ b → b < hi → w'.heap[b]? = w.heap[b]?) : TyW w' lo hi a n := by
  obtain ⟨h0, g, cur, e, h1, h2, h3, h4⟩ := h
  exact ⟨h0, g, cur, e, h1, h2, (hk g h1 h2).trans h3, h4⟩
theorem TyB.far {w w' : World} {lo hi n : Nat} {a : Option Addr} (h : TyB w lo hi a n) (hk : ∀ b, lo ≤ b → b < hi → w'.heap[b]? = w.heap[b]?) : TyB w' lo hi a n := by
  obtain ⟨h0, g, cur, e, h1, h2, h3, h4⟩ := h
  refine ⟨h0, g, cur, e, h1, h2, (hk g h1 h2).trans h3, fun i hi => ?_⟩
  obtain ⟨i1, i2, i3, a', m, c, i4, i5⟩ := h4 i hi
  exact ⟨i1, i2, i3, a', m, c, i4, i5.far hk⟩
theorem TyW.mono {w : World} {lo hi lo' hi' n : Nat} {a : Option Addr} (h : TyW w lo hi a n) (h1 : lo' ≤ lo) (h2 : hi ≤ hi') : TyW w lo' hi' a n := by
  obtain ⟨h0, g, cur, e, k1, k2, h3, h4⟩ := h
  exact ⟨h0, g, cur, e, by omega, by omega, h3, h4⟩
theorem TyB.mono {w : World} {lo hi lo' hi' n : Nat} {a : Option Addr} (h : TyB w lo hi a n) (h1 : lo' ≤ lo) (h2 : hi ≤ hi') : TyB w lo' hi' a n := by
  obtain ⟨h0, g, cur, e, k1, k2, h3, h4⟩ := h
  refine ⟨h0, g, cur, e, by omega, by omega, h3, fun i hi => ?_⟩
  obtain ⟨i1, i2, i3, a', m, c, i4, i5⟩ := h4 i hi
  exact ⟨i1, i2, i3, a', m, c, i4, i5.mono h1 h2⟩

set_option maxHeartbeats 1000000 in
theorem toBarS_ty (a : Option Addr) (c : Nat) (xs : List Yg) (w : World) (hr : RdBr w a xs) :
    Calls Try.prog 32 #[.slice a xs.length c] w fun e w' => ∃ ms : List Yg, e = .returned (.slice (some ⟨w.heap.size, 0, none⟩) xs.length xs.length) ∧ ms.map Yg.ct = xs.map Yg.ct ∧ RdBr w' (some ⟨w.heap.size, 0, none⟩) ms ∧ FarB w.heap.size (some ⟨w.heap.size, 0, none⟩) ms ∧ TyB w' w.heap.size w'.heap.size (some ⟨w.heap.size, 0, none⟩) xs.length ∧ (∀ x ∈ ms, x.ct.ws.length ≤ x.c) ∧ Below w.heap.size w w' := by
  have hlen := hr.1
  have hmk := make_bars xs.length hlen
  go_enter Try.func32, Try.ntmps32
  go_wp2_with fail
  have hrow := krow (heap_alloc_new w (.cells (madeCells #[.int .i64 0, .int .i64 0, .int .i64 0, .slice none 0 0] (xs.length * 4)) 86))
  rw [size_madeCells] at hrow
  have hb0 : Below w.heap.size w (w.alloc (.cells (madeCells #[.int .i64 0, .int .i64 0, .int .i64 0, .slice none 0 0] (xs.length * 4)) 86)) := (Below.refl _ _).alloc (Nat.le_refl _) _
  have hs0 : w.heap.size < (w.alloc (.cells (madeCells #[.int .i64 0, .int .i64 0, .int .i64 0, .slice none 0 0] (xs.length * 4)) 86)).heap.size := by simp
  generalize (w.alloc (.cells (madeCells #[.int .i64 0, .int .i64 0, .int .i64 0, .slice none 0 0] (xs.length * 4)) 86)) = w0 at *
  go_loopw [4] (fun i wr => ∃ (k : Nat) (f : Nat → Value) (ms : List Yg), k ≤ xs.length ∧ i = .int .i64 k ∧ wr.rowIs w.heap.size 86 (xs.length * 4) f ∧ ms.length = k ∧ ms.map Yg.ct = (xs.take k).map Yg.ct ∧ (∀ j x, ms[j]? = some x → YgOwn wr w.heap.size f j x) ∧ Below w.heap.size w wr ∧ w.heap.size < wr.heap.size ∧ (∀ x ∈ ms, x.ct.ws.length ≤ x.c)) (fun i _ => xs.length - (intOf i).toNat)
  case atStart => exact ⟨0, _, [], Nat.zero_le _, rfl, hrow, rfl, rfl, fun j x h => by simp at h, hb0, hs0, by simp⟩
  case round =>
    obtain ⟨k, f, ms, hk, rfl, hrw, hml, hmc, hms, hbel, hsz, hcp⟩ := hrel
    have HCP := kide hcp
    clear hcp
    clear hrow hb0 hs0
    by_cases hlt : k < xs.length
    · obtain ⟨-, h | ⟨b, o, rfl, hc⟩⟩ := hr
      · subst h; simp at hlt
      obtain ⟨⟨s1, a1, c1⟩, hx⟩ : ∃ x, xs[k] = x := ⟨_, rfl⟩
      have gx : xs[k]? = some ⟨s1, a1, c1⟩ := by rw [List.getElem?_eq_getElem hlt, hx]
      obtain ⟨⟨p0, p1, p2, p3⟩, pr, -⟩ := (hc k _ gx).later hbel
      simp only [Yg.hd] at p0 p1 p2 p3 pr
      clear hx
      have HTO := kide (toBar_any s1 a1 c1 wr pr)
      have GX : Hid _ := gx
      have HML : Hid _ := hml
      have HMC : Hid _ := hmc
      have HMS : Hid _ := hms
      have HR : Hid _ := hrw
      have HB : Hid _ := hbel
      have i0 : (k : Int) < (xs.length : Int) := by omega
      clear gx hml hmc hms hc hrw hbel hmk pr
      obtain ⟨v, lo, bw, ws⟩ := s1
      simp only [] at p0 p1 p2 p3 HTO
      go_wp2_with fail
      refine Calls.mono HTO.out ?_
      rintro e w1 ⟨g, rfl, hg, hown, hb1⟩
      have hr1 := World.rowIs.of_block HR.out (hb1.block _ hsz)
      have q0 := hr1.cell (i := k * 4) (by omega)
      have q1 := hr1.cell (i := k * 4 + 1) (by omega)
      have q2 := hr1.cell (i := k * 4 + 2) (by omega)
      have q3 := hr1.cell (i := k * 4 + 3) (by omega)
      have r0 := hr1.frozen (k * 4)
      have r1 := hr1.frozen (k * 4 + 1)
      have r2 := hr1.frozen (k * 4 + 2)
      have r3 := hr1.frozen (k * 4 + 3)
      have HR1 : Hid _ := hr1
      clear hr1
      go_wp2_with fail
      go_roundw
      case rel =>
        have hl := HML.out
        have hgk : w.heap.size < g := by omega
        refine ⟨k + 1, _, ms ++ [⟨⟨v, lo, bw, ws⟩, some ⟨g, 0, none⟩, ws.length⟩], by omega, by go_num, World.rowIs.set (World.rowIs.set (World.rowIs.set (World.rowIs.set HR1.out (k * 4) (.int .i64 v)) (k * 4 + 1) (.int .i64 lo)) (k * 4 + 2) (.int .i64 bw)) (k * 4 + 3) (.slice (some ⟨g, 0, none⟩) ws.length ws.length), by simp [hl], ?_, fun j x hj => ?_, ?_, ?_, fun x hx => ?_⟩
        · have h := HMC.out
          rw [List.map_append, h, List.take_add_one, GX.out, List.map_append]
          rfl
        · rw [List.getElem?_append] at hj
          split at hj
          · refine ((HMS.out j x hj).later hb1).put (k := k) (fun g' hg' => ?_) (fun i hi => ?_) (by omega)
            · rw [heap_setCell_other _ _ _ _ (by simp; omega), heap_setCell_other _ _ _ _ (by simp; omega), heap_setCell_other _ _ _ _ (by simp; omega), heap_setCell_other _ _ _ _ (by simp; omega)]
            · show (if _ then _ else _) = _
              rw [if_neg (by omega), if_neg (by omega), if_neg (by omega), if_neg (by omega)]
          · have hj2 : j - ms.length = 0 := by
              have := (List.getElem?_eq_some_iff.1 hj).1
              simp at this; exact this
            rw [hj2] at hj
            simp at hj
            subst hj
            have hjk : j = k := by omega
            subst hjk
            refine ⟨by simp, by simp, by simp, by simp, g, rfl, hgk, ?_⟩
            exact (((hown.other (by simp; omega) _).other (by simp; omega) _).other (by simp; omega) _).other (by simp; omega) _
        · exact ((((HB.out.trans (hb1.mono HB.out.size)).setCell (Nat.le_refl _) _).setCell (Nat.le_refl _) _).setCell (Nat.le_refl _) _).setCell (Nat.le_refl _) _
        · have := hb1.size
          simp; omega
        · rcases List.mem_append.1 hx with hx | hx
          · exact HCP.out x hx
          · rw [List.mem_singleton.1 hx]; exact Nat.le_refl _
      case measure => simp [intOf]; omega
    · have e : k = xs.length := by omega
      have HM : Hid _ := hml
      have HC : Hid _ := hmc
      have HS : Hid _ := hms
      have HR : Hid _ := hrw
      have HB : Hid _ := hbel
      have HE : Hid _ := e
      clear hml hmc hms hrw hbel e hmk
      go_wp2_with fail
      go_ret
      refine ⟨ms, rfl, ?_, ⟨by rw [HM.out]; omega, .inr ⟨_, 0, rfl, fun i x hi => ?_⟩⟩, ⟨fun b o sp h => by cases h; exact Nat.le_refl _, fun x hx b o sp h => ?_⟩, ?_, HCP.out, HB.out⟩
      · have h := HC.out
        rw [HE.out, List.take_length] at h
        exact h
      · obtain ⟨h0, h1, h2, h3, g, h5, h6, h7⟩ := HS.out i x hi
        have hik : i < k := by have := (List.getElem?_eq_some_iff.1 hi).1; rw [HM.out] at this; exact this
        have hct : ∃ y, xs[i]? = some y ∧ y.ct = x.ct := by
          have h := HC.out
          rw [HE.out, List.take_length] at h
          have h' : (ms.map Yg.ct)[i]? = (xs.map Yg.ct)[i]? := by rw [h]
          rw [List.getElem?_map, List.getElem?_map, hi, Option.map_some] at h'
          cases hy : xs[i]? with
          | none => rw [hy] at h'; cases h'
          | some y => rw [hy] at h'; simp at h'; exact ⟨y, rfl, h'.symm⟩
        obtain ⟨y, hy, hyx⟩ := hct
        obtain ⟨-, hn | ⟨b, o, -, hc⟩⟩ := hr
        · subst hn; simp at hy
        obtain ⟨-, ⟨l1, l2, -⟩, l3⟩ := hc i y hy
        rw [hyx] at l1 l2 l3
        refine ⟨⟨?_, ?_, ?_, ?_⟩, ?_, l3⟩
        · rw [Nat.zero_add]; exact (World.rowIs.cell HR.out (by omega)).trans (congrArg some h0)
        · rw [Nat.zero_add]; exact (World.rowIs.cell HR.out (by omega)).trans (congrArg some h1)
        · rw [Nat.zero_add]; exact (World.rowIs.cell HR.out (by omega)).trans (congrArg some h2)
        · rw [Nat.zero_add]; exact (World.rowIs.cell HR.out (by omega)).trans (congrArg some h3)
        · rw [h5]
          exact Own.rd h7 l1 l2
      · obtain ⟨i, hi, e⟩ := List.mem_iff_getElem.1 hx
        obtain ⟨-, -, -, -, g, h5, h6, -⟩ := HS.out i x (by rw [List.getElem?_eq_getElem hi, e])
        rw [h5] at h; cases h; omega
      · obtain ⟨cc, hh, hsz9, hcc⟩ := rowIs_parts HR.out
        refine ⟨hlen, w.heap.size, cc, rfl, Nat.le_refl _, lt_of_block hh, hh, fun i hi => ?_⟩
        obtain ⟨x, hx⟩ : ∃ x, ms[i]? = some x := ⟨ms[i]'(by rw [HM.out]; omega), List.getElem?_eq_getElem _⟩
        obtain ⟨h0, h1, h2, h3, g, h5, h6, h7⟩ := HS.out i x hx
        obtain ⟨y, hy, hyx⟩ : ∃ y, xs[i]? = some y ∧ y.ct = x.ct := by
          have h := HC.out
          rw [HE.out, List.take_length] at h
          have h' : (ms.map Yg.ct)[i]? = (xs.map Yg.ct)[i]? := by rw [h]
          rw [List.getElem?_map, List.getElem?_map, hx, Option.map_some] at h'
          cases hy : xs[i]? with
          | none => rw [hy] at h'; cases h'
          | some y => rw [hy] at h'; simp at h'; exact ⟨y, rfl, h'.symm⟩
        obtain ⟨-, hn | ⟨b, o, -, hc⟩⟩ := hr
        · subst hn; simp at hy
        obtain ⟨-, ⟨l1, l2, -⟩, l3⟩ := hc i y hy
        rw [hyx] at l1
        exact ⟨⟨_, (hcc (i * 4) (by omega)).trans (congrArg some h0)⟩, ⟨_, (hcc (i * 4 + 1) (by omega)).trans (congrArg some h1)⟩, ⟨_, (hcc (i * 4 + 2) (by omega)).trans (congrArg some h2)⟩, x.a, x.ct.ws.length, x.c, (hcc (i * 4 + 3) (by omega)).trans (congrArg some h3), l1, g, u64s x.ct.ws, h5, Nat.le_of_lt h6, h7.lt, h7, fun j hj => ⟨_, u64s_get _ _ hj⟩⟩

theorem TyB.out {w w' : World} {lo hi B1 B2 n : Nat} {a : Option Addr} (h : TyB w lo hi a n) (ho : Out B1 B2 w w') (hd : hi ≤ B1 ∨ B2 ≤ lo) (hh : hi ≤ w.heap.size) : TyB w' lo hi a n :=
  h.far fun b h1 h2 => ho.2.2.2.2 b (by omega) (by omega)
theorem Ti.mono {w : World} {lo hi lo' hi' n : Nat} {a : Option Addr} (h : Ti w lo hi a n) (h1 : lo' ≤ lo) (h2 : hi ≤ hi') : Ti w lo' hi' a n := by
  obtain ⟨g, zs, e, b1, b2, r⟩ := h
  exact ⟨g, zs, e, by omega, by omega, r⟩
theorem Ti.later {w w' : World} {lo hi n : Nat} {a : Option Addr} (h : Ti w lo hi a n) (hb : Below w.heap.size w w') : Ti w' lo hi a n := by
  obtain ⟨g, zs, e, b1, b2, h3, h4⟩ := h
  refine ⟨g, zs, e, b1, b2, ?_, h4⟩
  unfold OwnI
  rw [hb.block g h3.lt]
  exact h3

set_option maxHeartbeats 1000000 in
theorem toGraph_ty (z : Gz) (w : World) (hz : RdG w z) :
    Calls Try.prog 8 #[z.val] w fun e w' => ∃ (y : Gz) (mid : Nat), e = .returned y.val ∧ y.ct = z.ct ∧ RdG w' y ∧ (∀ x ∈ y.bs, x.ct.ws.length ≤ x.c) ∧ w.heap.size ≤ mid ∧ mid ≤ w'.heap.size ∧ Ti w' w.heap.size mid y.a1 y.ks.length ∧ TyB w' mid w'.heap.size y.a2 y.bs.length ∧ Below w.heap.size w w' := by
  obtain ⟨a1, c1, ks, a2, c2, bs⟩ := z
  obtain ⟨z1, z2⟩ := hz
  simp only [Gz.val, Gz.ct] at z1 z2 ⊢
  have H1 := kide (fun u (hu : Below w.heap.size w u) => toInt64S_any a1 c1 ks u (z1.later hu))
  have H2 := kide (fun u (hu : Below w.heap.size w u) => toBarS_ty a2 c2 bs u (z2.later hu))
  have HK3 := kide (z1.1)
  have HK4 := kide (z1.2.1)
  clear z1 z2
  have h3 : Below w.heap.size w (((w.alloc (Obj.cells #[Value.slice a1 ks.length c1, Value.slice a2 bs.length c2] 25)).alloc (Obj.cells #[Value.slice none 0 0, Value.slice none 0 0] 32)).alloc (Obj.cells #[Value.slice none 0 0, Value.slice none 0 0] 32)) := (((Below.refl _ _).alloc (Nat.le_refl _) _).alloc (by simp) _).alloc (by simp; omega) _
  have B0 := kide h3
  clear h3
  go_enter Try.func8, Try.ntmps8
  go_wp2_with fail
  refine Calls.mono (H1.out _ B0.out) ?_
  rintro e w1 ⟨rfl, hown, hb1⟩
  have hz1 : w.heap.size + 3 ≤ w1.heap.size := by have := hb1.size; simp at this; omega
  have O1 : Hid (OwnI w1 (w.heap.size + 3) ks) := by have h := hown; simp at h; exact h
  have l1 : w.heap.size + 3 < w1.heap.size := O1.out.lt
  have p1 : w1.cell? ⟨w.heap.size, 1, none⟩ = some (Value.slice a2 bs.length c2) := by rw [kcell hb1 _ _ (by first | (simp; done) | (simp; omega))]; simp [go_sem]
  have qa0 : w1.cell? ⟨w.heap.size + 1, 0, none⟩ = some (Value.slice none 0 0) := by rw [kcell hb1 _ _ (by first | (simp; done) | (simp; omega))]; simp [go_sem]
  have qa1 : w1.cell? ⟨w.heap.size + 1, 1, none⟩ = some (Value.slice none 0 0) := by rw [kcell hb1 _ _ (by first | (simp; done) | (simp; omega))]; simp [go_sem]
  have qb0 : w1.cell? ⟨w.heap.size + 1 + 1, 0, none⟩ = some (Value.slice none 0 0) := by rw [kcell hb1 _ _ (by first | (simp; done) | (simp; omega))]; simp [go_sem]
  have qb1 : w1.cell? ⟨w.heap.size + 1 + 1, 1, none⟩ = some (Value.slice none 0 0) := by rw [kcell hb1 _ _ (by first | (simp; done) | (simp; omega))]; simp [go_sem]
  have fa0 : w1.frozen? ⟨w.heap.size + 1, 0, none⟩ = false := by rw [kfrozB hb1 _ _ (by first | (simp; done) | (simp; omega))]; simp [go_sem]
  have fb0 : w1.frozen? ⟨w.heap.size + 1 + 1, 0, none⟩ = false := by rw [kfrozB hb1 _ _ (by first | (simp; done) | (simp; omega))]; simp [go_sem]
  have fa1 : w1.frozen? ⟨w.heap.size + 1, 1, none⟩ = false := by rw [kfrozB hb1 _ _ (by first | (simp; done) | (simp; omega))]; simp [go_sem]
  have fb1 : w1.frozen? ⟨w.heap.size + 1 + 1, 1, none⟩ = false := by rw [kfrozB hb1 _ _ (by first | (simp; done) | (simp; omega))]; simp [go_sem]
  have B1 := kide (B0.out.trans (hb1.mono B0.out.size))
  clear hb1 hown B0 H1
  have uc01 : (w1.setCell ⟨w.heap.size + 1 + 1, 0, none⟩ (Value.slice (some ⟨w.heap.size + 1 + 1 + 1, 0, none⟩) ks.length ks.length)).cell? ⟨w.heap.size, 1, none⟩ = some (Value.slice a2 bs.length c2) := by simp [go_sem, p1, qa0, qa1, qb0, qb1, fa0, fb0, fa1, fb1]
  have uc10 : (w1.setCell ⟨w.heap.size + 1 + 1, 0, none⟩ (Value.slice (some ⟨w.heap.size + 1 + 1 + 1, 0, none⟩) ks.length ks.length)).cell? ⟨w.heap.size + 1, 0, none⟩ = some (Value.slice none 0 0) := by simp [go_sem, p1, qa0, qa1, qb0, qb1, fa0, fb0, fa1, fb1]
  have uc11 : (w1.setCell ⟨w.heap.size + 1 + 1, 0, none⟩ (Value.slice (some ⟨w.heap.size + 1 + 1 + 1, 0, none⟩) ks.length ks.length)).cell? ⟨w.heap.size + 1, 1, none⟩ = some (Value.slice none 0 0) := by simp [go_sem, p1, qa0, qa1, qb0, qb1, fa0, fb0, fa1, fb1]
  have uc20 : (w1.setCell ⟨w.heap.size + 1 + 1, 0, none⟩ (Value.slice (some ⟨w.heap.size + 1 + 1 + 1, 0, none⟩) ks.length ks.length)).cell? ⟨w.heap.size + 1 + 1, 0, none⟩ = some (Value.slice (some ⟨w.heap.size + 1 + 1 + 1, 0, none⟩) ks.length ks.length) := by simp [go_sem, p1, qa0, qa1, qb0, qb1, fa0, fb0, fa1, fb1]
  have uc21 : (w1.setCell ⟨w.heap.size + 1 + 1, 0, none⟩ (Value.slice (some ⟨w.heap.size + 1 + 1 + 1, 0, none⟩) ks.length ks.length)).cell? ⟨w.heap.size + 1 + 1, 1, none⟩ = some (Value.slice none 0 0) := by simp [go_sem, p1, qa0, qa1, qb0, qb1, fa0, fb0, fa1, fb1]
  have uf10 : (w1.setCell ⟨w.heap.size + 1 + 1, 0, none⟩ (Value.slice (some ⟨w.heap.size + 1 + 1 + 1, 0, none⟩) ks.length ks.length)).frozen? ⟨w.heap.size + 1, 0, none⟩ = false := by simp [go_sem, p1, qa0, qa1, qb0, qb1, fa0, fb0, fa1, fb1]
  have uf11 : (w1.setCell ⟨w.heap.size + 1 + 1, 0, none⟩ (Value.slice (some ⟨w.heap.size + 1 + 1 + 1, 0, none⟩) ks.length ks.length)).frozen? ⟨w.heap.size + 1, 1, none⟩ = false := by simp [go_sem, p1, qa0, qa1, qb0, qb1, fa0, fb0, fa1, fb1]
  have uf20 : (w1.setCell ⟨w.heap.size + 1 + 1, 0, none⟩ (Value.slice (some ⟨w.heap.size + 1 + 1 + 1, 0, none⟩) ks.length ks.length)).frozen? ⟨w.heap.size + 1 + 1, 0, none⟩ = false := by simp [go_sem, p1, qa0, qa1, qb0, qb1, fa0, fb0, fa1, fb1]
  have uf21 : (w1.setCell ⟨w.heap.size + 1 + 1, 0, none⟩ (Value.slice (some ⟨w.heap.size + 1 + 1 + 1, 0, none⟩) ks.length ks.length)).frozen? ⟨w.heap.size + 1 + 1, 1, none⟩ = false := by simp [go_sem, p1, qa0, qa1, qb0, qb1, fa0, fb0, fa1, fb1]
  have BW1 : Hid (Below w.heap.size w (w1.setCell ⟨w.heap.size + 1 + 1, 0, none⟩ (Value.slice (some ⟨w.heap.size + 1 + 1 + 1, 0, none⟩) ks.length ks.length))) := B1.out.setCell (by first | (simp; done) | (simp; omega)) _
  have OW1 : Hid (OwnI (w1.setCell ⟨w.heap.size + 1 + 1, 0, none⟩ (Value.slice (some ⟨w.heap.size + 1 + 1 + 1, 0, none⟩) ks.length ks.length)) (w.heap.size + 3) ks) := O1.out.other (by first | (simp; done) | (simp; omega)) _
  have hzW1 : w.heap.size + 3 < (w1.setCell ⟨w.heap.size + 1 + 1, 0, none⟩ (Value.slice (some ⟨w.heap.size + 1 + 1 + 1, 0, none⟩) ks.length ks.length)).heap.size := by simp; omega
  go_wp2_with fail
  clear p1 qa0 qa1 qb0 qb1 fa0 fb0 fa1 fb1
  generalize w1.setCell ⟨w.heap.size + 1 + 1, 0, none⟩ (Value.slice (some ⟨w.heap.size + 1 + 1 + 1, 0, none⟩) ks.length ks.length) = W1 at *
  clear B1 O1 hz1 l1
  refine Calls.mono (H2.out W1 BW1.out) ?_
  rintro e w2 ⟨m2, rfl, hm2, r2, f2, ty2, cp2, hb2⟩
  have TY2 := kide ty2
  have CP2 := kide cp2
  have hzz : W1.heap.size ≤ w2.heap.size := hb2.size
  have BX2 := kide (BW1.out.trans (hb2.mono BW1.out.size))
  have OX1 := kide (OW1.out.later hb2 hzW1)
  have R2 := kide r2
  have F2 : Hid (FarB (w.heap.size + 3) (some ⟨W1.heap.size, 0, none⟩) m2) := f2.mono (by omega)
  have M2 := kide hm2
  have hz2 : w.heap.size + 3 < w2.heap.size := Nat.lt_of_lt_of_le hzW1 hb2.size
  have vc01 := (kcell hb2 (w.heap.size) 1 (by omega)).trans uc01
  have vc10 := (kcell hb2 (w.heap.size + 1) 0 (by omega)).trans uc10
  have vc11 := (kcell hb2 (w.heap.size + 1) 1 (by omega)).trans uc11
  have vc20 := (kcell hb2 (w.heap.size + 1 + 1) 0 (by omega)).trans uc20
  have vc21 := (kcell hb2 (w.heap.size + 1 + 1) 1 (by omega)).trans uc21
  have vf10 := (kfrozB hb2 (w.heap.size + 1) 0 (by omega)).trans uf10
  have vf11 := (kfrozB hb2 (w.heap.size + 1) 1 (by omega)).trans uf11
  have vf20 := (kfrozB hb2 (w.heap.size + 1 + 1) 0 (by omega)).trans uf20
  have vf21 := (kfrozB hb2 (w.heap.size + 1 + 1) 1 (by omega)).trans uf21
  clear hb2 r2 f2 hm2 ty2 cp2 uc01 uc10 uc11 uc20 uc21 uf10 uf11 uf20 uf21 BW1 OW1 H2
  go_wp2_with fail
  refine bodyPost_ret (v := .agg #[.slice (some ⟨w.heap.size + 1 + 1 + 1, 0, none⟩) ks.length ks.length, .slice (some ⟨W1.heap.size, 0, none⟩) bs.length bs.length]) (by simp [results, Try.results8, go_sem, vc01, vc10, vc11, vc20, vc21, vf10, vf11, vf20, vf21]) rfl ?_
  have hl : m2.length = bs.length := by simpa using congrArg List.length M2.out
  refine ⟨⟨some ⟨w.heap.size + 3, 0, none⟩, ks.length, ks, some ⟨W1.heap.size, 0, none⟩, bs.length, m2⟩, W1.heap.size, by simp [hl], by simp [M2.out], ⟨?_, ?_⟩, CP2.out, by omega, by simpa using hzz, ?_, ?_, ?_⟩
  · refine RdI.setB ?_ (B := w.heap.size + 3) (fun b o sp h => by cases h; exact Nat.le_refl _) (by first | (simp; done) | (simp; omega)) _
    refine RdI.setB ?_ (B := w.heap.size + 3) (fun b o sp h => by cases h; exact Nat.le_refl _) (by first | (simp; done) | (simp; omega)) _
    refine RdI.setB ?_ (B := w.heap.size + 3) (fun b o sp h => by cases h; exact Nat.le_refl _) (by first | (simp; done) | (simp; omega)) _
    exact OX1.out.rd HK3.out HK4.out
  · exact (((R2.out.set F2.out (by first | (simp; done) | (simp; omega)) _).set F2.out (by first | (simp; done) | (simp; omega)) _).set F2.out (by first | (simp; done) | (simp; omega)) _)
  · refine ⟨w.heap.size + 3, ks, rfl, by omega, by omega, ?_, rfl⟩
    exact ((OX1.out.other (by first | (simp; done) | (simp; omega)) _).other (by first | (simp; done) | (simp; omega)) _).other (by first | (simp; done) | (simp; omega)) _
  · have h9 := TY2.out
    rw [← hl] at h9
    refine (h9.far fun b h1 h2 => ?_).mono (Nat.le_refl _) (by simp)
    rw [heap_setCell_other _ _ _ _ (by simp; omega), heap_setCell_other _ _ _ _ (by simp; omega), heap_setCell_other _ _ _ _ (by simp; omega)]
  · exact (((BX2.out.setCell (by first | (simp; done) | (simp; omega)) _).setCell (by first | (simp; done) | (simp; omega)) _).setCell (by first | (simp; done) | (simp; omega)) _)


set_option maxHeartbeats 1000000 in
theorem markGraph_any (y : Gz) (lo mid hi : Nat) (w : World) (h1 : Ti w lo mid y.a1 y.ks.length) (h2 : TyB w mid hi y.a2 y.bs.length) (hl : lo ≤ mid) (hh : mid ≤ hi) (hw : hi ≤ w.heap.size) (hn : y.ks.length ≤ 1048576) :
    Calls Try.prog 12 #[y.val, .int .i64 1] w fun e w' => ∃ K : Nat, e = .returned (.int .i64 (K : Int)) ∧ Out lo hi w w' := by
  obtain ⟨a1, c1, ks, a2, c2, bs⟩ := y
  simp only [Gz.val] at *
  have hb0 : Below w.heap.size w (w.alloc (.cells #[.slice a1 ks.length c1, .slice a2 bs.length c2] 32)) := (Below.refl _ _).alloc (Nat.le_refl _) _
  have hm2 := h2.1
  have X0 := kide (Bz.new w #[.slice a1 ks.length c1, .slice a2 bs.length c2] 32)
  have T1 := kide (h1.later hb0)
  have T2 := kide (h2.far fun b _ hb => hb0.block b (by omega))
  have hlw : w.heap.size < (w.alloc (.cells #[.slice a1 ks.length c1, .slice a2 bs.length c2] 32)).heap.size := by simp
  have HB0 := kide hb0
  generalize ks.length = n1 at *
  generalize bs.length = n2 at *
  clear h1 h2 hb0
  go_enter Try.func12, Try.ntmps12
  go_wp2_with fail
  generalize w.alloc (.cells #[.slice a1 n1 c1, .slice a2 n2 c2] 32) = w0 at *
  refine Calls.mono (markInt64S_ti lo mid c1 n1 1 a1 w0 T1.out hn (by omega)) ?_
  rintro e w1 ⟨rfl, ho1⟩
  have x1 : w1.cell? ⟨w.heap.size, 1, none⟩ = some (.slice a2 n2 c2) := (World.cell?_of_block (a := ⟨w.heap.size, 1, none⟩) (ho1.2.2.2.2 w.heap.size hlw (.inr (by omega)))).trans (X0.out.cell 1)
  have lx : w.heap.size < w1.heap.size := Nat.lt_of_lt_of_le hlw ho1.2.2.2.1
  have T3 := kide (T2.out.out ho1 (.inr (Nat.le_refl _)) (by omega))
  have HO1 := kide ho1
  obtain ⟨K1, hK1⟩ : ∃ K1, 1 + n1 = K1 := ⟨_, rfl⟩
  have hK1b : K1 ≤ 1048577 := by omega
  rw [hK1]
  clear hK1 ho1 T2 T1 X0
  go_wp2_with fail
  refine Calls.mono (markB_ty mid hi c2 n2 K1 a2 w1 T3.out (by omega)) ?_
  rintro e w2 ⟨K2, rfl, hK2, -, ho2⟩
  have HO2 := kide ho2
  clear hK2 ho2 T3
  go_wp2_with fail
  go_ret
  obtain ⟨o1, o2, o3, o4, o5⟩ := HO1.out
  obtain ⟨q1, q2, q3, q4, q5⟩ := HO2.out
  have hb := HB0.out
  refine ⟨K2, rfl, q1.trans (o1.trans hb.os), q2.trans (o2.trans hb.tape), q3.trans (o3.trans hb.output), by have := hb.size; omega, fun k hk ho => ?_⟩
  rw [q5 k (by omega) (by omega), o5 k (by omega) (by omega), hb.block k hk]

end Go.Proofs.Ythoiajpbpoglfaa
