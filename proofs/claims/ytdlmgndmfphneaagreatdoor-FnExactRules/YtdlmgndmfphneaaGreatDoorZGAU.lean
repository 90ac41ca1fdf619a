/- Several texts in one. -/
import Derived.Test.YtdlmgndmfphneaaGreatDoorZGAE
import Derived.Test.YtdlmgndmfphneaaGreatDoorZGAT
import Derived.Test.YtdlmgndmfphneaaGreatDoorZGAD

/- Marks of declared variables and of rows of whole numbers and of words. -/
namespace Go.Proofs.YtdlmgndmfphneaaGreatDoor
set_option linter.unusedVariables false
set_option linter.unusedSimpArgs false
open Go.RowKit

theorem grow_set {w wr : World} {g : Nat} (h : w.grownBy wr (some g)) (i : Nat) (v : Value) : w.grownBy (wr.setCell ⟨g, i, none⟩ v) (some g) :=
  ⟨h.os, h.tape, h.output, by simpa using h.size, fun k hk hne => by rw [heap_setCell_other wr ⟨g, i, none⟩ k v (fun e => hne (by simp [e]))]; exact h.block k hk hne⟩

theorem Out.ofB {B1 B2 : Nat} {w w' : World} (h : Below w.heap.size w w') : Out B1 B2 w w' := ⟨h.os, h.tape, h.output, h.size, fun k hk _ => h.block k hk⟩
theorem Out.cell {B1 B2 : Nat} {w w' : World} (h : Out B1 B2 w w') {b o : Nat} (hb : b < w.heap.size) (ho : b < B1 ∨ B2 ≤ b) : w'.cell? ⟨b, o, none⟩ = w.cell? ⟨b, o, none⟩ := World.cell?_of_block (w := w) (a := ⟨b, o, none⟩) (h.2.2.2.2 b hb ho)

theorem toDeclS_row (a : Option Addr) (c : Nat) (ds : List Dc) (w : World) (hr : RdD w a ds) :
    Calls Tryz.prog 8 #[.slice a ds.length c] w fun e w' => e = .returned (.slice (some ⟨w.heap.size, 0, none⟩) ds.length ds.length) ∧ RdD w' (some ⟨w.heap.size, 0, none⟩) ds ∧ (∃ f, w'.rowIs w.heap.size 56 (ds.length * 2) f) ∧ Below w.heap.size w w' := by
  have hlen := hr.1
  have hmk := make_decls ds.length hlen
  go_enter Tryz.func8, Tryz.ntmps8
  go_wp2_with fail
  have hrow := krow (heap_alloc_new w (.cells (madeCells #[.string .empty, .int .i64 0] (ds.length * 2)) 56))
  rw [size_madeCells] at hrow
  have hb0 : Below w.heap.size w (w.alloc (.cells (madeCells #[.string .empty, .int .i64 0] (ds.length * 2)) 56)) := (Below.refl _ _).alloc (Nat.le_refl _) _
  have hs0 : w.heap.size < (w.alloc (.cells (madeCells #[.string .empty, .int .i64 0] (ds.length * 2)) 56)).heap.size := by simp
  generalize (w.alloc (.cells (madeCells #[.string .empty, .int .i64 0] (ds.length * 2)) 56)) = w0 at *
  go_loopw [4] (fun i wr => ∃ (k : Nat) (f : Nat → Value), k ≤ ds.length ∧ i = .int .i64 k ∧ wr.rowIs w.heap.size 56 (ds.length * 2) f ∧ (∀ (j : Nat) (d : Dc), j < k → ds[j]? = some d → f (j * 2) = .string d.1 ∧ f (j * 2 + 1) = .int .i64 d.2) ∧ Below w.heap.size w wr ∧ w.heap.size < wr.heap.size) (fun i _ => ds.length - (intOf i).toNat)
  case atStart => exact ⟨0, _, Nat.zero_le _, rfl, hrow, fun j d h => by omega, hb0, hs0⟩
  case round =>
    obtain ⟨k, f, hk, rfl, hrw, hms, hbel, hsz⟩ := hrel
    clear hrow hb0 hs0
    by_cases hlt : k < ds.length
    · obtain ⟨-, -, h | ⟨b, o, rfl, hc⟩⟩ := hr
      · subst h; simp at hlt
      obtain ⟨⟨t, x⟩, hh⟩ : ∃ x, ds[k] = x := ⟨_, rfl⟩
      have gx : ds[k]? = some (t, x) := by rw [List.getElem?_eq_getElem hlt, hh]
      obtain ⟨p0, p1⟩ := (hc k _ gx).later hbel
      simp only [] at p0 p1
      have GX : Hid _ := gx
      have HMS : Hid _ := hms
      have HR : Hid _ := hrw
      have HB : Hid _ := hbel
      have i0 : (k : Int) < (ds.length : Int) := by omega
      clear gx hms hc hrw hbel hmk hh
      go_wp2_with fail
      refine (toDecl_any _ _ _).mono ?_
      rintro e w1 ⟨rfl, hb1⟩
      have hr1 := World.rowIs.of_block HR.out (hb1.block _ hsz)
      have q0 := hr1.cell (i := k * 2) (by omega)
      have q1 := hr1.cell (i := k * 2 + 1) (by omega)
      have r0 := hr1.frozen (k * 2)
      have r1 := hr1.frozen (k * 2 + 1)
      have HR1 : Hid _ := hr1
      clear hr1
      go_wp2_with fail
      go_roundw
      case rel =>
        refine ⟨k + 1, _, by omega, by go_num, World.rowIs.set (World.rowIs.set HR1.out (k * 2) (.string t)) (k * 2 + 1) (.int .i64 x), fun j d hj hd => ?_, ?_, ?_⟩
        · by_cases hjk : j = k
          · subst hjk
            rw [GX.out] at hd
            cases hd
            exact ⟨by simp, by simp⟩
          · obtain ⟨h0, h1⟩ := HMS.out j d (by omega) hd
            constructor
            · show (if _ then _ else _) = _
              rw [if_neg (by omega), if_neg (by omega)]; exact h0
            · show (if _ then _ else _) = _
              rw [if_neg (by omega), if_neg (by omega)]; exact h1
        · exact ((HB.out.trans (hb1.mono HB.out.size)).setCell (Nat.le_refl _) _).setCell (Nat.le_refl _) _
        · have := hb1.size
          simp; omega
      case measure => simp [intOf]; omega
    · have HS : Hid _ := hms
      have HR : Hid _ := hrw
      have HB : Hid _ := hbel
      clear hms hrw hbel hmk
      go_wp2_with fail
      go_ret
      refine ⟨rfl, ⟨hr.1, hr.2.1, .inr ⟨_, 0, rfl, fun i d hi => ?_⟩⟩, ⟨f, HR.out⟩, HB.out⟩
      have hil := (List.getElem?_eq_some_iff.1 hi).1
      obtain ⟨h0, h1⟩ := HS.out i d (by omega) hi
      refine ⟨?_, ?_⟩
      · rw [Nat.zero_add, ← h0]; exact World.rowIs.cell HR.out (by omega)
      · rw [Nat.zero_add, ← h1]; exact World.rowIs.cell HR.out (by omega)


set_option maxRecDepth 100000 in
theorem markText_any (k : Nat) (w : World) (hk : k ≤ 300000000) :
    Calls Tryz.prog 32 #[.int .i64 (k : Int)] w fun e w' => (∃ s : ByteArray, e = .returned (.string s)) ∧ Below w.heap.size w w' := by
  by_cases h0 : k = 0
  · subst h0
    go_enter Tryz.func32, Tryz.ntmps32
    go_wp2_with fail
    go_ret
    exact ⟨⟨_, rfl⟩, Below.refl _ _⟩
  · have h1 : ¬ (k : Int) ≤ 0 := by omega
    clear h0
    go_enter Tryz.func32, Tryz.ntmps32
    go_wp2_with fail
    go_loopw [0, 3] (fun q l wr => ∃ (m : Nat) (t : ByteArray), m ≤ 300000000 ∧ t.size + m ≤ 300000000 ∧ q = .int .i64 (m : Int) ∧ l = .string t ∧ Below w.heap.size w wr) (fun q _ _ => (intOf q).toNat)
    case atStart => exact ⟨k, ⟨#[]⟩, hk, by show 0 + k ≤ _; omega, rfl, rfl, Below.refl _ _⟩
    case round =>
      obtain ⟨m, t, hm, hmt, rfl, rfl, hbel⟩ := hrel
      have HB := kide hbel
      clear hbel
      by_cases hz : m = 0
      · subst hz
        go_wp2_with fail
        go_ret
        exact ⟨⟨_, rfl⟩, HB.out⟩
      · have hp : (0 : Int) < (m : Int) := by omega
        clear hz
        have hcv : (convert 104 9 (.slice (some ⟨wr.heap.size, 0, none⟩) 1 1)).run Tryz.prog (wr.alloc (Obj.cells #[Value.int .u8 (48 + (m : Int) % 10)] 5)) = .ok (.string ⟨#[UInt8.ofNat (48 + m % 10)]⟩) (wr.alloc (Obj.cells #[Value.int .u8 (48 + (m : Int) % 10)] 5)) := by
          have h := run_convert_bytes_back (P := Tryz.prog) (wr.alloc (Obj.cells #[Value.int .u8 (48 + (m : Int) % 10)] 5)) 104 9 5 ⟨wr.heap.size, 0, none⟩ 1 [UInt8.ofNat (48 + m % 10)] Tryz.underlying104 Tryz.underlying5 Tryz.underlying9 (fun j hj => by
            have hj0 : j = 0 := by simpa using hj
            subst hj0
            have e : ((UInt8.ofNat (48 + m % 10)).toNat : Int) = 48 + (m : Int) % 10 := by
              rw [UInt8.toNat_ofNat']
              omega
            rw [Addr.add_lit]
            simp [e]
            omega)
          exact h
        have HA := kide (HB.out.alloc HB.out.size (Obj.cells #[Value.int .u8 (48 + (m : Int) % 10)] 5))
        generalize hs1 : (⟨#[UInt8.ofNat (48 + m % 10)]⟩ : ByteArray) = s1 at hcv
        have hs1z : s1.size = 1 := by rw [← hs1]; rfl
        clear hs1
        go_wp2_with fail
        go_roundw
        case rel => exact ⟨m / 10, s1 ++ t, by omega, by rw [ByteArray.size_append]; omega, by simp, rfl, HA.out⟩
        case measure => simp [intOf]; omega

theorem markDeclS_any (g c n k : Nat) (f : Nat → Value) (w : World) (hr : w.rowIs g 56 (n * 2) f) (hn : n ≤ 1048576) (hk : k ≤ 1048576) :
    Calls Tryz.prog 14 #[.slice (some ⟨g, 0, none⟩) n c, .int .i64 (k : Int)] w fun e w' => e = .returned (.int .i64 ((k + n * 2 : Nat) : Int)) ∧ w.grownBy w' (some g) := by
  go_enter Tryz.func14, Tryz.ntmps14
  go_wp2_with fail
  go_loopw [1, 5] (fun q i wr => ∃ (j : Nat) (f' : Nat → Value), j ≤ n ∧ i = .int .i64 (j : Int) ∧ q = .int .i64 ((k + j * 2 : Nat) : Int) ∧ wr.rowIs g 56 (n * 2) f' ∧ w.grownBy wr (some g)) (fun _ i _ => n - (intOf i).toNat)
  case atStart => exact ⟨0, f, Nat.zero_le _, rfl, by simp, hr, ⟨rfl, rfl, rfl, Nat.le_refl _, fun _ _ _ => rfl⟩⟩
  case round =>
    obtain ⟨j, f', hj, rfl, rfl, hrow, hg⟩ := hrel
    by_cases hlt : j < n
    · have hgl : g < wr.heap.size := by
        obtain ⟨cc, hh, -⟩ := hrow
        exact lt_of_block hh
      generalize hK : k + j * 2 = K at *
      have HK := kide hK
      have hKb : K ≤ 300000000 := by omega
      have i0 : (j : Int) < (n : Int) := by omega
      have HMT := kide (markText_any K wr hKb)
      have HRW := kide hrow
      have HG := kide hg
      clear hrow hg hK
      go_wp2_with fail
      refine Calls.mono HMT.out ?_
      rintro e w1 ⟨⟨t, rfl⟩, hb1⟩
      have hr1 := World.rowIs.of_block HRW.out (hb1.block _ hgl)
      have q0 := hr1.cell (i := j * 2) (by omega)
      have q1 := hr1.cell (i := j * 2 + 1) (by omega)
      have r0 := hr1.frozen (j * 2)
      have r1 := hr1.frozen (j * 2 + 1)
      have HR1 := kide hr1
      have HG1 : Hid (w.grownBy w1 (some g)) := ⟨hb1.os.trans HG.out.os, hb1.tape.trans HG.out.tape, hb1.output.trans HG.out.output, Nat.le_trans HG.out.size hb1.size, fun q hq hne => (hb1.block q (Nat.lt_of_lt_of_le hq HG.out.size)).trans (HG.out.block q hq hne)⟩
      clear hr1 hb1
      go_wp2_with fail
      go_roundw
      case rel =>
        refine ⟨j + 1, _, by omega, by go_num, ?_, World.rowIs.set (World.rowIs.set HR1.out (j * 2) (.string t)) (j * 2 + 1) (.int .i64 ((K : Int) + 1)), grow_set (grow_set HG1.out (j * 2) _) (j * 2 + 1) _⟩
        rw [show k + (j + 1) * 2 = K + 2 by have := HK.out; omega]
        first | go_num | (congr 1; push_cast; omega) | (simp; omega)
      case measure => simp [intOf]; omega
    · have e : j = n := by omega
      subst e
      have HG := kide hg
      clear hrow hg
      go_wp2_with fail
      go_ret
      exact ⟨rfl, HG.out⟩

theorem markDeclS_one (g c n : Nat) (f : Nat → Value) (w : World) (hr : w.rowIs g 56 (n * 2) f) (hn : n ≤ 1048576) :
    Calls Tryz.prog 14 #[.slice (some ⟨g, 0, none⟩) n c, .int .i64 1] w fun e w' => e = .returned (.int .i64 ((1 + n * 2 : Nat) : Int)) ∧ Out g (g + 1) w w' := by
  refine Calls.mono (markDeclS_any g c n 1 f w hr hn (by omega)) ?_
  rintro e w' ⟨rfl, hg⟩
  exact ⟨rfl, Out.grown hg (Nat.le_refl _) (Nat.lt_succ_self _)⟩

theorem Bq.out {w wk w' : World} {v : Value} {t : TypeId} {B1 B2 : Nat} (h : Bq w v t wk) (ho : Out B1 B2 wk w') (h1 : w.heap.size + 1 ≤ B1) : Bq w v t w' :=
  Below.trans h ⟨ho.1, ho.2.1, ho.2.2.1, ho.2.2.2.1, fun k hk => ho.2.2.2.2 k (Nat.lt_of_lt_of_le hk h.size) (.inl (Nat.lt_of_lt_of_le hk h1))⟩

theorem markInt64S_any (g c n k : Nat) (zs : List Int) (w : World) (ho : OwnI w g zs) (hz : zs.length = n) (hn : n ≤ 1048576) (hk : k ≤ 4398046511104) :
    Calls Tryz.prog 16 #[.slice (some ⟨g, 0, none⟩) n c, .int .i64 (k : Int)] w fun e w' => e = .returned (.int .i64 ((k + n : Nat) : Int)) ∧ (∃ zs', OwnI w' g zs' ∧ zs'.length = n) ∧ w.grownBy w' (some g) := by
  go_enter Tryz.func16, Tryz.ntmps16
  go_wp2_with fail
  go_loopw [1, 5] (fun q i wr => ∃ (j : Nat) (ys : List Int), j ≤ n ∧ i = .int .i64 (j : Int) ∧ q = .int .i64 ((k + j : Nat) : Int) ∧ OwnI wr g ys ∧ ys.length = n ∧ w.grownBy wr (some g)) (fun _ i _ => n - (intOf i).toNat)
  case atStart => exact ⟨0, zs, Nat.zero_le _, rfl, by simp, ho, hz, ⟨rfl, rfl, rfl, Nat.le_refl _, fun _ _ _ => rfl⟩⟩
  case round =>
    obtain ⟨j, ys, hj, rfl, rfl, hown, hl, hg⟩ := hrel
    have HG := kide hg
    by_cases hlt : j < n
    · have q0 := hown.cell (i := j) (by omega)
      have r0 := hown.free j
      generalize ys.getD j 0 = y0 at q0
      generalize hK : k + j = K at *
      have HK := kide hK
      have hKb : K ≤ 8796093022208 := by omega
      have i0 : (j : Int) < (n : Int) := by omega
      have HO := kide hown
      have HL := kide hl
      clear hown hl hg hK
      go_wp2_with fail
      go_roundw
      case rel => exact ⟨j + 1, ys.set j (K : Int), by omega, by go_num, by rw [show k + (j + 1) = K + 1 by have := HK.out; omega]; first | go_num | (simp; done), HO.out.put j _, by rw [List.length_set]; exact HL.out, grow_set HG.out j _⟩
      case measure => simp [intOf]; omega
    · have e : j = n := by omega
      subst e
      have HO := kide hown
      have HL := kide hl
      clear hown hl hg
      go_wp2_with fail
      go_ret
      exact ⟨rfl, ⟨ys, HO.out, HL.out⟩, HG.out⟩

theorem markUint64S_any (g c n k : Nat) (zs : List Nat) (w : World) (ho : Own w g zs) (hz : zs.length = n) (hn : n ≤ 1048576) (hk : k ≤ 4398046511104) :
    Calls Tryz.prog 70 #[.slice (some ⟨g, 0, none⟩) n c, .int .i64 (k : Int)] w fun e w' => e = .returned (.int .i64 ((k + n : Nat) : Int)) ∧ (∃ zs', Own w' g zs' ∧ zs'.length = n) ∧ w.grownBy w' (some g) := by
  go_enter Tryz.func70, Tryz.ntmps70
  go_wp2_with fail
  go_loopw [1, 5] (fun q i wr => ∃ (j : Nat) (ys : List Nat), j ≤ n ∧ i = .int .i64 (j : Int) ∧ q = .int .i64 ((k + j : Nat) : Int) ∧ Own wr g ys ∧ ys.length = n ∧ w.grownBy wr (some g)) (fun _ i _ => n - (intOf i).toNat)
  case atStart => exact ⟨0, zs, Nat.zero_le _, rfl, by simp, ho, hz, ⟨rfl, rfl, rfl, Nat.le_refl _, fun _ _ _ => rfl⟩⟩
  case round =>
    obtain ⟨j, ys, hj, rfl, rfl, hown, hl, hg⟩ := hrel
    have HG := kide hg
    by_cases hlt : j < n
    · have q0 := hown.cell (i := j) (by omega)
      have r0 := hown.free j
      generalize ys.getD j 0 = y0 at q0
      generalize hK : k + j = K at *
      have HK := kide hK
      have hKb : K ≤ 8796093022208 := by omega
      have i0 : (j : Int) < (n : Int) := by omega
      have HO := kide hown
      have HL := kide hl
      clear hown hl hg hK
      go_wp2_with fail
      go_roundw
      case rel => exact ⟨j + 1, ys.set j K, by omega, by go_num, by rw [show k + (j + 1) = K + 1 by have := HK.out; omega]; first | go_num | (simp; done), HO.out.put j _, by rw [List.length_set]; exact HL.out, grow_set HG.out j _⟩
      case measure => simp [intOf]; omega
    · have e : j = n := by omega
      subst e
      have HO := kide hown
      have HL := kide hl
      clear hown hl hg
      go_wp2_with fail
      go_ret
      exact ⟨rfl, ⟨ys, HO.out, HL.out⟩, HG.out⟩

end Go.Proofs.YtdlmgndmfphneaaGreatDoor

/- Terms that are copied into rows of their own, and marked. -/
namespace Go.Proofs.YtdlmgndmfphneaaGreatDoor
set_option linter.unusedVariables false
set_option linter.unusedSimpArgs false
open Go.RowKit

set_option maxHeartbeats 1000000 in
theorem toTNodeS_own (a : Option Addr) (c : Nat) (xs : List Tg) (w : World) (hr : RdT w a xs) :
    Calls Tryz.prog 27 #[.slice a xs.length c] w fun e w' => ∃ ms : List Tg, e = .returned (.slice (some ⟨w.heap.size, 0, none⟩) xs.length xs.length) ∧ ms.map Tg.ct = xs.map Tg.ct ∧ RdT w' (some ⟨w.heap.size, 0, none⟩) ms ∧ FarT w.heap.size (some ⟨w.heap.size, 0, none⟩) ms ∧ (∃ f, w'.rowIs w.heap.size 63 (xs.length * 7) f ∧ ∀ j x, ms[j]? = some x → TgOwn w' w.heap.size f j x) ∧ Below w.heap.size w w' := by
  have hlen := hr.1
  have hmk := make_tnodes xs.length hlen
  go_enter Tryz.func27, Tryz.ntmps27
  go_wp2_with fail
  have hrow := krow (heap_alloc_new w (.cells (madeCells #[.int .i64 0, .int .i64 0, .int .i64 0, .int .i64 0, .int .i64 0, .slice none 0 0, .slice none 0 0] (xs.length * 7)) 63))
  rw [size_madeCells] at hrow
  have hb0 : Below w.heap.size w (w.alloc (.cells (madeCells #[.int .i64 0, .int .i64 0, .int .i64 0, .int .i64 0, .int .i64 0, .slice none 0 0, .slice none 0 0] (xs.length * 7)) 63)) := (Below.refl _ _).alloc (Nat.le_refl _) _
  have hs0 : w.heap.size < (w.alloc (.cells (madeCells #[.int .i64 0, .int .i64 0, .int .i64 0, .int .i64 0, .int .i64 0, .slice none 0 0, .slice none 0 0] (xs.length * 7)) 63)).heap.size := by simp
  generalize (w.alloc (.cells (madeCells #[.int .i64 0, .int .i64 0, .int .i64 0, .int .i64 0, .int .i64 0, .slice none 0 0, .slice none 0 0] (xs.length * 7)) 63)) = w0 at *
  go_loopw [4] (fun i wr => ∃ (k : Nat) (f : Nat → Value) (ms : List Tg), k ≤ xs.length ∧ i = .int .i64 k ∧ wr.rowIs w.heap.size 63 (xs.length * 7) f ∧ ms.length = k ∧ ms.map Tg.ct = (xs.take k).map Tg.ct ∧ (∀ j x, ms[j]? = some x → TgOwn wr w.heap.size f j x) ∧ Below w.heap.size w wr ∧ w.heap.size < wr.heap.size) (fun i _ => xs.length - (intOf i).toNat)
  case atStart => exact ⟨0, _, [], Nat.zero_le _, rfl, hrow, rfl, rfl, fun j x h => by simp at h, hb0, hs0⟩
  case round =>
    obtain ⟨k, f, ms, hk, rfl, hrw, hml, hmc, hms, hbel, hsz⟩ := hrel
    clear hrow hb0 hs0
    by_cases hlt : k < xs.length
    · obtain ⟨-, h | ⟨b, o, rfl, hc⟩⟩ := hr
      · subst h; simp at hlt
      obtain ⟨⟨s1, wa, wc, ka, kc⟩, hx⟩ : ∃ x, xs[k] = x := ⟨_, rfl⟩
      have gx : xs[k]? = some ⟨s1, wa, wc, ka, kc⟩ := by rw [List.getElem?_eq_getElem hlt, hx]
      obtain ⟨⟨p0, p1, p2, p3, p4, p5, p6⟩, pr, pi, -⟩ := (hc k _ gx).later hbel
      simp only [Tg.hd] at p0 p1 p2 p3 p4 p5 p6 pi pr
      clear hx
      have HTO := kide (toTNode_any s1 wa ka wc kc wr pr pi)
      have GX : Hid _ := gx
      have HML : Hid _ := hml
      have HMC : Hid _ := hmc
      have HMS : Hid _ := hms
      have HR : Hid _ := hrw
      have HB : Hid _ := hbel
      have i0 : (k : Int) < (xs.length : Int) := by omega
      clear gx hml hmc hms hc hrw hbel hmk pr pi
      obtain ⟨op, vr, aa, bb, bw, ws, ks⟩ := s1
      simp only [] at p0 p1 p2 p3 p4 p5 p6 HTO
      go_wp2_with fail
      refine Calls.mono HTO.out ?_
      rintro e w1 ⟨g, g', rfl, hg, hg', hown, hown', hb1⟩
      have hr1 := World.rowIs.of_block HR.out (hb1.block _ hsz)
      have q0 := hr1.cell (i := k * 7) (by omega)
      have q1 := hr1.cell (i := k * 7 + 1) (by omega)
      have q2 := hr1.cell (i := k * 7 + 2) (by omega)
      have q3 := hr1.cell (i := k * 7 + 3) (by omega)
      have q4 := hr1.cell (i := k * 7 + 4) (by omega)
      have q5 := hr1.cell (i := k * 7 + 5) (by omega)
      have q6 := hr1.cell (i := k * 7 + 6) (by omega)
      have r0 := hr1.frozen (k * 7)
      have r1 := hr1.frozen (k * 7 + 1)
      have r2 := hr1.frozen (k * 7 + 2)
      have r3 := hr1.frozen (k * 7 + 3)
      have r4 := hr1.frozen (k * 7 + 4)
      have r5 := hr1.frozen (k * 7 + 5)
      have r6 := hr1.frozen (k * 7 + 6)
      have HR1 : Hid _ := hr1
      clear hr1
      go_wp2_with fail
      go_roundw
      case rel =>
        have hl := HML.out
        have hgk : w.heap.size < g := by omega
        have hgk' : w.heap.size < g' := by omega
        refine ⟨k + 1, _, ms ++ [⟨⟨op, vr, aa, bb, bw, ws, ks⟩, some ⟨g, 0, none⟩, ws.length, some ⟨g', 0, none⟩, ks.length⟩], by omega, by go_num, (World.rowIs.set (World.rowIs.set (World.rowIs.set (World.rowIs.set (World.rowIs.set (World.rowIs.set (World.rowIs.set HR1.out (k * 7) (.int .i64 op)) (k * 7 + 1) (.int .i64 vr)) (k * 7 + 2) (.int .i64 aa)) (k * 7 + 3) (.int .i64 bb)) (k * 7 + 4) (.int .i64 bw)) (k * 7 + 5) (.slice (some ⟨g, 0, none⟩) ws.length ws.length)) (k * 7 + 6) (.slice (some ⟨g', 0, none⟩) ks.length ks.length)), by simp [hl], ?_, fun j x hj => ?_, ?_, ?_⟩
        · have h := HMC.out
          rw [List.map_append, h, List.take_add_one, GX.out, List.map_append]
          rfl
        · rw [List.getElem?_append] at hj
          split at hj
          · refine ((HMS.out j x hj).later hb1).put (k := k) (fun g' hg' => ?_) (fun i hi => ?_) (by omega)
            · rw [heap_setCell_other _ _ _ _ (by simp; omega), heap_setCell_other _ _ _ _ (by simp; omega), heap_setCell_other _ _ _ _ (by simp; omega), heap_setCell_other _ _ _ _ (by simp; omega), heap_setCell_other _ _ _ _ (by simp; omega), heap_setCell_other _ _ _ _ (by simp; omega), heap_setCell_other _ _ _ _ (by simp; omega)]
            · show (if _ then _ else _) = _
              rw [if_neg (by omega), if_neg (by omega), if_neg (by omega), if_neg (by omega), if_neg (by omega), if_neg (by omega), if_neg (by omega)]
          · have hj2 : j - ms.length = 0 := by
              have := (List.getElem?_eq_some_iff.1 hj).1
              simp at this; exact this
            rw [hj2] at hj
            simp at hj
            subst hj
            have hjk : j = k := by omega
            subst hjk
            refine ⟨⟨by simp, by simp, by simp, by simp, by simp, by simp, by simp⟩, ⟨g, rfl, hgk, ?_⟩, g', rfl, hgk', ?_⟩
            · iterate 7 (refine Own.other ?_ (by simp; omega) _)
              exact hown
            · iterate 7 (refine OwnI.other ?_ (by simp; omega) _)
              exact hown'
        · have hbb := HB.out.trans (hb1.mono HB.out.size)
          exact ((((((hbb.setCell (Nat.le_refl _) _).setCell (Nat.le_refl _) _).setCell (Nat.le_refl _) _).setCell (Nat.le_refl _) _).setCell (Nat.le_refl _) _).setCell (Nat.le_refl _) _).setCell (Nat.le_refl _) _
        · have := hb1.size
          simp; omega
      case measure => simp [intOf]; omega
    · have e : k = xs.length := by omega
      have HM : Hid _ := hml
      have HC : Hid _ := hmc
      have HS : Hid _ := hms
      have HR : Hid _ := hrw
      have HB : Hid _ := hbel
      have HE : Hid _ := e
      clear hml hmc hms hrw hbel e hmk
      go_wp2_with fail
      go_ret
      refine ⟨ms, rfl, ?_, ⟨by rw [HM.out]; omega, .inr ⟨_, 0, rfl, fun i x hi => ?_⟩⟩, ⟨fun b o sp h => by cases h; exact Nat.le_refl _, fun x hx => ?_⟩, ⟨f, HR.out, HS.out⟩, HB.out⟩
      · have h := HC.out
        rw [HE.out, List.take_length] at h
        exact h
      · obtain ⟨⟨h0, h1, h2, h3, h4, h4', h4''⟩, ⟨g, h5, h6, h7⟩, g', h8, h9, h10⟩ := HS.out i x hi
        have hik : i < k := by have := (List.getElem?_eq_some_iff.1 hi).1; rw [HM.out] at this; exact this
        have hct : ∃ y, xs[i]? = some y ∧ y.ct = x.ct := by
          have h := HC.out
          rw [HE.out, List.take_length] at h
          have h' : (ms.map Tg.ct)[i]? = (xs.map Tg.ct)[i]? := by rw [h]
          rw [List.getElem?_map, List.getElem?_map, hi, Option.map_some] at h'
          cases hy : xs[i]? with
          | none => rw [hy] at h'; cases h'
          | some y => rw [hy] at h'; simp at h'; exact ⟨y, rfl, h'.symm⟩
        obtain ⟨y, hy, hyx⟩ := hct
        obtain ⟨-, hn | ⟨b, o, -, hc⟩⟩ := hr
        · subst hn; simp at hy
        obtain ⟨-, ⟨l1, l2, -⟩, ⟨m1, m2, -⟩, l3⟩ := hc i y hy
        rw [hyx] at l1 l2 l3 m1 m2
        refine ⟨⟨?_, ?_, ?_, ?_, ?_, ?_, ?_⟩, ?_, ?_, l3⟩
        · rw [Nat.zero_add]; exact (World.rowIs.cell HR.out (by omega)).trans (congrArg some h0)
        · rw [Nat.zero_add]; exact (World.rowIs.cell HR.out (by omega)).trans (congrArg some h1)
        · rw [Nat.zero_add]; exact (World.rowIs.cell HR.out (by omega)).trans (congrArg some h2)
        · rw [Nat.zero_add]; exact (World.rowIs.cell HR.out (by omega)).trans (congrArg some h3)
        · rw [Nat.zero_add]; exact (World.rowIs.cell HR.out (by omega)).trans (congrArg some h4)
        · rw [Nat.zero_add]; exact (World.rowIs.cell HR.out (by omega)).trans (congrArg some h4')
        · rw [Nat.zero_add]; exact (World.rowIs.cell HR.out (by omega)).trans (congrArg some h4'')
        · rw [h5]
          exact Own.rd h7 l1 l2
        · rw [h8]
          exact OwnI.rd h10 m1 m2
      · obtain ⟨i, hi, e⟩ := List.mem_iff_getElem.1 hx
        obtain ⟨-, ⟨g, h5, h6, -⟩, g', h8, h9, -⟩ := HS.out i x (by rw [List.getElem?_eq_getElem hi, e])
        refine ⟨fun b o sp h => ?_, fun b o sp h => ?_⟩
        · rw [h5] at h; cases h; omega
        · rw [h8] at h; cases h; omega

theorem toTerm_own (a : Option Addr) (c : Nat) (xs : List Tg) (w : World) (hr : RdT w a xs) (n : Nat) (hn : xs.length = n) :
    Calls Tryz.prog 9 #[.agg #[.slice a n c]] w fun e w' => ∃ (g : Nat) (ms : List Tg), e = .returned (.agg #[.slice (some ⟨g, 0, none⟩) n n]) ∧ ms.map Tg.ct = xs.map Tg.ct ∧ RdT w' (some ⟨g, 0, none⟩) ms ∧ FarT w.heap.size (some ⟨g, 0, none⟩) ms ∧ w.heap.size ≤ g ∧ (∃ f, w'.rowIs g 63 (n * 7) f ∧ ∀ j x, ms[j]? = some x → TgOwn w' g f j x) ∧ Below w.heap.size w w' := by
  subst hn
  go_enter Tryz.func9, Tryz.ntmps9
  go_wp2_with fail
  refine (toTNodeS_own a c xs _ ?_).mono ?_
  · refine hr.later (Below.alloc (Below.alloc (Below.alloc (Below.refl _ _) ?_ _) ?_ _) ?_ _)
    all_goals first | exact Nat.le_refl _ | (simp; done) | (simp; omega)
  rintro e w1 ⟨ms, rfl, hms, hrd, hfar, ⟨f, hrow, hown⟩, hb⟩
  have hc := kcell hb
  have hz : w.heap.size + 1 + 1 < w1.heap.size := by have := hb.size; simp at this; omega
  have hf := (bcell hb).2
  have HO := kide hrd
  have HFR := kide hfar
  have HB := kide hb
  have HM := kide hms
  have HRW := kide hrow
  have HWN := kide hown
  clear hrd hb hr hms hfar hrow hown
  go_wp2_with fail
  refine bodyPost_ret (v := .agg #[.slice (some ⟨w.heap.size + 1 + 1 + 1, 0, none⟩) xs.length xs.length]) (by simp [results, Tryz.results9, go_sem, hc]) rfl ⟨_, ms, rfl, HM.out, ?_, ?_, by omega, ?_, ?_⟩
  · have h := HO.out
    have hf2 := HFR.out
    simp only [World.size_alloc] at h hf2
    exact (h.set hf2 (by first | (simp; done) | (simp; omega)) _).set hf2 (by first | (simp; done) | (simp; omega)) _
  · have hf2 := HFR.out
    simp only [World.size_alloc] at hf2
    exact hf2.mono (by omega)
  · have h := HRW.out
    have h2 := HWN.out
    simp only [World.size_alloc] at h h2
    refine ⟨f, World.rowIs.of_block h (by rw [heap_setCell_other _ _ _ _ (by simp; omega), heap_setCell_other _ _ _ _ (by simp)]), fun j x hj => ?_⟩
    obtain ⟨h0, ⟨g, h5, h6, h7⟩, g', h8, h9, h10⟩ := h2 j x hj
    exact ⟨h0, ⟨g, h5, h6, (h7.other (by simp; omega) _).other (by simp; omega) _⟩, g', h8, h9, (h10.other (by simp; omega) _).other (by simp; omega) _⟩
  · have h := HB.out
    have h0 : Below w.heap.size w w1 := by
      refine Below.trans (Below.alloc (Below.alloc (Below.alloc (Below.refl _ _) ?_ _) ?_ _) ?_ _) (h.mono ?_)
      all_goals first | exact Nat.le_refl _ | (simp; done) | (simp; omega)
    exact (h0.setCell (by simp; omega) _).setCell (by simp) _



/-- A node's rows may be written, between two blocks. -/
def WrT (w : World) (B1 B2 : Nat) (x : Tg) : Prop := (∃ g zs, x.wa = some ⟨g, 0, none⟩ ∧ B1 ≤ g ∧ g < B2 ∧ Own w g zs ∧ zs.length = x.ct.ws.length) ∧ ∃ g zs, x.ka = some ⟨g, 0, none⟩ ∧ B1 ≤ g ∧ g < B2 ∧ OwnI w g zs ∧ zs.length = x.ct.ks.length

theorem u64s_len {xs ys : List Nat} (h : u64s xs = u64s ys) : xs.length = ys.length := by
  have := congrArg Array.size h
  simpa [u64s] using this

theorem i64s_len {xs ys : List Int} (h : i64s xs = i64s ys) : xs.length = ys.length := by
  have := congrArg Array.size h
  simpa [i64s] using this

theorem own_len {w : World} {g : Nat} {xs ys : List Nat} (h : Own w g xs) (h' : Own w g ys) : xs.length = ys.length := by
  unfold Own at h h'
  rw [h] at h'
  simp only [Option.some.injEq, Obj.cells.injEq, and_true] at h'
  exact u64s_len h'

theorem ownI_len {w : World} {g : Nat} {xs ys : List Int} (h : OwnI w g xs) (h' : OwnI w g ys) : xs.length = ys.length := by
  unfold OwnI at h h'
  rw [h] at h'
  simp only [Option.some.injEq, Obj.cells.injEq, and_true] at h'
  exact i64s_len h'

theorem own_ne {w : World} {g g' : Nat} {xs : List Nat} {ys : List Int} (h : Own w g xs) (h' : OwnI w g' ys) : g ≠ g' := by
  rintro rfl
  unfold Own at h
  unfold OwnI at h'
  rw [h] at h'
  simp only [Option.some.injEq, Obj.cells.injEq] at h'
  exact absurd h'.2.1 (by decide)

theorem WrT.words {w w' : World} {B1 B2 g : Nat} {x : Tg} (h : WrT w B1 B2 x) (hg : w.grownBy w' (some g)) {zs zs' : List Nat} (ho : Own w g zs) (ho' : Own w' g zs') (hl : zs'.length = zs.length) : WrT w' B1 B2 x := by
  obtain ⟨⟨g1, y1, a1, a2, a3, a4, a5⟩, g2, y2, b1, b2, b3, b4, b5⟩ := h
  have hn := own_ne ho b4
  refine ⟨?_, g2, y2, b1, b2, b3, ?_, b5⟩
  · by_cases e : g1 = g
    · subst e
      exact ⟨g1, zs', a1, a2, a3, ho', by rw [hl, ← a5]; exact own_len ho a4⟩
    · refine ⟨g1, y1, a1, a2, a3, ?_, a5⟩
      unfold Own
      rw [hg.block g1 a4.lt (fun e' => e (by cases e'; rfl))]
      exact a4
  · unfold OwnI
    rw [hg.block g2 b4.lt (fun e' => hn (by cases e'; rfl))]
    exact b4

theorem WrT.kids {w w' : World} {B1 B2 g : Nat} {x : Tg} (h : WrT w B1 B2 x) (hg : w.grownBy w' (some g)) {zs zs' : List Int} (ho : OwnI w g zs) (ho' : OwnI w' g zs') (hl : zs'.length = zs.length) : WrT w' B1 B2 x := by
  obtain ⟨⟨g1, y1, a1, a2, a3, a4, a5⟩, g2, y2, b1, b2, b3, b4, b5⟩ := h
  have hn := own_ne a4 ho
  refine ⟨⟨g1, y1, a1, a2, a3, ?_, a5⟩, ?_⟩
  · unfold Own
    rw [hg.block g1 a4.lt (fun e' => hn (by cases e'; rfl))]
    exact a4
  · by_cases e : g2 = g
    · subst e
      exact ⟨g2, zs', b1, b2, b3, ho', by rw [hl, ← b5]; exact ownI_len ho b4⟩
    · refine ⟨g2, y2, b1, b2, b3, ?_, b5⟩
      unfold OwnI
      rw [hg.block g2 b4.lt (fun e' => e (by cases e'; rfl))]
      exact b4

theorem WrT.row {w w' : World} {B1 B2 g N : Nat} {x : Tg} {f : Nat → Value} (h : WrT w B1 B2 x) (hr : w.rowIs g 63 N f) (hg : w.grownBy w' (some g)) : WrT w' B1 B2 x := by
  obtain ⟨⟨g1, y1, a1, a2, a3, a4, a5⟩, g2, y2, b1, b2, b3, b4, b5⟩ := h
  obtain ⟨cc, hh, -⟩ := hr
  refine ⟨⟨g1, y1, a1, a2, a3, ?_, a5⟩, g2, y2, b1, b2, b3, ?_, b5⟩
  · unfold Own
    rw [hg.block g1 a4.lt (fun e' => by
      cases e'
      unfold Own at a4
      rw [hh] at a4
      cases a4)]
    exact a4
  · unfold OwnI
    rw [hg.block g2 b4.lt (fun e' => by
      cases e'
      unfold OwnI at b4
      rw [hh] at b4
      cases b4)]
    exact b4

theorem WrT.out {w w' : World} {B1 B2 C1 C2 : Nat} {x : Tg} (h : WrT w B1 B2 x) (ho : Out C1 C2 w w') (hd : C2 ≤ B1 ∨ B2 ≤ C1) : WrT w' B1 B2 x := by
  obtain ⟨⟨g1, y1, a1, a2, a3, a4, a5⟩, g2, y2, b1, b2, b3, b4, b5⟩ := h
  refine ⟨⟨g1, y1, a1, a2, a3, ?_, a5⟩, g2, y2, b1, b2, b3, ?_, b5⟩
  · unfold Own
    rw [ho.2.2.2.2 g1 a4.lt (by omega)]
    exact a4
  · unfold OwnI
    rw [ho.2.2.2.2 g2 b4.lt (by omega)]
    exact b4

theorem TgOwn.wr {w : World} {G j B1 : Nat} {f : Nat → Value} {x : Tg} (h : TgOwn w G f j x) (hB : B1 ≤ G) : WrT w B1 w.heap.size x := by
  obtain ⟨-, ⟨g, h5, h6, h7⟩, g', h8, h9, h10⟩ := h
  exact ⟨⟨g, x.ct.ws, h5, by omega, h7.lt, h7, rfl⟩, g', x.ct.ks, h8, by omega, h10.lt, h10, rfl⟩

/-- Of a row of nodes only the slices count here. -/
def TnF (f : Nat → Value) (xs : List Tg) : Prop := ∀ i x, xs[i]? = some x → (∃ k0 k1 k2 k3 k4 : Int, f (i * 7) = .int .i64 k0 ∧ f (i * 7 + 1) = .int .i64 k1 ∧ f (i * 7 + 2) = .int .i64 k2 ∧ f (i * 7 + 3) = .int .i64 k3 ∧ f (i * 7 + 4) = .int .i64 k4) ∧ f (i * 7 + 5) = .slice x.wa x.ct.ws.length x.wc ∧ f (i * 7 + 6) = .slice x.ka x.ct.ks.length x.kc

theorem TgOwn.tnf {w : World} {G : Nat} {f : Nat → Value} {xs : List Tg} (h : ∀ j x, xs[j]? = some x → TgOwn w G f j x) : TnF f xs := fun i x hi => by
  obtain ⟨⟨h0, h1, h2, h3, h4, h5, h6⟩, -⟩ := h i x hi
  exact ⟨⟨_, _, _, _, _, h0, h1, h2, h3, h4⟩, h5, h6⟩

theorem World.grownBy.more {w wr w1 : World} {g : Nat} (h : w.grownBy wr (some g)) (hb : wr.grownBy w1 (some g)) : w.grownBy w1 (some g) := ⟨hb.os.trans h.os, hb.tape.trans h.tape, hb.output.trans h.output, Nat.le_trans h.size hb.size, fun q hq hne => (hb.block q (Nat.lt_of_lt_of_le hq h.size) hne).trans (h.block q hq hne)⟩

set_option maxHeartbeats 1000000 in
theorem markTNodeS_any (g c n k B1 B2 : Nat) (xs : List Tg) (w : World) (f : Nat → Value) (hr : w.rowIs g 63 (n * 7) f) (hf : TnF f xs) (hx : ∀ x ∈ xs, WrT w B1 B2 x ∧ x.ct.ws.length ≤ 1048576 ∧ x.ct.ks.length ≤ 1048576) (hn : xs.length = n) (hn2 : n ≤ 1048576) (hk : k ≤ 4194304) (hg1 : B1 ≤ g) (hg2 : g < B2) :
    Calls Tryz.prog 33 #[.slice (some ⟨g, 0, none⟩) n c, .int .i64 (k : Int)] w fun e w' => (∃ r : Int, 0 ≤ r ∧ e = .returned (.int .i64 r)) ∧ Out B1 B2 w w' := by
  have HN := kide hn
  clear hn
  go_enter Tryz.func33, Tryz.ntmps33
  go_wp2_with fail
  go_loopw [1, 5] (fun q i wr => ∃ (j K : Nat) (f : Nat → Value), j ≤ n ∧ i = .int .i64 (j : Int) ∧ q = .int .i64 (K : Int) ∧ K ≤ 4194304 + j * 2097157 ∧ wr.rowIs g 63 (n * 7) f ∧ TnF f xs ∧ (∀ x ∈ xs, WrT wr B1 B2 x ∧ x.ct.ws.length ≤ 1048576 ∧ x.ct.ks.length ≤ 1048576) ∧ Out B1 B2 w wr) (fun _ i _ => n - (intOf i).toNat)
  case atStart => exact ⟨0, k, f, Nat.zero_le _, rfl, rfl, by omega, hr, hf, hx, Out.refl _ _ _⟩
  case round =>
    clear hr hf hx
    obtain ⟨j, K, f, hj, rfl, rfl, hK, hrow, hf, hxs, hout⟩ := hrel
    have HO := kide hout
    have HRW := kide hrow
    have HXS := kide hxs
    have HF := kide hf
    by_cases hlt : j < n
    · obtain ⟨⟨s1, wa, wc, ka, kc⟩, gx⟩ : ∃ x, xs[j]? = some x := ⟨xs[j]'(by rw [HN.out]; exact hlt), List.getElem?_eq_getElem _⟩
      obtain ⟨hw, hwl, hkl⟩ := hxs _ (List.mem_of_getElem? gx)
      obtain ⟨⟨k0, k1, k2, k3, k4, e0, e1, e2, e3, e4⟩, e5, e6⟩ := hf j _ gx
      have HWT := kide hw
      obtain ⟨⟨ga, za, a1, a2, a3, a4, a5⟩, gb, zb, b1, b2, b3, b4, b5⟩ := hw
      simp only [] at e5 e6 hwl hkl a1 a5 b1 b5
      subst a1
      subst b1
      have q0 := hrow.cell (i := j * 7) (by omega)
      have q1 := hrow.cell (i := j * 7 + 1) (by omega)
      have q2 := hrow.cell (i := j * 7 + 2) (by omega)
      have q3 := hrow.cell (i := j * 7 + 3) (by omega)
      have q4 := hrow.cell (i := j * 7 + 4) (by omega)
      have q5 := hrow.cell (i := j * 7 + 5) (by omega)
      have q6 := hrow.cell (i := j * 7 + 6) (by omega)
      rw [e0] at q0
      rw [e1] at q1
      rw [e2] at q2
      rw [e3] at q3
      rw [e4] at q4
      rw [e5] at q5
      rw [e6] at q6
      have r0 := hrow.frozen (j * 7)
      have r1 := hrow.frozen (j * 7 + 1)
      have r2 := hrow.frozen (j * 7 + 2)
      have r3 := hrow.frozen (j * 7 + 3)
      have r4 := hrow.frozen (j * 7 + 4)
      have hKb : K ≤ 2199032692736 := by
        have : j * 2097157 ≤ 1048576 * 2097157 := Nat.mul_le_mul_right _ (by omega)
        omega
      have HKN := kide hK
      have i0 : (j : Int) < (n : Int) := by omega
      have hga : g ≠ ga := by
        rintro rfl
        obtain ⟨cc, hh, -⟩ := HRW.out
        unfold Own at a4
        rw [hh] at a4
        cases a4
      have hgb : g ≠ gb := by
        rintro rfl
        obtain ⟨cc, hh, -⟩ := HRW.out
        unfold OwnI at b4
        rw [hh] at b4
        cases b4
      have hab := own_ne a4 b4
      have A4 := kide a4
      have A5 := kide a5
      have B4 := kide b4
      have B5 := kide b5
      have E5 := kide e5
      have E6 := kide e6
      have GX := kide gx
      clear hout hrow hxs hf gx hK a4 a5 b4 b5 e0 e1 e2 e3 e4 e5 e6
      go_wp2_with fail
      have HR1 := kide (World.rowIs.set (World.rowIs.set (World.rowIs.set (World.rowIs.set (World.rowIs.set HRW.out (j * 7) (.int .i64 (K : Int))) (j * 7 + 1) (.int .i64 ((K : Int) + 1))) (j * 7 + 2) (.int .i64 ((K : Int) + 1 + 1))) (j * 7 + 3) (.int .i64 ((K : Int) + 1 + 1 + 1))) (j * 7 + 4) (.int .i64 ((K : Int) + 1 + 1 + 1 + 1)))
      have hgl : g < wr.heap.size := by obtain ⟨cc, hh, -⟩ := HRW.out; exact lt_of_block hh
      have HG1 := kide (grow_set (grow_set (grow_set (grow_set (grow_set (World.grownBy.refl wr (some g)) (j * 7) (.int .i64 (K : Int))) (j * 7 + 1) (.int .i64 ((K : Int) + 1))) (j * 7 + 2) (.int .i64 ((K : Int) + 1 + 1))) (j * 7 + 3) (.int .i64 ((K : Int) + 1 + 1 + 1))) (j * 7 + 4) (.int .i64 ((K : Int) + 1 + 1 + 1 + 1)))
      generalize ((((wr.setCell ⟨g, j * 7, none⟩ (.int .i64 (K : Int))).setCell ⟨g, j * 7 + 1, none⟩ (.int .i64 ((K : Int) + 1))).setCell ⟨g, j * 7 + 2, none⟩ (.int .i64 ((K : Int) + 1 + 1))).setCell ⟨g, j * 7 + 3, none⟩ (.int .i64 ((K : Int) + 1 + 1 + 1))).setCell ⟨g, j * 7 + 4, none⟩ (.int .i64 ((K : Int) + 1 + 1 + 1 + 1)) = w1 at *
      have hf1 : ∃ f1, w1.rowIs g 63 (n * 7) f1 ∧ TnF f1 xs := ⟨_, HR1.out, fun i x hi => by
        obtain ⟨⟨k0', k1', k2', k3', k4', e0, e1, e2, e3, e4⟩, e5, e6⟩ := HF.out i x hi
        by_cases hij : i = j
        · subst hij
          refine ⟨⟨K, K + 1, K + 1 + 1, K + 1 + 1 + 1, K + 1 + 1 + 1 + 1, ?_, ?_, ?_, ?_, ?_⟩, ?_, ?_⟩
          all_goals first | exact e5 | exact e6 | skip
          all_goals simp
          all_goals first | exact e5 | exact e6
        · refine ⟨⟨k0', k1', k2', k3', k4', ?_, ?_, ?_, ?_, ?_⟩, ?_, ?_⟩
          all_goals
            show (if _ then _ else _) = _
            rw [if_neg (by omega), if_neg (by omega), if_neg (by omega), if_neg (by omega), if_neg (by omega)]
            assumption⟩
      obtain ⟨f1, hrow1, htn1⟩ := hf1
      have W1 : Hid (∀ x ∈ xs, WrT w1 B1 B2 x ∧ x.ct.ws.length ≤ 1048576 ∧ x.ct.ks.length ≤ 1048576) := fun x hx => ⟨(HXS.out x hx).1.row HRW.out HG1.out, (HXS.out x hx).2⟩
      have O1 := kide (HO.out.trans (Out.grown HG1.out hg1 hg2))
      have A41 : Hid (Own w1 ga za) := by
        show w1.heap[ga]? = _
        rw [HG1.out.block ga A4.out.lt (fun e => hga (by cases e; rfl))]
        exact A4.out
      have B41 : Hid (OwnI w1 gb zb) := by
        show w1.heap[gb]? = _
        rw [HG1.out.block gb B4.out.lt (fun e => hgb (by cases e; rfl))]
        exact B4.out
      have e51 := (htn1 j _ GX.out).2.1
      have e61 := (htn1 j _ GX.out).2.2
      have R1 := kide hrow1
      have T1 := kide htn1
      clear hrow1 htn1 HR1 HG1 HRW HF HXS HO A4 B4 q0 q1 q2 q3 q4 q5 q6 r0 r1 r2 r3 r4 E5 E6 HWT
      obtain ⟨K5, hK5⟩ : ∃ K5 : Nat, K + 5 = K5 := ⟨_, rfl⟩
      have hKe : (K : Int) + 1 + 1 + 1 + 1 + 1 = (K5 : Int) := by omega
      rw [hKe]
      have HK5 := kide hK5
      have hKb5 : K5 ≤ 2199032692741 := by omega
      clear hK5 hKb
      refine Calls.mono (markUint64S_any ga wc s1.ws.length K5 za w1 A41.out A5.out hwl (by omega)) ?_
      rintro e w2 ⟨rfl, ⟨za', ho2, hl2⟩, hgr2⟩
      have R2 : Hid (w2.rowIs g 63 (n * 7) f1) := World.rowIs.of_block R1.out (hgr2.block g (by obtain ⟨cc, hh, -⟩ := R1.out; exact lt_of_block hh) (fun e => hga (by cases e; rfl)))
      have W2 : Hid (∀ x ∈ xs, WrT w2 B1 B2 x ∧ x.ct.ws.length ≤ 1048576 ∧ x.ct.ks.length ≤ 1048576) := fun x hx => ⟨(W1.out x hx).1.words hgr2 A41.out ho2 (by have := A5.out; omega), (W1.out x hx).2⟩
      have B42 : Hid (OwnI w2 gb zb) := by
        show w2.heap[gb]? = _
        rw [hgr2.block gb B41.out.lt (fun e => hab (by cases e; rfl))]
        exact B41.out
      have O2 := kide (O1.out.trans (Out.grown hgr2 a2 a3))
      have q5 := R2.out.cell (i := j * 7 + 5) (by omega)
      have q6 := R2.out.cell (i := j * 7 + 6) (by omega)
      rw [e51] at q5
      rw [e61] at q6
      simp only [] at q5 q6
      clear ho2 hl2 hgr2 W1 O1 R1 A41 B41 e51 e61 A5
      obtain ⟨K6, hK6⟩ : ∃ K6 : Nat, K5 + s1.ws.length = K6 := ⟨_, rfl⟩
      rw [hK6]
      have HK6 := kide hK6
      have hKb6 : K6 ≤ 2199033741317 := by omega
      clear hK6 hKb5
      go_wp2_with fail
      refine Calls.mono (markInt64S_any gb kc s1.ks.length K6 zb w2 B42.out B5.out hkl (by omega)) ?_
      rintro e w3 ⟨rfl, ⟨zb', ho3, hl3⟩, hgr3⟩
      have R3 : Hid (w3.rowIs g 63 (n * 7) f1) := World.rowIs.of_block R2.out (hgr3.block g (by obtain ⟨cc, hh, -⟩ := R2.out; exact lt_of_block hh) (fun e => hgb (by cases e; rfl)))
      have W3 : Hid (∀ x ∈ xs, WrT w3 B1 B2 x ∧ x.ct.ws.length ≤ 1048576 ∧ x.ct.ks.length ≤ 1048576) := fun x hx => ⟨(W2.out x hx).1.kids hgr3 B42.out ho3 (by have := B5.out; omega), (W2.out x hx).2⟩
      have O3 := kide (O2.out.trans (Out.grown hgr3 b2 b3))
      have HKF : Hid (K6 + s1.ks.length ≤ 4194304 + (j + 1) * 2097157) := by
        show _ ≤ _
        have h1 := HKN.out
        have h2 := HK5.out
        have h3 := HK6.out
        rw [Nat.succ_mul]
        omega
      clear ho3 hl3 hgr3 W2 O2 R2 B42 q5 q6
      go_wp2_with fail
      go_roundw
      case rel => exact ⟨j + 1, K6 + s1.ks.length, f1, by omega, by go_num, rfl, HKF.out, R3.out, T1.out, W3.out, O3.out⟩
      case measure => simp [intOf]; omega
    · have e : j = n := by omega
      clear hout hrow hxs hf
      go_wp2_with fail
      go_ret
      exact ⟨⟨_, by omega, rfl⟩, HO.out⟩

theorem markTerm_any (g c n k B1 B2 : Nat) (xs : List Tg) (w : World) (f : Nat → Value) (hr : w.rowIs g 63 (n * 7) f) (hf : TnF f xs) (hx : ∀ x ∈ xs, WrT w B1 B2 x ∧ x.ct.ws.length ≤ 1048576 ∧ x.ct.ks.length ≤ 1048576) (hn : xs.length = n) (hn2 : n ≤ 1048576) (hk : k ≤ 4194304) (hg1 : B1 ≤ g) (hg2 : g < B2) :
    Calls Tryz.prog 15 #[.agg #[.slice (some ⟨g, 0, none⟩) n c], .int .i64 (k : Int)] w fun e w' => (∃ r : Int, 0 ≤ r ∧ e = .returned (.int .i64 r)) ∧ Out B1 B2 w w' := by
  have hb0 : Below w.heap.size w (w.alloc (Obj.cells #[Value.slice (some ⟨g, 0, none⟩) n c] 34)) := (Below.refl _ _).alloc (Nat.le_refl _) _
  have hgl : g < w.heap.size := by obtain ⟨cc, hh, -⟩ := hr; exact lt_of_block hh
  have HC := kide (markTNodeS_any g c n k B1 B2 xs _ f (World.rowIs.of_block hr (hb0.block g hgl)) hf (fun x hx' => ⟨(hx x hx').1.out (Out.ofB (B1 := B2) (B2 := B2) hb0) (.inr (Nat.le_refl _)), (hx x hx').2⟩) hn hn2 hk hg1 hg2)
  have B0 := kide hb0
  clear hr hf hx hn hb0
  go_enter Tryz.func15, Tryz.ntmps15
  go_wp2_with fail
  refine Calls.mono HC.out ?_
  rintro e w1 ⟨⟨r, hr, rfl⟩, ho⟩
  have HO := kide ((Out.ofB B0.out).trans ho)
  clear ho
  go_wp2_with fail
  go_ret
  exact ⟨⟨r, hr, rfl⟩, HO.out⟩

/-- A copied term, as the law carries it. -/
theorem toTerm_wr (a : Option Addr) (c : Nat) (xs : List Tg) (w : World) (hr : RdT w a xs) (n : Nat) (hn : xs.length = n) :
    Calls Tryz.prog 9 #[.agg #[.slice a n c]] w fun e w' => ∃ (g : Nat) (ms : List Tg), e = .returned (.agg #[.slice (some ⟨g, 0, none⟩) n n]) ∧ ms.map Tg.ct = xs.map Tg.ct ∧ w.heap.size ≤ g ∧ RdT w' (some ⟨g, 0, none⟩) ms ∧ (∃ f, w'.rowIs g 63 (n * 7) f ∧ TnF f ms) ∧ (∀ x ∈ ms, WrT w' w.heap.size w'.heap.size x ∧ x.ct.ws.length ≤ 1048576 ∧ x.ct.ks.length ≤ 1048576) ∧ Below w.heap.size w w' := by
  refine Calls.mono (toTerm_own a c xs w hr n hn) ?_
  rintro e w' ⟨g, ms, h1, h2, h3, h4, h5, ⟨f, h6, h7⟩, h8⟩
  refine ⟨g, ms, h1, h2, h5, h3, ⟨f, h6, TgOwn.tnf h7⟩, fun x hx => ?_, h8⟩
  obtain ⟨i, hi, e⟩ := List.mem_iff_getElem.1 hx
  have hi' : ms[i]? = some x := by rw [List.getElem?_eq_getElem hi, e]
  refine ⟨(h7 i x hi').wr h5, ?_⟩
  obtain ⟨-, h | ⟨b, o, -, hc⟩⟩ := h3
  · subst h; simp at hx
  · obtain ⟨-, r1, r2, -⟩ := hc i x hi'
    exact ⟨r1.1, r2.1⟩

end Go.Proofs.YtdlmgndmfphneaaGreatDoor

/- Copied terms, and how much room the Kids of their nodes have. -/
namespace Go.Proofs.YtdlmgndmfphneaaGreatDoor
set_option linter.unusedVariables false
set_option linter.unusedSimpArgs false
open Go.RowKit

set_option maxHeartbeats 1000000 in
theorem toTNodeS_ownC (a : Option Addr) (c : Nat) (xs : List Tg) (w : World) (hr : RdT w a xs) :
    Calls Tryz.prog 27 #[.slice a xs.length c] w fun e w' => ∃ ms : List Tg, e = .returned (.slice (some ⟨w.heap.size, 0, none⟩) xs.length xs.length) ∧ ms.map Tg.ct = xs.map Tg.ct ∧ RdT w' (some ⟨w.heap.size, 0, none⟩) ms ∧ FarT w.heap.size (some ⟨w.heap.size, 0, none⟩) ms ∧ (∃ f, w'.rowIs w.heap.size 63 (xs.length * 7) f ∧ ∀ j x, ms[j]? = some x → TgOwn w' w.heap.size f j x) ∧ (∀ x ∈ ms, x.kc = x.ct.ks.length) ∧ Below w.heap.size w w' := by
  have hlen := hr.1
  have hmk := make_tnodes xs.length hlen
  go_enter Tryz.func27, Tryz.ntmps27
  go_wp2_with fail
  have hrow := krow (heap_alloc_new w (.cells (madeCells #[.int .i64 0, .int .i64 0, .int .i64 0, .int .i64 0, .int .i64 0, .slice none 0 0, .slice none 0 0] (xs.length * 7)) 63))
  rw [size_madeCells] at hrow
  have hb0 : Below w.heap.size w (w.alloc (.cells (madeCells #[.int .i64 0, .int .i64 0, .int .i64 0, .int .i64 0, .int .i64 0, .slice none 0 0, .slice none 0 0] (xs.length * 7)) 63)) := (Below.refl _ _).alloc (Nat.le_refl _) _
  have hs0 : w.heap.size < (w.alloc (.cells (madeCells #[.int .i64 0, .int .i64 0, .int .i64 0, .int .i64 0, .int .i64 0, .slice none 0 0, .slice none 0 0] (xs.length * 7)) 63)).heap.size := by simp
  generalize (w.alloc (.cells (madeCells #[.int .i64 0, .int .i64 0, .int .i64 0, .int .i64 0, .int .i64 0, .slice none 0 0, .slice none 0 0] (xs.length * 7)) 63)) = w0 at *
  go_loopw [4] (fun i wr => ∃ (k : Nat) (f : Nat → Value) (ms : List Tg), k ≤ xs.length ∧ i = .int .i64 k ∧ wr.rowIs w.heap.size 63 (xs.length * 7) f ∧ ms.length = k ∧ ms.map Tg.ct = (xs.take k).map Tg.ct ∧ (∀ x ∈ ms, x.kc = x.ct.ks.length) ∧ (∀ j x, ms[j]? = some x → TgOwn wr w.heap.size f j x) ∧ Below w.heap.size w wr ∧ w.heap.size < wr.heap.size) (fun i _ => xs.length - (intOf i).toNat)
  case atStart => exact ⟨0, _, [], Nat.zero_le _, rfl, hrow, rfl, rfl, fun x h => by simp at h, fun j x h => by simp at h, hb0, hs0⟩
  case round =>
    obtain ⟨k, f, ms, hk, rfl, hrw, hml, hmc, hkq, hms, hbel, hsz⟩ := hrel
    clear hrow hb0 hs0
    by_cases hlt : k < xs.length
    · obtain ⟨-, h | ⟨b, o, rfl, hc⟩⟩ := hr
      · subst h; simp at hlt
      obtain ⟨⟨s1, wa, wc, ka, kc⟩, hx⟩ : ∃ x, xs[k] = x := ⟨_, rfl⟩
      have gx : xs[k]? = some ⟨s1, wa, wc, ka, kc⟩ := by rw [List.getElem?_eq_getElem hlt, hx]
      obtain ⟨⟨p0, p1, p2, p3, p4, p5, p6⟩, pr, pi, -⟩ := (hc k _ gx).later hbel
      simp only [Tg.hd] at p0 p1 p2 p3 p4 p5 p6 pi pr
      clear hx
      have HTO := kide (toTNode_any s1 wa ka wc kc wr pr pi)
      have GX : Hid _ := gx
      have HML : Hid _ := hml
      have HMC : Hid _ := hmc
      have HMS : Hid _ := hms
      have HKQ : Hid _ := hkq
      have HR : Hid _ := hrw
      have HB : Hid _ := hbel
      have i0 : (k : Int) < (xs.length : Int) := by omega
      clear gx hml hmc hkq hms hc hrw hbel hmk pr pi
      obtain ⟨op, vr, aa, bb, bw, ws, ks⟩ := s1
      simp only [] at p0 p1 p2 p3 p4 p5 p6 HTO
      go_wp2_with fail
      refine Calls.mono HTO.out ?_
      rintro e w1 ⟨g, g', rfl, hg, hg', hown, hown', hb1⟩
      have hr1 := World.rowIs.of_block HR.out (hb1.block _ hsz)
      have q0 := hr1.cell (i := k * 7) (by omega)
      have q1 := hr1.cell (i := k * 7 + 1) (by omega)
      have q2 := hr1.cell (i := k * 7 + 2) (by omega)
      have q3 := hr1.cell (i := k * 7 + 3) (by omega)
      have q4 := hr1.cell (i := k * 7 + 4) (by omega)
      have q5 := hr1.cell (i := k * 7 + 5) (by omega)
      have q6 := hr1.cell (i := k * 7 + 6) (by omega)
      have r0 := hr1.frozen (k * 7)
      have r1 := hr1.frozen (k * 7 + 1)
      have r2 := hr1.frozen (k * 7 + 2)
      have r3 := hr1.frozen (k * 7 + 3)
      have r4 := hr1.frozen (k * 7 + 4)
      have r5 := hr1.frozen (k * 7 + 5)
      have r6 := hr1.frozen (k * 7 + 6)
      have HR1 : Hid _ := hr1
      clear hr1
      go_wp2_with fail
      go_roundw
      case rel =>
        have hl := HML.out
        have hgk : w.heap.size < g := by omega
        have hgk' : w.heap.size < g' := by omega
        refine ⟨k + 1, _, ms ++ [⟨⟨op, vr, aa, bb, bw, ws, ks⟩, some ⟨g, 0, none⟩, ws.length, some ⟨g', 0, none⟩, ks.length⟩], by omega, by go_num, (World.rowIs.set (World.rowIs.set (World.rowIs.set (World.rowIs.set (World.rowIs.set (World.rowIs.set (World.rowIs.set HR1.out (k * 7) (.int .i64 op)) (k * 7 + 1) (.int .i64 vr)) (k * 7 + 2) (.int .i64 aa)) (k * 7 + 3) (.int .i64 bb)) (k * 7 + 4) (.int .i64 bw)) (k * 7 + 5) (.slice (some ⟨g, 0, none⟩) ws.length ws.length)) (k * 7 + 6) (.slice (some ⟨g', 0, none⟩) ks.length ks.length)), by simp [hl], ?_, fun x hx => ?_, fun j x hj => ?_, ?_, ?_⟩
        · have h := HMC.out
          rw [List.map_append, h, List.take_add_one, GX.out, List.map_append]
          rfl
        · rcases List.mem_append.1 hx with hx | hx
          · exact HKQ.out x hx
          · rw [List.mem_singleton.1 hx]
        · rw [List.getElem?_append] at hj
          split at hj
          · refine ((HMS.out j x hj).later hb1).put (k := k) (fun g' hg' => ?_) (fun i hi => ?_) (by omega)
            · rw [heap_setCell_other _ _ _ _ (by simp; omega), heap_setCell_other _ _ _ _ (by simp; omega), heap_setCell_other _ _ _ _ (by simp; omega), heap_setCell_other _ _ _ _ (by simp; omega), heap_setCell_other _ _ _ _ (by simp; omega), heap_setCell_other _ _ _ _ (by simp; omega), heap_setCell_other _ _ _ _ (by simp; omega)]
            · show (if _ then _ else _) = _
              rw [if_neg (by omega), if_neg (by omega), if_neg (by omega), if_neg (by omega), if_neg (by omega), if_neg (by omega), if_neg (by omega)]
          · have hj2 : j - ms.length = 0 := by
              have := (List.getElem?_eq_some_iff.1 hj).1
              simp at this; exact this
            rw [hj2] at hj
            simp at hj
            subst hj
            have hjk : j = k := by omega
            subst hjk
            refine ⟨⟨by simp, by simp, by simp, by simp, by simp, by simp, by simp⟩, ⟨g, rfl, hgk, ?_⟩, g', rfl, hgk', ?_⟩
            · iterate 7 (refine Own.other ?_ (by simp; omega) _)
              exact hown
            · iterate 7 (refine OwnI.other ?_ (by simp; omega) _)
              exact hown'
        · have hbb := HB.out.trans (hb1.mono HB.out.size)
          exact ((((((hbb.setCell (Nat.le_refl _) _).setCell (Nat.le_refl _) _).setCell (Nat.le_refl _) _).setCell (Nat.le_refl _) _).setCell (Nat.le_refl _) _).setCell (Nat.le_refl _) _).setCell (Nat.le_refl _) _
        · have := hb1.size
          simp; omega
      case measure => simp [intOf]; omega
    · have e : k = xs.length := by omega
      have HM : Hid _ := hml
      have HC : Hid _ := hmc
      have HS : Hid _ := hms
      have HKQ : Hid _ := hkq
      have HR : Hid _ := hrw
      have HB : Hid _ := hbel
      have HE : Hid _ := e
      clear hml hmc hkq hms hrw hbel e hmk
      go_wp2_with fail
      go_ret
      refine ⟨ms, rfl, ?_, ⟨by rw [HM.out]; omega, .inr ⟨_, 0, rfl, fun i x hi => ?_⟩⟩, ⟨fun b o sp h => by cases h; exact Nat.le_refl _, fun x hx => ?_⟩, ⟨f, HR.out, HS.out⟩, HKQ.out, HB.out⟩
      · have h := HC.out
        rw [HE.out, List.take_length] at h
        exact h
      · obtain ⟨⟨h0, h1, h2, h3, h4, h4', h4''⟩, ⟨g, h5, h6, h7⟩, g', h8, h9, h10⟩ := HS.out i x hi
        have hik : i < k := by have := (List.getElem?_eq_some_iff.1 hi).1; rw [HM.out] at this; exact this
        have hct : ∃ y, xs[i]? = some y ∧ y.ct = x.ct := by
          have h := HC.out
          rw [HE.out, List.take_length] at h
          have h' : (ms.map Tg.ct)[i]? = (xs.map Tg.ct)[i]? := by rw [h]
          rw [List.getElem?_map, List.getElem?_map, hi, Option.map_some] at h'
          cases hy : xs[i]? with
          | none => rw [hy] at h'; cases h'
          | some y => rw [hy] at h'; simp at h'; exact ⟨y, rfl, h'.symm⟩
        obtain ⟨y, hy, hyx⟩ := hct
        obtain ⟨-, hn | ⟨b, o, -, hc⟩⟩ := hr
        · subst hn; simp at hy
        obtain ⟨-, ⟨l1, l2, -⟩, ⟨m1, m2, -⟩, l3⟩ := hc i y hy
        rw [hyx] at l1 l2 l3 m1 m2
        refine ⟨⟨?_, ?_, ?_, ?_, ?_, ?_, ?_⟩, ?_, ?_, l3⟩
        · rw [Nat.zero_add]; exact (World.rowIs.cell HR.out (by omega)).trans (congrArg some h0)
        · rw [Nat.zero_add]; exact (World.rowIs.cell HR.out (by omega)).trans (congrArg some h1)
        · rw [Nat.zero_add]; exact (World.rowIs.cell HR.out (by omega)).trans (congrArg some h2)
        · rw [Nat.zero_add]; exact (World.rowIs.cell HR.out (by omega)).trans (congrArg some h3)
        · rw [Nat.zero_add]; exact (World.rowIs.cell HR.out (by omega)).trans (congrArg some h4)
        · rw [Nat.zero_add]; exact (World.rowIs.cell HR.out (by omega)).trans (congrArg some h4')
        · rw [Nat.zero_add]; exact (World.rowIs.cell HR.out (by omega)).trans (congrArg some h4'')
        · rw [h5]
          exact Own.rd h7 l1 l2
        · rw [h8]
          exact OwnI.rd h10 m1 m2
      · obtain ⟨i, hi, e⟩ := List.mem_iff_getElem.1 hx
        obtain ⟨-, ⟨g, h5, h6, -⟩, g', h8, h9, -⟩ := HS.out i x (by rw [List.getElem?_eq_getElem hi, e])
        refine ⟨fun b o sp h => ?_, fun b o sp h => ?_⟩
        · rw [h5] at h; cases h; omega
        · rw [h8] at h; cases h; omega

theorem toTerm_ownC (a : Option Addr) (c : Nat) (xs : List Tg) (w : World) (hr : RdT w a xs) (n : Nat) (hn : xs.length = n) :
    Calls Tryz.prog 9 #[.agg #[.slice a n c]] w fun e w' => ∃ (g : Nat) (ms : List Tg), e = .returned (.agg #[.slice (some ⟨g, 0, none⟩) n n]) ∧ ms.map Tg.ct = xs.map Tg.ct ∧ RdT w' (some ⟨g, 0, none⟩) ms ∧ FarT w.heap.size (some ⟨g, 0, none⟩) ms ∧ w.heap.size ≤ g ∧ (∃ f, w'.rowIs g 63 (n * 7) f ∧ ∀ j x, ms[j]? = some x → TgOwn w' g f j x) ∧ (∀ x ∈ ms, x.kc = x.ct.ks.length) ∧ Below w.heap.size w w' := by
  subst hn
  go_enter Tryz.func9, Tryz.ntmps9
  go_wp2_with fail
  refine (toTNodeS_ownC a c xs _ ?_).mono ?_
  · refine hr.later (Below.alloc (Below.alloc (Below.alloc (Below.refl _ _) ?_ _) ?_ _) ?_ _)
    all_goals first | exact Nat.le_refl _ | (simp; done) | (simp; omega)
  rintro e w1 ⟨ms, rfl, hms, hrd, hfar, ⟨f, hrow, hown⟩, hkq, hb⟩
  have hc := kcell hb
  have hz : w.heap.size + 1 + 1 < w1.heap.size := by have := hb.size; simp at this; omega
  have hf := (bcell hb).2
  have HO := kide hrd
  have HFR := kide hfar
  have HB := kide hb
  have HM := kide hms
  have HRW := kide hrow
  have HWN := kide hown
  have HKQ := kide hkq
  clear hrd hb hr hms hfar hrow hown hkq
  go_wp2_with fail
  refine bodyPost_ret (v := .agg #[.slice (some ⟨w.heap.size + 1 + 1 + 1, 0, none⟩) xs.length xs.length]) (by simp [results, Tryz.results9, go_sem, hc]) rfl ⟨_, ms, rfl, HM.out, ?_, ?_, by omega, ?_, HKQ.out, ?_⟩
  · have h := HO.out
    have hf2 := HFR.out
    simp only [World.size_alloc] at h hf2
    exact (h.set hf2 (by first | (simp; done) | (simp; omega)) _).set hf2 (by first | (simp; done) | (simp; omega)) _
  · have hf2 := HFR.out
    simp only [World.size_alloc] at hf2
    exact hf2.mono (by omega)
  · have h := HRW.out
    have h2 := HWN.out
    simp only [World.size_alloc] at h h2
    refine ⟨f, World.rowIs.of_block h (by rw [heap_setCell_other _ _ _ _ (by simp; omega), heap_setCell_other _ _ _ _ (by simp)]), fun j x hj => ?_⟩
    obtain ⟨h0, ⟨g, h5, h6, h7⟩, g', h8, h9, h10⟩ := h2 j x hj
    exact ⟨h0, ⟨g, h5, h6, (h7.other (by simp; omega) _).other (by simp; omega) _⟩, g', h8, h9, (h10.other (by simp; omega) _).other (by simp; omega) _⟩
  · have h := HB.out
    have h0 : Below w.heap.size w w1 := by
      refine Below.trans (Below.alloc (Below.alloc (Below.alloc (Below.refl _ _) ?_ _) ?_ _) ?_ _) (h.mono ?_)
      all_goals first | exact Nat.le_refl _ | (simp; done) | (simp; omega)
    exact (h0.setCell (by simp; omega) _).setCell (by simp) _

/-- A copied term, as the law carries it. -/
theorem toTerm_wrC (a : Option Addr) (c : Nat) (xs : List Tg) (w : World) (hr : RdT w a xs) (n : Nat) (hn : xs.length = n) :
    Calls Tryz.prog 9 #[.agg #[.slice a n c]] w fun e w' => ∃ (g : Nat) (ms : List Tg), e = .returned (.agg #[.slice (some ⟨g, 0, none⟩) n n]) ∧ ms.map Tg.ct = xs.map Tg.ct ∧ w.heap.size ≤ g ∧ RdT w' (some ⟨g, 0, none⟩) ms ∧ (∃ f, w'.rowIs g 63 (n * 7) f ∧ TnF f ms) ∧ (∀ x ∈ ms, WrT w' w.heap.size w'.heap.size x ∧ x.ct.ws.length ≤ 1048576 ∧ x.ct.ks.length ≤ 1048576) ∧ (∀ x ∈ ms, x.kc = x.ct.ks.length) ∧ Below w.heap.size w w' := by
  refine Calls.mono (toTerm_ownC a c xs w hr n hn) ?_
  rintro e w' ⟨g, ms, h1, h2, h3, h4, h5, ⟨f, h6, h7⟩, hkq, h8⟩
  refine ⟨g, ms, h1, h2, h5, h3, ⟨f, h6, TgOwn.tnf h7⟩, fun x hx => ?_, hkq, h8⟩
  obtain ⟨i, hi, e⟩ := List.mem_iff_getElem.1 hx
  have hi' : ms[i]? = some x := by rw [List.getElem?_eq_getElem hi, e]
  refine ⟨(h7 i x hi').wr h5, ?_⟩
  obtain ⟨-, h | ⟨b, o, -, hc⟩⟩ := h3
  · subst h; simp at hx
  · obtain ⟨-, r1, r2, -⟩ := hc i x hi'
    exact ⟨r1.1, r2.1⟩

end Go.Proofs.YtdlmgndmfphneaaGreatDoor
