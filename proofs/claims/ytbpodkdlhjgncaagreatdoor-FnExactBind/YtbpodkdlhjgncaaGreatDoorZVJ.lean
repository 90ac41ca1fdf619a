/- Several texts in one. -/
import Derived.Test.YtbpodkdlhjgncaaGreatDoorZVI
import Derived.Test.YtbpodkdlhjgncaaGreatDoorZVA
import Derived.Test.YtbpodkdlhjgncaaGreatDoorZVB
import Derived.Test.YtbpodkdlhjgncaaGreatDoorRows
import Derived.ProofKit
import Derived.OpenShut
import Derived.ShutString
import Derived.ChangeOld
import Derived.Below
import Derived.Lib.SmallJoins
import Derived.Deep.SlicePairs

/- Arguments that are copied and marked: variables, rows of words, numbers. -/
namespace Go.Proofs.YtbpodkdlhjgncaaGreatDoor
set_option linter.unusedVariables false
set_option linter.unusedSimpArgs false
open Go.RowKit

theorem Out.of {B1 B2 : Nat} {w w' : World} (h : Below w.heap.size w w') : Out B1 B2 w w' := ⟨h.os, h.tape, h.output, h.size, fun k hk _ => h.block k hk⟩
theorem Out.wide {B1 B2 C1 C2 : Nat} {w w' : World} (h : Out B1 B2 w w') (h1 : C1 ≤ B1) (h2 : B2 ≤ C2) : Out C1 C2 w w' := ⟨h.1, h.2.1, h.2.2.1, h.2.2.2.1, fun k hk hc => h.2.2.2.2 k hk (by omega)⟩
theorem grow_set {w wr : World} {g : Nat} (h : w.grownBy wr (some g)) (i : Nat) (v : Value) : w.grownBy (wr.setCell ⟨g, i, none⟩ v) (some g) :=
  ⟨h.os, h.tape, h.output, by simpa using h.size, fun k hk hne => by rw [heap_setCell_other wr ⟨g, i, none⟩ k v (fun e => hne (by simp [e]))]; exact h.block k hk hne⟩

/-- Outside of the blocks B1 .. B2 - 1 nothing has turned. -/

theorem toDeclS_row (a : Option Addr) (c : Nat) (ds : List Dc) (w : World) (hr : RdD w a ds) :
    Calls Tryz.prog 8 #[.slice a ds.length c] w fun e w' => e = .returned (.slice (some ⟨w.heap.size, 0, none⟩) ds.length ds.length) ∧ RdD w' (some ⟨w.heap.size, 0, none⟩) ds ∧ (∃ f, w'.rowIs w.heap.size 66 (ds.length * 2) f) ∧ Below w.heap.size w w' := by
  have hlen := hr.1
  have hmk := make_decls ds.length hlen
  go_enter Tryz.func8, Tryz.ntmps8
  go_wp2_with fail
  have hrow := krow (heap_alloc_new w (.cells (madeCells #[.string .empty, .int .i64 0] (ds.length * 2)) 66))
  rw [size_madeCells] at hrow
  have hb0 : Below w.heap.size w (w.alloc (.cells (madeCells #[.string .empty, .int .i64 0] (ds.length * 2)) 66)) := (Below.refl _ _).alloc (Nat.le_refl _) _
  have hs0 : w.heap.size < (w.alloc (.cells (madeCells #[.string .empty, .int .i64 0] (ds.length * 2)) 66)).heap.size := by simp
  generalize (w.alloc (.cells (madeCells #[.string .empty, .int .i64 0] (ds.length * 2)) 66)) = w0 at *
  go_loopw [4] (fun i wr => ∃ (k : Nat) (f : Nat → Value), k ≤ ds.length ∧ i = .int .i64 k ∧ wr.rowIs w.heap.size 66 (ds.length * 2) f ∧ (∀ (j : Nat) (d : Dc), j < k → ds[j]? = some d → f (j * 2) = .string d.1 ∧ f (j * 2 + 1) = .int .i64 d.2) ∧ Below w.heap.size w wr ∧ w.heap.size < wr.heap.size) (fun i _ => ds.length - (intOf i).toNat)
  case atStart => exact ⟨0, _, Nat.zero_le _, rfl, hrow, fun j d h => by omega, hb0, hs0⟩
  case round =>
    obtain ⟨k, f, hk, rfl, hrw, hms, hbel, hsz⟩ := hrel
    clear hrow hb0 hs0
    by_cases hlt : k < ds.length
    · obtain ⟨-, -, h | ⟨b, o, rfl, hc⟩⟩ := hr
      · subst h; simp at hlt
      obtain ⟨⟨t, x⟩, hh⟩ : ∃ x, ds[k] = x := ⟨_, rfl⟩
      have gx : ds[k]? = some (t, x) := by rw [List.getElem?_eq_getElem hlt, hh]
      obtain ⟨p0, p1⟩ := (hc k _ gx).later hbel
      simp only [] at p0 p1
      have GX : Hid _ := gx
      have HMS : Hid _ := hms
      have HR : Hid _ := hrw
      have HB : Hid _ := hbel
      have i0 : (k : Int) < (ds.length : Int) := by omega
      clear gx hms hc hrw hbel hmk hh
      go_wp2_with fail
      refine (toDecl_any _ _ _).mono ?_
      rintro e w1 ⟨rfl, hb1⟩
      have hr1 := World.rowIs.of_block HR.out (hb1.block _ hsz)
      have q0 := hr1.cell (i := k * 2) (by omega)
      have q1 := hr1.cell (i := k * 2 + 1) (by omega)
      have r0 := hr1.frozen (k * 2)
      have r1 := hr1.frozen (k * 2 + 1)
      have HR1 : Hid _ := hr1
      clear hr1
      go_wp2_with fail
      go_roundw
      case rel =>
        refine ⟨k + 1, _, by omega, by go_num, World.rowIs.set (World.rowIs.set HR1.out (k * 2) (.string t)) (k * 2 + 1) (.int .i64 x), fun j d hj hd => ?_, ?_, ?_⟩
        · by_cases hjk : j = k
          · subst hjk
            rw [GX.out] at hd
            cases hd
            exact ⟨by simp, by simp⟩
          · obtain ⟨h0, h1⟩ := HMS.out j d (by omega) hd
            constructor
            · show (if _ then _ else _) = _
              rw [if_neg (by omega), if_neg (by omega)]; exact h0
            · show (if _ then _ else _) = _
              rw [if_neg (by omega), if_neg (by omega)]; exact h1
        · exact ((HB.out.trans (hb1.mono HB.out.size)).setCell (Nat.le_refl _) _).setCell (Nat.le_refl _) _
        · have := hb1.size
          simp; omega
      case measure => simp [intOf]; omega
    · have HS : Hid _ := hms
      have HR : Hid _ := hrw
      have HB : Hid _ := hbel
      clear hms hrw hbel hmk
      go_wp2_with fail
      go_ret
      refine ⟨rfl, ⟨hr.1, hr.2.1, .inr ⟨_, 0, rfl, fun i d hi => ?_⟩⟩, ⟨f, HR.out⟩, HB.out⟩
      have hil := (List.getElem?_eq_some_iff.1 hi).1
      obtain ⟨h0, h1⟩ := HS.out i d (by omega) hi
      refine ⟨?_, ?_⟩
      · rw [Nat.zero_add, ← h0]; exact World.rowIs.cell HR.out (by omega)
      · rw [Nat.zero_add, ← h1]; exact World.rowIs.cell HR.out (by omega)


set_option maxRecDepth 100000 in
theorem markText_any (k : Nat) (w : World) (hk : k ≤ 300000000) :
    Calls Tryz.prog 39 #[.int .i64 (k : Int)] w fun e w' => (∃ s : ByteArray, e = .returned (.string s)) ∧ Below w.heap.size w w' := by
  by_cases h0 : k = 0
  · subst h0
    go_enter Tryz.func39, Tryz.ntmps39
    go_wp2_with fail
    go_ret
    exact ⟨⟨_, rfl⟩, Below.refl _ _⟩
  · have h1 : ¬ (k : Int) ≤ 0 := by omega
    clear h0
    go_enter Tryz.func39, Tryz.ntmps39
    go_wp2_with fail
    go_loopw [0, 3] (fun q l wr => ∃ (m : Nat) (t : ByteArray), m ≤ 300000000 ∧ t.size + m ≤ 300000000 ∧ q = .int .i64 (m : Int) ∧ l = .string t ∧ Below w.heap.size w wr) (fun q _ _ => (intOf q).toNat)
    case atStart => exact ⟨k, ⟨#[]⟩, hk, by show 0 + k ≤ _; omega, rfl, rfl, Below.refl _ _⟩
    case round =>
      obtain ⟨m, t, hm, hmt, rfl, rfl, hbel⟩ := hrel
      have HB := kide hbel
      clear hbel
      by_cases hz : m = 0
      · subst hz
        go_wp2_with fail
        go_ret
        exact ⟨⟨_, rfl⟩, HB.out⟩
      · have hp : (0 : Int) < (m : Int) := by omega
        clear hz
        have hcv : (convert 101 9 (.slice (some ⟨wr.heap.size, 0, none⟩) 1 1)).run Tryz.prog (wr.alloc (Obj.cells #[Value.int .u8 (48 + (m : Int) % 10)] 5)) = .ok (.string ⟨#[UInt8.ofNat (48 + m % 10)]⟩) (wr.alloc (Obj.cells #[Value.int .u8 (48 + (m : Int) % 10)] 5)) := by
          have h := run_convert_bytes_back (P := Tryz.prog) (wr.alloc (Obj.cells #[Value.int .u8 (48 + (m : Int) % 10)] 5)) 101 9 5 ⟨wr.heap.size, 0, none⟩ 1 [UInt8.ofNat (48 + m % 10)] Tryz.underlying101 Tryz.underlying5 Tryz.underlying9 (fun j hj => by
            have hj0 : j = 0 := by simpa using hj
            subst hj0
            have e : ((UInt8.ofNat (48 + m % 10)).toNat : Int) = 48 + (m : Int) % 10 := by
              rw [UInt8.toNat_ofNat']
              omega
            rw [Addr.add_lit]
            simp [e]
            omega)
          exact h
        have HA := kide (HB.out.alloc HB.out.size (Obj.cells #[Value.int .u8 (48 + (m : Int) % 10)] 5))
        generalize hs1 : (⟨#[UInt8.ofNat (48 + m % 10)]⟩ : ByteArray) = s1 at hcv
        have hs1z : s1.size = 1 := by rw [← hs1]; rfl
        clear hs1
        go_wp2_with fail
        go_roundw
        case rel => exact ⟨m / 10, s1 ++ t, by omega, by rw [ByteArray.size_append]; omega, by simp, rfl, HA.out⟩
        case measure => simp [intOf]; omega

theorem markDeclS_any (g c n k : Nat) (f : Nat → Value) (w : World) (hr : w.rowIs g 66 (n * 2) f) (hn : n ≤ 1048576) (hk : k ≤ 1048576) :
    Calls Tryz.prog 15 #[.slice (some ⟨g, 0, none⟩) n c, .int .i64 (k : Int)] w fun e w' => e = .returned (.int .i64 ((k + n * 2 : Nat) : Int)) ∧ w.grownBy w' (some g) := by
  go_enter Tryz.func15, Tryz.ntmps15
  go_wp2_with fail
  go_loopw [1, 5] (fun q i wr => ∃ (j : Nat) (f' : Nat → Value), j ≤ n ∧ i = .int .i64 (j : Int) ∧ q = .int .i64 ((k + j * 2 : Nat) : Int) ∧ wr.rowIs g 66 (n * 2) f' ∧ w.grownBy wr (some g)) (fun _ i _ => n - (intOf i).toNat)
  case atStart => exact ⟨0, f, Nat.zero_le _, rfl, by simp, hr, ⟨rfl, rfl, rfl, Nat.le_refl _, fun _ _ _ => rfl⟩⟩
  case round =>
    obtain ⟨j, f', hj, rfl, rfl, hrow, hg⟩ := hrel
    by_cases hlt : j < n
    · have hgl : g < wr.heap.size := by
        obtain ⟨cc, hh, -⟩ := hrow
        exact lt_of_block hh
      generalize hK : k + j * 2 = K at *
      have HK := kide hK
      have hKb : K ≤ 300000000 := by omega
      have i0 : (j : Int) < (n : Int) := by omega
      have HMT := kide (markText_any K wr hKb)
      have HRW := kide hrow
      have HG := kide hg
      clear hrow hg hK
      go_wp2_with fail
      refine Calls.mono HMT.out ?_
      rintro e w1 ⟨⟨t, rfl⟩, hb1⟩
      have hr1 := World.rowIs.of_block HRW.out (hb1.block _ hgl)
      have q0 := hr1.cell (i := j * 2) (by omega)
      have q1 := hr1.cell (i := j * 2 + 1) (by omega)
      have r0 := hr1.frozen (j * 2)
      have r1 := hr1.frozen (j * 2 + 1)
      have HR1 := kide hr1
      have HG1 : Hid (w.grownBy w1 (some g)) := ⟨hb1.os.trans HG.out.os, hb1.tape.trans HG.out.tape, hb1.output.trans HG.out.output, Nat.le_trans HG.out.size hb1.size, fun q hq hne => (hb1.block q (Nat.lt_of_lt_of_le hq HG.out.size)).trans (HG.out.block q hq hne)⟩
      clear hr1 hb1
      go_wp2_with fail
      go_roundw
      case rel =>
        refine ⟨j + 1, _, by omega, by go_num, ?_, World.rowIs.set (World.rowIs.set HR1.out (j * 2) (.string t)) (j * 2 + 1) (.int .i64 ((K : Int) + 1)), grow_set (grow_set HG1.out (j * 2) _) (j * 2 + 1) _⟩
        rw [show k + (j + 1) * 2 = K + 2 by have := HK.out; omega]
        first | go_num | (congr 1; push_cast; omega) | (simp; omega)
      case measure => simp [intOf]; omega
    · have e : j = n := by omega
      subst e
      have HG := kide hg
      clear hrow hg
      go_wp2_with fail
      go_ret
      exact ⟨rfl, HG.out⟩

theorem markDeclS_one (g c n : Nat) (f : Nat → Value) (w : World) (hr : w.rowIs g 66 (n * 2) f) (hn : n ≤ 1048576) :
    Calls Tryz.prog 15 #[.slice (some ⟨g, 0, none⟩) n c, .int .i64 1] w fun e w' => e = .returned (.int .i64 ((1 + n * 2 : Nat) : Int)) ∧ Out g (g + 1) w w' := by
  refine Calls.mono (markDeclS_any g c n 1 f w hr hn (by omega)) ?_
  rintro e w' ⟨rfl, hg⟩
  exact ⟨rfl, Out.grown hg (Nat.le_refl _) (Nat.lt_succ_self _)⟩

theorem toBitsS_own (a : Option Addr) (c : Nat) (xs : List Bw) (w : World) (hr : RdW w a xs) :
    Calls Tryz.prog 10 #[.slice a xs.length c] w fun e w' => ∃ ms : List Bw, e = .returned (.slice (some ⟨w.heap.size, 0, none⟩) xs.length xs.length) ∧ ms.map Bw.ct = xs.map Bw.ct ∧ RdW w' (some ⟨w.heap.size, 0, none⟩) ms ∧ (∃ f, w'.rowIs w.heap.size 63 (xs.length * 2) f ∧ ∀ j x, ms[j]? = some x → BwOwn w' w.heap.size f j x) ∧ Below w.heap.size w w' := by
  have hlen := hr.1
  have hmk := make_words xs.length hlen
  go_enter Tryz.func10, Tryz.ntmps10
  go_wp2_with fail
  have hrow := krow (heap_alloc_new w (.cells (madeCells #[.int .i64 0, .slice none 0 0] (xs.length * 2)) 63))
  rw [size_madeCells] at hrow
  have hb0 : Below w.heap.size w (w.alloc (.cells (madeCells #[.int .i64 0, .slice none 0 0] (xs.length * 2)) 63)) := (Below.refl _ _).alloc (Nat.le_refl _) _
  have hs0 : w.heap.size < (w.alloc (.cells (madeCells #[.int .i64 0, .slice none 0 0] (xs.length * 2)) 63)).heap.size := by simp
  generalize (w.alloc (.cells (madeCells #[.int .i64 0, .slice none 0 0] (xs.length * 2)) 63)) = w0 at *
  go_loopw [4] (fun i wr => ∃ (k : Nat) (f : Nat → Value) (ms : List Bw), k ≤ xs.length ∧ i = .int .i64 k ∧ wr.rowIs w.heap.size 63 (xs.length * 2) f ∧ ms.length = k ∧ ms.map Bw.ct = (xs.take k).map Bw.ct ∧ (∀ j x, ms[j]? = some x → BwOwn wr w.heap.size f j x) ∧ Below w.heap.size w wr ∧ w.heap.size < wr.heap.size) (fun i _ => xs.length - (intOf i).toNat)
  case atStart => exact ⟨0, _, [], Nat.zero_le _, rfl, hrow, rfl, rfl, fun j x h => by simp at h, hb0, hs0⟩
  case round =>
    obtain ⟨k, f, ms, hk, rfl, hrw, hml, hmc, hms, hbel, hsz⟩ := hrel
    clear hrow hb0 hs0
    by_cases hlt : k < xs.length
    · obtain ⟨-, h | ⟨b, o, rfl, hc⟩⟩ := hr
      · subst h; simp at hlt
      obtain ⟨⟨s1, a1, c1, k1⟩, hx⟩ : ∃ x, xs[k] = x := ⟨_, rfl⟩
      have gx : xs[k]? = some ⟨s1, a1, c1, k1⟩ := by rw [List.getElem?_eq_getElem hlt, hx]
      obtain ⟨p0', p1', p2', p3'⟩ := (hc k _ gx).later hbel
      simp only [] at p0' p1' p2' p3'
      clear hx
      have GX : Hid _ := gx
      have HML : Hid _ := hml
      have HMC : Hid _ := hmc
      have HMS : Hid _ := hms
      have HR : Hid _ := hrw
      have HB : Hid _ := hbel
      have i0 : (k : Int) < (xs.length : Int) := by omega
      clear gx hml hmc hms hc hrw hbel hmk p3'
      go_wp2_with fail
      refine (toBits_any _ _ _ _ _ p2').mono ?_
      rintro e w1 ⟨g, rfl, hg, hown, hb1⟩
      have hr1 := World.rowIs.of_block HR.out (hb1.block _ hsz)
      have q0 := hr1.cell (i := k * 2) (by omega)
      have q1 := hr1.cell (i := k * 2 + 1) (by omega)
      have r0 := hr1.frozen (k * 2)
      have r1 := hr1.frozen (k * 2 + 1)
      have HR1 : Hid _ := hr1
      clear hr1
      go_wp2_with fail
      go_roundw
      case rel =>
        have hl := HML.out
        have hgk : w.heap.size < g := by omega
        refine ⟨k + 1, _, ms ++ [⟨s1, some ⟨g, 0, none⟩, k1.length, k1⟩], by omega, by go_num, World.rowIs.set (World.rowIs.set HR1.out (k * 2) (.int .i64 s1)) (k * 2 + 1) (.slice (some ⟨g, 0, none⟩) k1.length k1.length), by simp [hl], ?_, fun j x hj => ?_, ?_, ?_⟩
        · have h := HMC.out
          rw [List.map_append, h, List.take_add_one, GX.out, List.map_append]
          rfl
        · rw [List.getElem?_append] at hj
          split at hj
          · exact ((HMS.out j x hj).later hb1).put _ _ (by omega)
          · have hj2 : j - ms.length = 0 := by
              have := (List.getElem?_eq_some_iff.1 hj).1
              simp at this; exact this
            rw [hj2] at hj
            simp at hj
            subst hj
            have hjk : j = k := by omega
            subst hjk
            refine ⟨by simp, by simp, g, rfl, hgk, ?_⟩
            exact (hown.other (by simp; omega) _).other (by simp; omega) _
        · exact ((HB.out.trans (hb1.mono HB.out.size)).setCell (Nat.le_refl _) _).setCell (Nat.le_refl _) _
        · have := hb1.size
          simp; omega
      case measure => simp [intOf]; omega
    · have e : k = xs.length := by omega
      have HM : Hid _ := hml
      have HC : Hid _ := hmc
      have HS : Hid _ := hms
      have HR : Hid _ := hrw
      have HB : Hid _ := hbel
      have HE : Hid _ := e
      clear hml hmc hms hrw hbel e hmk
      go_wp2_with fail
      go_ret
      refine ⟨ms, rfl, ?_, ⟨by rw [HM.out]; omega, .inr ⟨_, 0, rfl, fun i x hi => ?_⟩⟩, ⟨f, HR.out, HS.out⟩, HB.out⟩
      · have h := HC.out
        rw [HE.out, List.take_length] at h
        exact h
      · obtain ⟨h0, h1, g, h2, h3, h4⟩ := HS.out i x hi
        have hik : i < k := by have := (List.getElem?_eq_some_iff.1 hi).1; rw [HM.out] at this; exact this
        have hct : ∃ y, xs[i]? = some y ∧ y.ct = x.ct := by
          have h := HC.out
          rw [HE.out, List.take_length] at h
          have h' : (ms.map Bw.ct)[i]? = (xs.map Bw.ct)[i]? := by rw [h]
          rw [List.getElem?_map, List.getElem?_map, hi, Option.map_some] at h'
          cases hy : xs[i]? with
          | none => rw [hy] at h'; cases h'
          | some y => rw [hy] at h'; simp at h'; exact ⟨y, rfl, h'.symm⟩
        obtain ⟨y, hy, hyx⟩ := hct
        obtain ⟨-, hn | ⟨b, o, -, hc⟩⟩ := hr
        · subst hn; simp at hy
        obtain ⟨-, -, ⟨l1, l2, -⟩, l3⟩ := hc i y hy
        simp [Bw.ct] at hyx
        rw [hyx.2] at l1 l2
        rw [hyx.1] at l3
        refine ⟨?_, ?_, ?_, l3⟩
        · rw [Nat.zero_add, ← h0]; exact World.rowIs.cell HR.out (by omega)
        · rw [Nat.zero_add, ← h1]; exact World.rowIs.cell HR.out (by omega)
        · rw [h2]
          exact Own.rd h4 l1 l2

theorem markInt64S_big (g c n k : Nat) (zs : List Int) (w : World) (ho : OwnI w g zs) (hz : zs.length = n) (hn : n ≤ 1048576) (hk : k + n ≤ 9000000000000000000) :
    Calls Tryz.prog 69 #[.slice (some ⟨g, 0, none⟩) n c, .int .i64 (k : Int)] w fun e w' => e = .returned (.int .i64 ((k + n : Nat) : Int)) ∧ (∃ zs', OwnI w' g zs' ∧ zs'.length = n) ∧ w.grownBy w' (some g) := by
  go_enter Tryz.func69, Tryz.ntmps69
  go_wp2_with fail
  go_loopw [1, 5] (fun q i wr => ∃ (j : Nat) (ys : List Int), j ≤ n ∧ i = .int .i64 (j : Int) ∧ q = .int .i64 ((k + j : Nat) : Int) ∧ OwnI wr g ys ∧ ys.length = n ∧ w.grownBy wr (some g)) (fun _ i _ => n - (intOf i).toNat)
  case atStart => exact ⟨0, zs, Nat.zero_le _, rfl, by simp, ho, hz, ⟨rfl, rfl, rfl, Nat.le_refl _, fun _ _ _ => rfl⟩⟩
  case round =>
    obtain ⟨j, ys, hj, rfl, rfl, hown, hl, hg⟩ := hrel
    have HG := kide hg
    by_cases hlt : j < n
    · have q0 := hown.cell (i := j) (by omega)
      have r0 := hown.free j
      generalize ys.getD j 0 = y0 at q0
      generalize hK : k + j = K at *
      have HK := kide hK
      have hKb : K ≤ 9000000000000000000 := by omega
      have i0 : (j : Int) < (n : Int) := by omega
      have HO := kide hown
      have HL := kide hl
      clear hown hl hg hK
      go_wp2_with fail
      go_roundw
      case rel => exact ⟨j + 1, ys.set j (K : Int), by omega, by go_num, by rw [show k + (j + 1) = K + 1 by have := HK.out; omega]; first | go_num | (simp; done), HO.out.put j _, by rw [List.length_set]; exact HL.out, grow_set HG.out j _⟩
      case measure => simp [intOf]; omega
    · have e : j = n := by omega
      subst e
      have HO := kide hown
      have HL := kide hl
      clear hown hl hg
      go_wp2_with fail
      go_ret
      exact ⟨rfl, ⟨ys, HO.out, HL.out⟩, HG.out⟩

/-- A row of n words of bits in a block of them. -/
def TyBs (w : World) (lo hi : Nat) (a : Option Addr) (n : Nat) : Prop := n ≤ 1048576 ∧ ∃ h cur, a = some ⟨h, 0, none⟩ ∧ lo ≤ h ∧ h < hi ∧ w.heap[h]? = some (.cells cur 63 (0, 0)) ∧ ∀ i, i < n → (∃ x : Int, cur[i * 2]? = some (.int .i64 x)) ∧ ∃ a' m c, cur[i * 2 + 1]? = some (.slice a' m c) ∧ TyW w lo hi a' m
theorem TyBs.shp {w w' : World} {lo hi n : Nat} {a : Option Addr} (h : TyBs w lo hi a n) (hs : Shp w w') : TyBs w' lo hi a n := by
  obtain ⟨h0, g, cur, e, h1, h2, h3, h4⟩ := h
  obtain ⟨cur', e', r⟩ := hs g cur _ h3
  refine ⟨h0, g, cur', e, h1, h2, e', fun i hi => ?_⟩
  obtain ⟨i1, a', m, c, i4, i5⟩ := h4 i hi
  obtain ⟨v', j1, j2⟩ := r _ _ i4
  exact ⟨keep_int r i1, a', m, c, by rw [← j2.slice]; exact j1, i5.shp hs⟩
theorem TyW.wide {w : World} {lo hi lo' hi' n : Nat} {a : Option Addr} (h : TyW w lo hi a n) (h1 : lo' ≤ lo) (h2 : hi ≤ hi') : TyW w lo' hi' a n := by
  obtain ⟨h0, g, cur, e, k1, k2, k3, k4⟩ := h
  exact ⟨h0, g, cur, e, by omega, by omega, k3, k4⟩
theorem TyBs.wide {w : World} {lo hi lo' hi' n : Nat} {a : Option Addr} (h : TyBs w lo hi a n) (h1 : lo' ≤ lo) (h2 : hi ≤ hi') : TyBs w lo' hi' a n := by
  obtain ⟨h0, g, cur, e, k1, k2, k3, k4⟩ := h
  exact ⟨h0, g, cur, e, by omega, by omega, k3, fun i hi => by obtain ⟨i1, a', m, c, i4, i5⟩ := k4 i hi; exact ⟨i1, a', m, c, i4, i5.wide h1 h2⟩⟩
theorem TyBs.of {w : World} {G n : Nat} {f : Nat → Value} {ms : List Bw} (hr : w.rowIs G 63 (n * 2) f) (hn : ms.length = n) (hn2 : n ≤ 1048576) (h : ∀ j x, ms[j]? = some x → BwOwn w G f j x) (hw : ∀ x ∈ ms, x.ws.length ≤ 1048576) : TyBs w G w.heap.size (some ⟨G, 0, none⟩) n := by
  obtain ⟨cur, h1, h2, h3⟩ := hr
  refine ⟨hn2, G, cur, rfl, Nat.le_refl _, lt_of_block h1, h1, fun i hi => ?_⟩
  obtain ⟨x, gx⟩ : ∃ x, ms[i]? = some x := ⟨ms[i]'(by omega), List.getElem?_eq_getElem _⟩
  obtain ⟨k0, k1, g, k2, k3, k4⟩ := h i x gx
  refine ⟨⟨_, by rw [h3 _ (by omega), k0]⟩, _, _, _, by rw [h3 _ (by omega), k1], hw x (List.mem_of_getElem? gx), g, u64s x.ws, k2, by omega, k4.lt, k4, fun j hj => ⟨_, u64s_get _ _ hj⟩⟩

set_option maxHeartbeats 1000000 in
theorem markBitsS_ty (lo hi c n k : Nat) (a : Option Addr) (w : World) (h : TyBs w lo hi a n) (hk : k ≤ 5000000000000000000) :
    Calls Tryz.prog 17 #[.slice a n c, .int .i64 (k : Int)] w fun e w' => ∃ K : Nat, e = .returned (.int .i64 (K : Int)) ∧ K ≤ k + n * 1048577 ∧ Shp w w' ∧ Out lo hi w w' := by
  obtain ⟨hn, g, cur, rfl, hl, hh, hc, hi'⟩ := h
  have H := kide (show TyBs w lo hi (some ⟨g, 0, none⟩) n from ⟨hn, g, cur, rfl, hl, hh, hc, hi'⟩)
  clear hc hi'
  go_enter Tryz.func17, Tryz.ntmps17
  go_wp2_with fail
  go_loopw [1, 5] (fun q i wr => ∃ (j K : Nat), j ≤ n ∧ i = .int .i64 (j : Int) ∧ q = .int .i64 (K : Int) ∧ K ≤ k + j * 1048577 ∧ Shp w wr ∧ Out lo hi w wr) (fun _ i _ => n - (intOf i).toNat)
  case atStart => exact ⟨0, k, Nat.zero_le _, rfl, rfl, by omega, Shp.refl _, Out.refl _ _ _⟩
  case round =>
    obtain ⟨j, K, hj, rfl, rfl, hK, hs, ho⟩ := hrel
    have HS := kide hs
    have HO := kide ho
    by_cases hlt : j < n
    · obtain ⟨-, g', cu, e', -, -, hg, hc⟩ := H.out.shp hs
      cases e'
      obtain ⟨⟨y0, hy0⟩, a', m, c', q1', hty⟩ := hc j hlt
      have q0 : wr.cell? ⟨g, j * 2, none⟩ = some (.int .i64 y0) := by rw [cell_of_row wr g _ _ _ _ hg]; exact hy0
      have q1 : wr.cell? ⟨g, j * 2 + 1, none⟩ = some (.slice a' m c') := by rw [cell_of_row wr g _ _ _ _ hg]; exact q1'
      have r0 := frozen_of_row wr g (j * 2) _ _ hg
      have hm := hty.1
      have hKb : K + 1 + m ≤ 9000000000000000000 := by omega
      have i0 : (j : Int) < (n : Int) := by omega
      have S1 := Shp.set q0 (K : Int)
      have HS2 := kide (hs.trans S1)
      have HO2 := kide (ho.set hl hh (.int .i64 (K : Int)) (o := j * 2))
      have hM := markU_ty lo hi c' m (K + 1) a' _ (hty.shp S1) hKb
      rw [show ((K + 1 : Nat) : Int) = (K : Int) + 1 by omega] at hM
      have HM := kide hM
      have hK2 := hK
      clear hc hs ho hy0 q1' hg hty S1 hM
      go_wp2_with fail
      refine Calls.mono HM.out ?_
      rintro e w3 ⟨rfl, hs3, ho3⟩
      have HS3 := kide (HS2.out.trans hs3)
      have HO3 := kide (HO2.out.trans ho3)
      clear hs3 ho3
      go_wp2_with fail
      go_roundw
      case rel => exact ⟨j + 1, K + 1 + m, by omega, by go_num, by first | rfl | (congr 1; omega), by omega, HS3.out, HO3.out⟩
      case measure => simp [intOf]; omega
    · have e : j = n := by omega
      subst e
      clear hs ho
      go_wp2_with fail
      go_ret
      exact ⟨K, rfl, hK, HS.out, HO.out⟩

end Go.Proofs.YtbpodkdlhjgncaaGreatDoor

/- A row of words of one's own is marked; a row that holds its marks is told so. -/
namespace Go.Proofs.YtbpodkdlhjgncaaGreatDoor
set_option linter.unusedVariables false
set_option linter.unusedSimpArgs false
open Go.RowKit

def lnAt (l : List Bw) (i : Nat) : Nat := match l[i]? with | some x => x.ws.length | none => 0
/-- The mark at which the i-th begins. -/
def mkAt (l : List Bw) (k : Nat) : Nat → Nat
  | 0 => k
  | i + 1 => mkAt l k i + 1 + lnAt l i
theorem mkAt_le {l : List Bw} {k : Nat} (h : ∀ x ∈ l, x.ws.length ≤ 1048576) : ∀ i, mkAt l k i ≤ k + i * 1048577
  | 0 => by simp [mkAt]
  | i + 1 => by
    have h1 := mkAt_le (k := k) h i
    have h2 : lnAt l i ≤ 1048576 := by
      unfold lnAt
      cases e : l[i]? with
      | none => simp
      | some x => exact h x (List.mem_of_getElem? e)
    unfold mkAt
    omega

/-- Words in a block of words, or none. -/
def WSh (w : World) (lo hi : Nat) (x : Bw) : Prop := x.ws.length = 0 ∨ ∃ h cur, x.a = some ⟨h, 0, none⟩ ∧ lo ≤ h ∧ h < hi ∧ w.heap[h]? = some (.cells cur 103 (0, 0)) ∧ ∀ t, t < x.ws.length → ∃ y : Int, cur[t]? = some (.int .u64 y)
theorem WSh.of {w : World} {lo hi : Nat} {x : Bw} (h : Nw w lo x.a x.ws) (hh : w.heap.size ≤ hi) : WSh w lo hi x := by
  rcases h with ⟨h1, -⟩ | ⟨g, cur, h1, h2, h3, h4⟩
  · exact .inl (by rw [h1]; rfl)
  · exact .inr ⟨g, cur, h1, h2, Nat.lt_of_lt_of_le (lt_of_block h3) hh, h3, fun t ht => ⟨_, h4 t ht⟩⟩
theorem WSh.shp {w w' : World} {lo hi : Nat} {x : Bw} (h : WSh w lo hi x) (hs : Shp w w') : WSh w' lo hi x := by
  rcases h with h | ⟨g, cur, h1, h2, h3, h4, h5⟩
  · exact .inl h
  · obtain ⟨cur', e', r⟩ := hs g cur _ h4
    exact .inr ⟨g, cur', h1, h2, h3, e', fun t ht => keep_int r (h5 t ht)⟩

/-- The i-th word holds its marks. -/
def HeldOne (w : World) (g i : Nat) (x : Bw) (K : Nat) : Prop :=
  w.cell? ⟨g, i * 2, none⟩ = some (.int .i64 (K : Int)) ∧ w.cell? ⟨g, i * 2 + 1, none⟩ = some (.slice x.a x.ws.length x.c) ∧
  (∀ t, t < x.ws.length → ∃ h, x.a = some ⟨h, 0, none⟩ ∧ w.cell? ⟨h, t, none⟩ = some (.int .u64 ((K + 1 + t : Nat) : Int)))
theorem HeldOne.keep {w w' : World} {g i K : Nat} {x : Bw} (h : HeldOne w g i x K) (hr : ∀ o, i * 2 ≤ o → o < i * 2 + 2 → w'.cell? ⟨g, o, none⟩ = w.cell? ⟨g, o, none⟩) (hw : ∀ p, x.ws.length ≠ 0 → x.a = some p → w'.heap[p.block]? = w.heap[p.block]?) : HeldOne w' g i x K := by
  obtain ⟨h0, h3, h4⟩ := h
  refine ⟨by rw [hr _ (by omega) (by omega)]; exact h0, by rw [hr _ (by omega) (by omega)]; exact h3, fun t ht => ?_⟩
  obtain ⟨b, e, hc⟩ := h4 t ht
  exact ⟨b, e, (World.cell?_of_block (a := ⟨b, t, none⟩) (show w'.heap[b]? = w.heap[b]? from hw ⟨b, 0, none⟩ (by omega) e)).trans hc⟩
def HeldB (w : World) (g : Nat) (l : List Bw) (k : Nat) : Prop := ∀ i x, l[i]? = some x → HeldOne w g i x (mkAt l k i)
theorem HeldB.later {w w' : World} {g k : Nat} {l : List Bw} (h : HeldB w g l k) (hb : Below w.heap.size w w') : HeldB w' g l k := fun i x hi => by
  have h1 := h i x hi
  refine h1.keep (fun o _ _ => kcell hb g o (block_lt_of_cell h1.1)) (fun p hp e => ?_)
  obtain ⟨b, e', hc⟩ := h1.2.2 0 (by omega)
  rw [e'] at e
  cases e
  exact hb.block _ (block_lt_of_cell hc)

theorem cell_ne {w : World} {g o o' : Nat} {cur : Array Value} {t : TypeId} (hg : w.heap[g]? = some (.cells cur t (0, 0))) (v : Value) (h : o ≠ o') : (w.setCell ⟨g, o, none⟩ v).cell? ⟨g, o', none⟩ = w.cell? ⟨g, o', none⟩ := by
  rw [cell_of_row _ g o' _ _ _ (heap_setCell_same w g o _ _ v hg), cell_of_row w g o' _ _ _ hg, Array.getElem?_setIfInBounds_ne h]

set_option maxHeartbeats 1000000 in
theorem markU_ex (lo hi c k : Nat) (x : Bw) (w : World) (h : WSh w lo hi x) (hn : x.ws.length ≤ 1048576) (hk : k ≤ 8000000000000000000) :
    Calls Tryz.prog 41 #[.slice x.a x.ws.length c, .int .i64 (k : Int)] w fun e w' => e = .returned (.int .i64 ((k + x.ws.length : Nat) : Int)) ∧ Shp w w' ∧ Out lo hi w w' ∧ (∀ t, t < x.ws.length → ∃ h, x.a = some ⟨h, 0, none⟩ ∧ w'.cell? ⟨h, t, none⟩ = some (.int .u64 ((k + t : Nat) : Int))) ∧ (∀ b, (∀ p, x.ws.length ≠ 0 → x.a = some p → p.block ≠ b) → w'.heap[b]? = w.heap[b]?) := by
  have H := kide h
  clear h
  obtain ⟨n, hnn⟩ : ∃ n, x.ws.length = n := ⟨_, rfl⟩
  rw [hnn]
  rw [hnn] at hn
  have HNN := kide hnn
  clear hnn
  go_enter Tryz.func41, Tryz.ntmps41
  go_wp2_with fail
  go_loopw [1, 5] (fun q i wr => ∃ (j : Nat), j ≤ n ∧ i = .int .i64 (j : Int) ∧ q = .int .i64 ((k + j : Nat) : Int) ∧ Shp w wr ∧ Out lo hi w wr ∧ (∀ t, t < j → ∃ h, x.a = some ⟨h, 0, none⟩ ∧ wr.cell? ⟨h, t, none⟩ = some (.int .u64 ((k + t : Nat) : Int))) ∧ (∀ b, (∀ p, n ≠ 0 → x.a = some p → p.block ≠ b) → wr.heap[b]? = w.heap[b]?)) (fun _ i _ => n - (intOf i).toNat)
  case atStart => exact ⟨0, Nat.zero_le _, rfl, rfl, Shp.refl _, Out.refl _ _ _, fun t h => by omega, fun _ _ => rfl⟩
  case round =>
    obtain ⟨j, hj, rfl, rfl, hs, ho, hm, hb⟩ := hrel
    have HS := kide hs
    have HO := kide ho
    have HM := kide hm
    have HB := kide hb
    by_cases hlt : j < n
    · have hsh := H.out.shp hs
      rcases hsh with h0 | ⟨g, cu, e', hl, hh, hg, hc⟩
      · have := HNN.out; omega
      obtain ⟨y0, hy0⟩ := hc j (by rw [HNN.out]; exact hlt)
      have q0 : wr.cell? ⟨g, j, none⟩ = some (.int .u64 y0) := by rw [cell_of_row wr g j _ _ _ hg]; exact hy0
      have r0 := frozen_of_row wr g j _ _ hg
      obtain ⟨K, hK⟩ : ∃ K, k + j = K := ⟨_, rfl⟩
      rw [hK]
      have HK := kide hK
      have hKb : K < 9000000000000000000 := by omega
      have i0 : (j : Int) < (n : Int) := by omega
      have HS2 := kide (hs.trans (Shp.set q0 (K : Int)))
      have HO2 := kide (ho.set hl hh (.int .u64 (K : Int)) (o := j))
      have HM2 : Hid (∀ t, t < j + 1 → ∃ h, x.a = some ⟨h, 0, none⟩ ∧ (wr.setCell ⟨g, j, none⟩ (.int .u64 (K : Int))).cell? ⟨h, t, none⟩ = some (.int .u64 ((k + t : Nat) : Int))) := fun t ht => by
        by_cases et : t = j
        · subst et
          refine ⟨g, e', ?_⟩
          rw [cell_of_row _ g t _ _ _ (heap_setCell_same wr g t _ _ _ hg), Array.getElem?_setIfInBounds_self_of_lt (Array.getElem?_eq_some_iff.1 hy0).1, HK.out]
        · obtain ⟨h, e, hc'⟩ := hm t (by omega)
          rw [e'] at e
          cases e
          exact ⟨g, e', by rw [cell_ne hg _ (fun h => et h.symm)]; exact hc'⟩
      have HB2 : Hid (∀ b, (∀ p, n ≠ 0 → x.a = some p → p.block ≠ b) → (wr.setCell ⟨g, j, none⟩ (.int .u64 (K : Int))).heap[b]? = w.heap[b]?) := fun b h => by
        rw [heap_setCell_other _ _ _ _ (by simpa using (h _ (by omega) e').symm)]
        exact hb b h
      rw [e'] at HM2 HB2
      rw [e']
      clear hc hs ho hK hy0 hg hm hb
      go_wp2_with fail
      go_roundw
      case rel => exact ⟨j + 1, by omega, by go_num, by rw [show k + (j + 1) = K + 1 by have := HK.out; omega]; first | go_num | (simp; done), HS2.out, HO2.out, HM2.out, HB2.out⟩
      case measure => simp [intOf]; omega
    · have e : j = n := by omega
      subst e
      clear hs ho hm hb
      go_wp2_with fail
      go_ret
      exact ⟨rfl, HS.out, HO.out, HM.out, HB.out⟩

/-- The row itself, in a block of words. -/
def RowSh (w : World) (g : Nat) (l : List Bw) : Prop := ∃ cur, w.heap[g]? = some (.cells cur 63 (0, 0)) ∧ ∀ i x, l[i]? = some x → (∃ y : Int, cur[i * 2]? = some (.int .i64 y)) ∧ cur[i * 2 + 1]? = some (.slice x.a x.ws.length x.c)
theorem RowSh.shp {w w' : World} {g : Nat} {l : List Bw} (h : RowSh w g l) (hs : Shp w w') : RowSh w' g l := by
  obtain ⟨cur, hg, r⟩ := h
  obtain ⟨cur', e', r'⟩ := hs g cur _ hg
  refine ⟨cur', e', fun i x hi => ?_⟩
  obtain ⟨h1, h4⟩ := r i x hi
  obtain ⟨v', j1, j2⟩ := r' _ _ h4
  exact ⟨keep_int r' h1, by rw [← j2.slice]; exact j1⟩

def RetMk (w : World) (lo hi g : Nat) (l : List Bw) (k : Nat) (e : Ending) (w' : World) : Prop := e = .returned (.int .i64 (mkAt l k l.length : Int)) ∧ HeldB w' g l k ∧ Out lo hi w w'

set_option maxHeartbeats 4000000 in
theorem markB_own (lo hi g c n k : Nat) (l : List Bw) (w : World) (hrow : RowSh w g l) (hg1 : lo ≤ g) (hg2 : g < hi) (hws : ∀ x ∈ l, WSh w lo hi x ∧ x.ws.length ≤ 1048576) (hdj : DjB l) (hn : l.length = n) (hn2 : n ≤ 1048576) (hk : k ≤ 1) :
    Calls Tryz.prog 17 #[.slice (some ⟨g, 0, none⟩) n c, .int .i64 (k : Int)] w (RetMk w lo hi g l k) := by
  have HROW := kide hrow
  have HWS := kide hws
  have HDJ := kide hdj
  have HN := kide hn
  have HLE := kide (fun i => mkAt_le (k := k) (fun x hx => (hws x hx).2) i)
  clear hrow hws hdj hn
  go_enter Tryz.func17, Tryz.ntmps17
  go_wp2_with fail
  go_loopw [1, 5] (fun q i wr => ∃ (j : Nat), j ≤ n ∧ i = .int .i64 (j : Int) ∧ q = .int .i64 (mkAt l k j : Int) ∧ Shp w wr ∧ Out lo hi w wr ∧ (∀ i x, i < j → l[i]? = some x → HeldOne wr g i x (mkAt l k i))) (fun _ i _ => n - (intOf i).toNat)
  case atStart => exact ⟨0, Nat.zero_le _, rfl, rfl, Shp.refl _, Out.refl _ _ _, fun i x h => by omega⟩
  case round =>
    obtain ⟨j, hj, rfl, rfl, hs, ho, hh⟩ := hrel
    have HS := kide hs
    have HO := kide ho
    have HH := kide hh
    by_cases hlt : j < n
    · obtain ⟨x, gx⟩ : ∃ x, l[j]? = some x := ⟨l[j]'(by rw [HN.out]; exact hlt), List.getElem?_eq_getElem _⟩
      obtain ⟨cu, hg, r⟩ := HROW.out.shp hs
      obtain ⟨⟨x0, q0⟩, q3⟩ := r j x gx
      obtain ⟨hwx, hlx⟩ := HWS.out x (List.mem_of_getElem? gx)
      have hKb := HLE.out j
      have hst : mkAt l k (j + 1) = mkAt l k j + 1 + x.ws.length := by simp [mkAt, lnAt, gx]
      have HST := kide hst
      have HME := kide (fun i => HLE.out i)
      generalize hKK : mkAt l k j = K at *
      have HKK := kide hKK
      have hKb2 : K ≤ 8000000000000000000 := by omega
      have cell := fun o => cell_of_row wr g o cu _ _ hg
      have p0 : wr.cell? ⟨g, j * 2, none⟩ = some (.int .i64 x0) := by rw [cell]; exact q0
      have p3 : wr.cell? ⟨g, j * 2 + 1, none⟩ = some (.slice x.a x.ws.length x.c) := by rw [cell]; exact q3
      have r0 := frozen_of_row wr g (j * 2) _ _ hg
      have i0 : (j : Int) < (n : Int) := by omega
      have s1 := Shp.set p0 (K : Int)
      have hgA := heap_setCell_same wr g (j * 2) _ _ (.int .i64 (K : Int)) hg
      have S3 := kide (hs.trans s1)
      have O3 := kide (ho.set hg1 hg2 (.int .i64 (K : Int)) (o := j * 2))
      have hM := markU_ex lo hi x.c (K + 1) x _ (hwx.shp S3.out) hlx (by omega)
      rw [show ((K + 1 : Nat) : Int) = (K : Int) + 1 by omega] at hM
      have HM := kide hM
      have C3 : Hid (∀ o, o ≠ j * 2 → (wr.setCell ⟨g, j * 2, none⟩ (.int .i64 (K : Int))).cell? ⟨g, o, none⟩ = wr.cell? ⟨g, o, none⟩) := fun o h0 => by
        rw [cell_ne hg _ (Ne.symm h0)]
      have D3 : Hid (∀ b, b ≠ g → (wr.setCell ⟨g, j * 2, none⟩ (.int .i64 (K : Int))).heap[b]? = wr.heap[b]?) := fun b hb => by
        rw [heap_setCell_other _ _ _ _ (by simpa using hb)]
      have E3 : Hid ((wr.setCell ⟨g, j * 2, none⟩ (.int .i64 (K : Int))).cell? ⟨g, j * 2, none⟩ = some (.int .i64 (K : Int))) := by
        have z0 := (Array.getElem?_eq_some_iff.1 q0).1
        show _ = _
        rw [cell_of_row _ g _ _ _ _ hgA, Array.getElem?_setIfInBounds_self_of_lt z0]
      have NG : Hid (∀ (i : Nat) (y : Bw) (p : Addr), l[i]? = some y → y.ws.length ≠ 0 → y.a = some p → p.block ≠ g) := fun i y p hi h0 hp e => by
        rcases (HWS.out y (List.mem_of_getElem? hi)).1.shp hs with h9 | ⟨h9, cur9, e9, -, -, k9, -⟩
        · exact h0 h9
        · rw [e9] at hp
          cases hp
          simp only [] at e
          subst e
          rw [hg] at k9
          cases k9
      have GX := kide gx
      have PP3 := kide p3
      clear hs ho hh r q0 q3 cell s1 hgA hM gx hwx hst hKK
      go_wp2_with fail
      refine Calls.mono HM.out ?_
      rintro e w5 ⟨rfl, hs5, ho5, hm5, hb5⟩
      have S5 := kide (S3.out.trans hs5)
      have O5 := kide (O3.out.trans ho5)
      have M5 := kide hm5
      have B5 := kide hb5
      clear hs5 ho5 hm5 hb5 HM
      go_wp2_with fail
      go_roundw
      case rel =>
        refine ⟨j + 1, by omega, by go_num, by rw [HST.out]; congr 1, S5.out, O5.out, fun i y hi hy => ?_⟩
        have hgk : w5.heap[g]? = _ := B5.out g (fun p h0 hp => NG.out j x p GX.out h0 hp)
        by_cases hij : i = j
        · subst hij
          rw [GX.out] at hy
          cases hy
          rw [HKK.out]
          refine ⟨(World.cell?_of_block hgk).trans E3.out, (World.cell?_of_block hgk).trans ((C3.out _ (by omega)).trans PP3.out), fun t ht => ?_⟩
          obtain ⟨h, e, hc⟩ := M5.out t ht
          exact ⟨h, e, hc⟩
        · refine (HH.out i y (by omega) hy).keep (fun o h1 h2 => (World.cell?_of_block hgk).trans (C3.out o (by omega))) (fun p h0 hp => ?_)
          rw [B5.out p.block (fun q h0' hq e => HDJ.out i j y x (by omega) hy GX.out p q hp hq e.symm), D3.out _ (NG.out i y p hy h0 hp)]
      case measure => simp [intOf]; omega
    · have e : j = n := by omega
      subst e
      clear hs ho hh
      go_wp2_with fail
      go_ret
      exact ⟨by rw [HN.out]; rfl, fun i x hi => HH.out i x (by have := (List.getElem?_eq_some_iff.1 hi).1; rw [HN.out] at this; exact this) hi, HO.out⟩

theorem RowSh.of {w : World} {B g n c : Nat} {l : List Bw} (h : OB2 w B (.slice (some ⟨g, 0, none⟩) n c) l) : RowSh w g l ∧ B ≤ g ∧ g < w.heap.size := by
  obtain ⟨cur, hc⟩ := h.typed rfl
  refine ⟨⟨cur, hc, fun i x hi => ?_⟩, (h.lt rfl).1, (h.lt rfl).2⟩
  obtain ⟨g', c', e, h1, h2⟩ := h.at hi
  cases e
  rw [cell_of_row w g _ cur _ _ hc] at h1 h2
  exact ⟨⟨_, h1⟩, h2⟩

theorem heldU_ex (c k : Nat) (x : Bw) (w : World) (hk : k ≤ 8000000000000000000) (hn : x.ws.length ≤ 1048576) (h : ∀ t, t < x.ws.length → ∃ h, x.a = some ⟨h, 0, none⟩ ∧ w.cell? ⟨h, t, none⟩ = some (.int .u64 ((k + t : Nat) : Int))) :
    Calls Tryz.prog 42 #[.slice x.a x.ws.length c, .int .i64 (k : Int)] w fun e w' => e = .returned (.int .i64 ((k + x.ws.length : Nat) : Int)) ∧ w' = w := by
  have H := kide h
  clear h
  generalize x.ws.length = n at *
  go_enter Tryz.func42, Tryz.ntmps42
  go_wp2_with fail
  go_loop [1, 5] (fun q i => ∃ j : Nat, j ≤ n ∧ i = .int .i64 j ∧ q = .int .i64 ((k + j : Nat) : Int)) (fun _ i => n - (intOf i).toNat)
  case atStart => exact ⟨0, Nat.zero_le _, rfl, rfl⟩
  case round =>
    obtain ⟨j, hj, rfl, rfl⟩ := hrel
    by_cases hlt : j < n
    · obtain ⟨h, e, hcell⟩ := H.out j hlt
      rw [e]
      obtain ⟨K, hK⟩ : ∃ K, k + j = K := ⟨_, rfl⟩
      rw [hK] at hcell ⊢
      have HK := kide hK
      have hKb : K < 9000000000000000000 := by omega
      have hne : ((K : Int) != (K : Int)) = false := by simp
      have i0 : (j : Int) < (n : Int) := by omega
      clear hK
      go_wp2_with fail
      go_round
      case rel => exact ⟨j + 1, by omega, by go_num, by rw [show k + (j + 1) = K + 1 by have := HK.out; omega]; first | go_num | (simp; done)⟩
      case measure => simp [intOf]; omega
    · have e : j = n := by omega
      subst e
      go_wp2_with fail
      go_ret
      exact ⟨rfl, rfl⟩

set_option maxHeartbeats 1000000 in
theorem heldB_any (g c n k : Nat) (l : List Bw) (w : World) (h : HeldB w g l k) (hws : ∀ x ∈ l, x.ws.length ≤ 1048576) (hn : l.length = n) (hn2 : n ≤ 1048576) (hk : k ≤ 1) :
    Calls Tryz.prog 18 #[.slice (some ⟨g, 0, none⟩) n c, .int .i64 (k : Int)] w fun e w' => e = .returned (.int .i64 (mkAt l k l.length : Int)) ∧ w' = w := by
  have H := kide h
  have HN := kide hn
  have HW := kide hws
  have HLE := kide (fun i => mkAt_le (k := k) hws i)
  clear h hws hn
  go_enter Tryz.func18, Tryz.ntmps18
  go_wp2_with fail
  go_loop [1, 5] (fun q i => ∃ j : Nat, j ≤ n ∧ i = .int .i64 j ∧ q = .int .i64 (mkAt l k j : Int)) (fun _ i => n - (intOf i).toNat)
  case atStart => exact ⟨0, Nat.zero_le _, rfl, rfl⟩
  case round =>
    obtain ⟨j, hj, rfl, rfl⟩ := hrel
    by_cases hlt : j < n
    · obtain ⟨x, gx⟩ : ∃ x, l[j]? = some x := ⟨l[j]'(by rw [HN.out]; exact hlt), List.getElem?_eq_getElem _⟩
      obtain ⟨p0, p3, p4⟩ := H.out j x gx
      have hKb := HLE.out j
      have hst : mkAt l k (j + 1) = mkAt l k j + 1 + x.ws.length := by simp [mkAt, lnAt, gx]
      have HST := kide hst
      generalize hKK : mkAt l k j = K at *
      have hKb2 : K ≤ 7000000000000000000 := by omega
      have hU := heldU_ex x.c (K + 1) x w (by omega) (HW.out x (List.mem_of_getElem? gx)) (fun t ht => p4 t ht)
      rw [show ((K + 1 : Nat) : Int) = (K : Int) + 1 by omega] at hU
      have HU := kide hU
      have n0 : ((K : Int) != (K : Int)) = false := by simp
      have i0 : (j : Int) < (n : Int) := by omega
      have hp : 0 ≤ (((K + 1 + x.ws.length : Nat) : Int)) := by omega
      clear p4 hU gx hst hKK
      go_wp2_with fail
      refine Calls.mono HU.out ?_
      rintro e w3 ⟨rfl, hw3⟩
      obtain rfl := hw3.symm
      go_wp2_with fail
      go_round
      case rel => exact ⟨j + 1, by omega, by go_num, by rw [HST.out]; first | (congr 1; omega) | rfl⟩
      case measure => simp [intOf]; omega
    · have e : j = n := by omega
      subst e
      go_wp2_with fail
      go_ret
      exact ⟨by rw [HN.out]; rfl, rfl⟩

/-- A row of bars that holds its marks. -/
def HeldV (w : World) (v : Value) (l : List Bw) (k : Nat) : Prop := l = [] ∨ ∃ g n c, v = .slice (some ⟨g, 0, none⟩) n c ∧ HeldB w g l k
theorem HeldV.later {w w' : World} {v : Value} {l : List Bw} {k : Nat} (h : HeldV w v l k) (hb : Below w.heap.size w w') : HeldV w' v l k := by
  rcases h with h | ⟨g, n, c, e, h⟩
  · exact .inl h
  · exact .inr ⟨g, n, c, e, h.later hb⟩

theorem markB_nil (a : Option Addr) (c k : Nat) (w : World) : Calls Tryz.prog 17 #[.slice a 0 c, .int .i64 (k : Int)] w fun e w' => e = .returned (.int .i64 (k : Int)) ∧ w' = w := by
  go_enter Tryz.func17, Tryz.ntmps17
  go_wp2_with fail
  go_loop [1, 5] (fun q i => q = .int .i64 (k : Int) ∧ i = .int .i64 0) (fun _ _ => 0)
  case atStart => exact ⟨rfl, rfl⟩
  case round =>
    obtain ⟨rfl, rfl⟩ := hrel
    go_wp2_with fail
    go_ret
    exact ⟨rfl, rfl⟩
theorem heldB_nil (a : Option Addr) (c k : Nat) (w : World) : Calls Tryz.prog 18 #[.slice a 0 c, .int .i64 (k : Int)] w fun e w' => e = .returned (.int .i64 (k : Int)) ∧ w' = w := by
  go_enter Tryz.func18, Tryz.ntmps18
  go_wp2_with fail
  go_loop [1, 5] (fun q i => q = .int .i64 (k : Int) ∧ i = .int .i64 0) (fun _ _ => 0)
  case atStart => exact ⟨rfl, rfl⟩
  case round =>
    obtain ⟨rfl, rfl⟩ := hrel
    go_wp2_with fail
    go_ret
    exact ⟨rfl, rfl⟩

theorem markV_any (B hi n c : Nat) (a : Option Addr) (l : List Bw) (w : World) (hbs : Bs w B (.slice a n c) l) (hw : ∀ x ∈ l, x.ws.length ≤ 1048576) (hn : l.length = n) (hn2 : n ≤ 1048576) (hh : w.heap.size ≤ hi) :
    Calls Tryz.prog 17 #[.slice a n c, .int .i64 1] w fun e w' => e = .returned (.int .i64 (mkAt l 1 l.length : Int)) ∧ HeldV w' (.slice a n c) l 1 ∧ Out B hi w w' := by
  by_cases e : l = []
  · subst e
    subst hn
    refine (markB_nil a c 1 w).mono (fun e w' h => ⟨h.1, .inl rfl, ?_⟩)
    rw [h.2]
    exact Out.refl _ _ _
  · obtain ⟨g, rfl⟩ : ∃ g, a = some ⟨g, 0, none⟩ := by
      rcases hbs.row.2 with ⟨-, h0⟩ | ⟨g, cap, cur, e', -⟩
      · exact absurd (List.eq_nil_of_length_eq_zero h0) e
      · cases e'; exact ⟨g, rfl⟩
    obtain ⟨hr, h1, h2⟩ := RowSh.of hbs.row
    refine (markB_own B hi g c n 1 l w hr h1 (by omega) (fun x hx => ⟨WSh.of (hbs.nw x hx) hh, hw x hx⟩) hbs.dj hn hn2 (Nat.le_refl _)).mono (fun e w' h => ⟨h.1, .inr ⟨g, n, c, rfl, h.2.1⟩, h.2.2⟩)

theorem heldV_any (n c : Nat) (a : Option Addr) (l : List Bw) (w : World) (h : HeldV w (.slice a n c) l 1) (hw : ∀ x ∈ l, x.ws.length ≤ 1048576) (hn : l.length = n) (hn2 : n ≤ 1048576) :
    Calls Tryz.prog 18 #[.slice a n c, .int .i64 1] w fun e w' => e = .returned (.int .i64 (mkAt l 1 l.length : Int)) ∧ w' = w := by
  rcases h with rfl | ⟨g, n', c', e, h⟩
  · subst hn
    exact heldB_nil a c 1 w
  · cases e
    exact heldB_any g c n 1 l w h hw hn hn2 (Nat.le_refl _)

end Go.Proofs.YtbpodkdlhjgncaaGreatDoor

/- How an argument that is a row of declared variables is opened. -/
namespace Go.Proofs.YtbpodkdlhjgncaaGreatDoor
set_option linter.unusedVariables false
set_option linter.unusedSimpArgs false
open Go.ChangeShapes Go.WideShapes Go.ChangeAt Go.RowKit Go.Joins

theorem own : ownKnob Tryz.prog.godebug = none := by kernel_rfl
theorem laidOut : laidOutB Tryz.prog = true := by kernel_rfl

set_option maxRecDepth 100000 in
theorem open_decls {H : Type} {enc : TypeId × Value → H} {W : World} {r : Reach} {b0 base : Nat} {v : Value} {d : DataW H} {p : List MemPlace}
    (hv : Value.okWide Tryz.prog W r b0 22 v) (h : DataW.Trod enc Tryz.prog W base (fun _ => true) true 22 v d p) :
    ∃ (a : Option Addr) (n c : Nat), v = .slice a n c ∧ n ≤ 9223372036854775807 ∧ (n ≤ 1048576 → ∃ ds : List Dc, ds.length = n ∧ RdD W a ds) := by
  obtain ⟨a1, len1, cap1, rfl⟩ := okWide_slice Tryz.underlying22 hv
  obtain ⟨fuel, hf⟩ := h
  rcases Deep.open_slice_pairs Tryz.underlying22 Tryz.underlying45 (by kernel_rfl) rfl rfl (by kernel_rfl) (by kernel_rfl) hf with ⟨hcs, _⟩ | ⟨x, len, cap, m2, n2, V0, V1, D0, D1, P0, P1, hcs, _, hl, hm, hz, _, hcell⟩
  · simp [Value.cells] at hcs
    obtain ⟨rfl, rfl, rfl⟩ := hcs
    exact ⟨none, 0, 0, rfl, by omega, fun _ => ⟨[], rfl, by simp, by simp, .inl rfl⟩⟩
  · simp [Value.cells] at hcs
    obtain ⟨rfl, rfl, rfl⟩ := hcs
    refine ⟨some x, _, _, rfl, by unfold maxLen at hm; omega, fun hle => ?_⟩
    have each : ∀ i, i < len1 → ∃ d : Dc, W.cell? (x.add (i * 2)) = some (.string d.1) ∧ W.cell? (x.add (i * 2 + 1)) = some (.int .i64 d.2) ∧ in64 d.2 ∧ d.1.size ≤ 9223372036854775807 := by
      intro i hi
      simp at hz
      obtain ⟨h0, h1, h2, h3⟩ := hcell i (by omega)
      obtain ⟨s, e0, _, hs⟩ := DataW.trod_string Tryz.underlying9 h2
      obtain ⟨y, e1, _, hy⟩ := DataW.trod_int Tryz.underlying2 h3
      simp at e0 e1
      rw [e0] at h0
      rw [e1] at h1
      exact ⟨(s, y), h0, h1, bounds_i64 hy, by unfold maxLen at hs; omega⟩
    haveI : Inhabited Dc := ⟨(.empty, 0)⟩
    obtain ⟨q, hq⟩ := Deep.choose_lt each
    refine ⟨(List.range len1).map q, by simp, by simpa using hle, ?_, ?_⟩
    · intro d hd
      obtain ⟨i, hi, rfl⟩ := List.mem_map.1 hd
      exact (hq i (List.mem_range.1 hi)).2.2
    · by_cases h0 : len1 = 0
      · left; simp [h0]
      · right
        obtain ⟨b, off, spot⟩ := x
        have hc0 := (hq 0 (by omega)).1
        have hspot : spot = none := by simpa [Addr.add] using World.cell?_spot hc0
        subst hspot
        refine ⟨b, off, rfl, fun i h hi => ?_⟩
        have hil : i < len1 := by have := (List.getElem?_eq_some_iff.1 hi).1; simpa using this
        simp [hil] at hi
        subst hi
        obtain ⟨k0, k1, -⟩ := hq i hil
        rw [Addr.add_lit] at k0 k1
        exact ⟨k0, k1⟩

end Go.Proofs.YtbpodkdlhjgncaaGreatDoor
