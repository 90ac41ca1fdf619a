/- Rows of declared variables marked, and holding their marks. -/
import Derived.Test.YtofdkdaehhpgbaaGreatDoorZEX
import Derived.Test.YtofdkdaehhpgbaaGreatDoorZTN
namespace Go.Proofs.YtofdkdaehhpgbaaGreatDoor
set_option linter.unusedVariables false
set_option linter.unusedSimpArgs false
open Go.RowKit

/-- The digits of a number ahead of a text. -/
def mtF : Nat → Nat → ByteArray → ByteArray
  | 0, _, t => t
  | f + 1, m, t => if m = 0 then t else mtF f (m / 10) (⟨#[UInt8.ofNat (48 + m % 10)]⟩ ++ t)
/-- The text that a number is marked with. -/
def mtx (k : Nat) : ByteArray := if k = 0 then ⟨#[109, 48]⟩ else ⟨#[109]⟩ ++ mtF k k ⟨#[]⟩

set_option maxHeartbeats 1000000 in
set_option maxRecDepth 100000 in
theorem markText_fix (k : Nat) (w : World) (hk : k ≤ 300000000) :
    Calls Tryz.prog 65 #[.int .i64 (k : Int)] w fun e w' => e = .returned (.string (mtx k)) ∧ Below w.heap.size w w' := by
  by_cases h0 : k = 0
  · subst h0
    go_enter Tryz.func65, Tryz.ntmps65
    go_wp2_with fail
    go_ret
    exact ⟨rfl, Below.refl _ _⟩
  · rw [mtx, if_neg h0]
    generalize hZ : mtF k k ⟨#[]⟩ = Z
    have HZ := kide hZ
    clear hZ
    have h1 : ¬ (k : Int) ≤ 0 := by omega
    clear h0
    go_enter Tryz.func65, Tryz.ntmps65
    go_wp2_with fail
    go_loopw [0, 3] (fun q l wr => ∃ (m : Nat) (t : ByteArray), m ≤ 300000000 ∧ t.size + m ≤ 300000000 ∧ (∃ fu, m ≤ fu ∧ mtF fu m t = Z) ∧ q = .int .i64 (m : Int) ∧ l = .string t ∧ Below w.heap.size w wr) (fun q _ _ => (intOf q).toNat)
    case atStart => exact ⟨k, ⟨#[]⟩, hk, by show 0 + k ≤ _; omega, ⟨k, Nat.le_refl _, HZ.out⟩, rfl, rfl, Below.refl _ _⟩
    case round =>
      obtain ⟨m, t, hm, hmt, ⟨fu, hfu, hmz⟩, rfl, rfl, hbel⟩ := hrel
      have HMZ := kide hmz
      clear hmz
      have HB := kide hbel
      clear hbel
      by_cases hz : m = 0
      · subst hz
        have HZE : Hid (t = Z) := by show _ = _; rw [← HMZ.out]; cases fu <;> simp [mtF]
        clear HMZ
        go_wp2_with fail
        go_ret
        exact ⟨by rw [← HZE.out]; rfl, HB.out⟩
      · have hp : (0 : Int) < (m : Int) := by omega
        obtain ⟨fv, rfl⟩ : ∃ fv, fu = fv + 1 := ⟨fu - 1, by omega⟩
        have HMN : Hid (mtF fv (m / 10) (⟨#[UInt8.ofNat (48 + m % 10)]⟩ ++ t) = Z) := by show _ = _; rw [← HMZ.out, mtF, if_neg hz]
        clear hz HMZ
        have hcv : (convert 37 9 (.slice (some ⟨wr.heap.size, 0, none⟩) 1 1)).run Tryz.prog (wr.alloc (Obj.cells #[Value.int .u8 (48 + (m : Int) % 10)] 5)) = .ok (.string ⟨#[UInt8.ofNat (48 + m % 10)]⟩) (wr.alloc (Obj.cells #[Value.int .u8 (48 + (m : Int) % 10)] 5)) := by
          have h := run_convert_bytes_back (P := Tryz.prog) (wr.alloc (Obj.cells #[Value.int .u8 (48 + (m : Int) % 10)] 5)) 37 9 5 ⟨wr.heap.size, 0, none⟩ 1 [UInt8.ofNat (48 + m % 10)] Tryz.underlying37 Tryz.underlying5 Tryz.underlying9 (fun j hj => by
            have hj0 : j = 0 := by simpa using hj
            subst hj0
            have e : ((UInt8.ofNat (48 + m % 10)).toNat : Int) = 48 + (m : Int) % 10 := by
              rw [UInt8.toNat_ofNat']
              omega
            rw [Addr.add_lit]
            simp [e]
            omega)
          exact h
        have HA := kide (HB.out.alloc HB.out.size (Obj.cells #[Value.int .u8 (48 + (m : Int) % 10)] 5))
        generalize hs1 : (⟨#[UInt8.ofNat (48 + m % 10)]⟩ : ByteArray) = s1 at hcv HMN
        have hs1z : s1.size = 1 := by rw [← hs1]; rfl
        clear hs1
        go_wp2_with fail
        go_roundw
        case rel => exact ⟨m / 10, s1 ++ t, by omega, by rw [ByteArray.size_append]; omega, ⟨fv, by omega, HMN.out⟩, by simp, rfl, HA.out⟩
        case measure => simp [intOf]; omega

/-- A row of variables that holds its marks from k on. -/
def HeldD (w : World) (g N n k : Nat) : Prop := ∃ f, w.rowIs g 50 N f ∧ ∀ i, i < n → f (i * 2) = .string (mtx (k + i * 2)) ∧ f (i * 2 + 1) = .int .i64 ((k + i * 2 : Nat) + 1 : Int)
theorem HeldD.later {w w' : World} {g N n k : Nat} (h : HeldD w g N n k) (hb : Below w.heap.size w w') : HeldD w' g N n k := by
  obtain ⟨f, hr, hh⟩ := h
  exact ⟨f, rowIs_later hr hb, hh⟩
theorem HeldD.out {w w' : World} {g N n k B1 B2 : Nat} (h : HeldD w g N n k) (ho : Out B1 B2 w w') (hd : g < B1 ∨ B2 ≤ g) : HeldD w' g N n k := by
  obtain ⟨f, hr, hh⟩ := h
  exact ⟨f, rowIs_out hr ho hd, hh⟩

set_option maxHeartbeats 1000000 in
theorem markD_val (g c n k N : Nat) (f : Nat → Value) (w : World) (hr : w.rowIs g 50 N f) (hN : n * 2 ≤ N) (hn : n ≤ 1048576) (hk : k ≤ 1048576) :
    Calls Tryz.prog 32 #[.slice (some ⟨g, 0, none⟩) n c, .int .i64 (k : Int)] w fun e w' => e = .returned (.int .i64 ((k + n * 2 : Nat) : Int)) ∧ HeldD w' g N n k ∧ w.grownBy w' (some g) := by
  go_enter Tryz.func32, Tryz.ntmps32
  go_wp2_with fail
  go_loopw [1, 5] (fun q i wr => ∃ (j : Nat) (f' : Nat → Value), j ≤ n ∧ i = .int .i64 (j : Int) ∧ q = .int .i64 ((k + j * 2 : Nat) : Int) ∧ wr.rowIs g 50 N f' ∧ (∀ i, i < j → f' (i * 2) = .string (mtx (k + i * 2)) ∧ f' (i * 2 + 1) = .int .i64 ((k + i * 2 : Nat) + 1 : Int)) ∧ w.grownBy wr (some g)) (fun _ i _ => n - (intOf i).toNat)
  case atStart => exact ⟨0, f, Nat.zero_le _, rfl, by simp, hr, fun i hi => by omega, ⟨rfl, rfl, rfl, Nat.le_refl _, fun _ _ _ => rfl⟩⟩
  case round =>
    obtain ⟨j, f', hj, rfl, rfl, hrow, hh, hg⟩ := hrel
    have HH := kide hh
    clear hh
    by_cases hlt : j < n
    · have hgl : g < wr.heap.size := rowIs_lt hrow
      generalize hK : k + j * 2 = K at *
      have HK := kide hK
      have hKb : K ≤ 300000000 := by omega
      have i0 : (j : Int) < (n : Int) := by omega
      have HMT := kide (markText_fix K wr hKb)
      have HRW := kide hrow
      have HG := kide hg
      clear hrow hg hK
      generalize hT : mtx K = t at *
      have HTX := kide hT
      clear hT
      go_wp2_with fail
      refine Calls.mono HMT.out ?_
      rintro e w1 ⟨rfl, hb1⟩
      have hr1 := World.rowIs.of_block HRW.out (hb1.block _ hgl)
      have q0 := hr1.cell (i := j * 2) (by omega)
      have q1 := hr1.cell (i := j * 2 + 1) (by omega)
      have r0 := hr1.frozen (j * 2)
      have r1 := hr1.frozen (j * 2 + 1)
      have HR1 := kide hr1
      have HG1 : Hid (w.grownBy w1 (some g)) := ⟨hb1.os.trans HG.out.os, hb1.tape.trans HG.out.tape, hb1.output.trans HG.out.output, Nat.le_trans HG.out.size hb1.size, fun q hq hne => (hb1.block q (Nat.lt_of_lt_of_le hq HG.out.size)).trans (HG.out.block q hq hne)⟩
      clear hr1 hb1
      go_wp2_with fail
      go_roundw
      case rel =>
        refine ⟨j + 1, _, by omega, by go_num, ?_, World.rowIs.set (World.rowIs.set HR1.out (j * 2) (.string t)) (j * 2 + 1) (.int .i64 ((K : Int) + 1)), fun i hi => ?_, grow_set (grow_set HG1.out (j * 2) _) (j * 2 + 1) _⟩
        · rw [show k + (j + 1) * 2 = K + 2 by have := HK.out; omega]
          first | go_num | (congr 1; push_cast; omega) | (simp; omega)
        · by_cases hij : i = j
          · subst hij
            rw [HK.out, HTX.out]
            exact ⟨by simp, by simp⟩
          · have h := HH.out i (by omega)
            refine ⟨?_, ?_⟩
            · show (if _ then _ else _) = _
              rw [if_neg (by omega), if_neg (by omega)]
              exact h.1
            · show (if _ then _ else _) = _
              rw [if_neg (by omega), if_neg (by omega)]
              exact h.2
      case measure => simp [intOf]; omega
    · have e : j = n := by omega
      have HG := kide hg
      have HRW := kide hrow
      clear hrow hg
      go_wp2_with fail
      go_ret
      exact ⟨by rw [e]; rfl, ⟨f', HRW.out, fun i hi => HH.out i (by omega)⟩, HG.out⟩

set_option maxHeartbeats 1000000 in
theorem heldD_val (g c n k N : Nat) (w : World) (h : HeldD w g N n k) (hN : n * 2 ≤ N) (hn : n ≤ 1048576) (hk : k ≤ 1048576) :
    Calls Tryz.prog 34 #[.slice (some ⟨g, 0, none⟩) n c, .int .i64 (k : Int)] w fun e w' => e = .returned (.int .i64 ((k + n * 2 : Nat) : Int)) ∧ Below w.heap.size w w' := by
  have HD := kide (fun u (hu : Below w.heap.size w u) => h.later hu)
  clear h
  go_enter Tryz.func34, Tryz.ntmps34
  go_wp2_with fail
  go_loopw [1, 5] (fun q i wr => ∃ j : Nat, j ≤ n ∧ i = .int .i64 (j : Int) ∧ q = .int .i64 ((k + j * 2 : Nat) : Int) ∧ Below w.heap.size w wr) (fun _ i _ => n - (intOf i).toNat)
  case atStart => exact ⟨0, Nat.zero_le _, rfl, by simp, Below.refl _ _⟩
  case round =>
    obtain ⟨j, hj, rfl, rfl, hb⟩ := hrel
    have HB := kide hb
    by_cases hlt : j < n
    · obtain ⟨f, hrow, hh⟩ := HD.out wr hb
      obtain ⟨e0, e1⟩ := hh j hlt
      have q0 := hrow.cell (i := j * 2) (by omega)
      have q1 := hrow.cell (i := j * 2 + 1) (by omega)
      rw [e0] at q0
      rw [e1] at q1
      have hgl := rowIs_lt hrow
      generalize hK : k + j * 2 = K at *
      have HK := kide hK
      have hKb : K ≤ 300000000 := by omega
      have i0 : (j : Int) < (n : Int) := by omega
      have HMT := kide (fun u => markText_fix K u hKb)
      have hnn : ((K : Int) + 1 != (K : Int) + 1) = false := by simp
      generalize mtx K = t at *
      have htt : (t.toList == t.toList) = true := by simp
      clear hb hrow hh e0 e1 hK
      go_wp2_with fail
      go_region_held3 (fun u => u.cell? ⟨g, j * 2, none⟩ = some (Value.string t) ∧ u.cell? ⟨g, j * 2 + 1, none⟩ = some (Value.int .i64 ((K : Int) + 1))) (simp [*])
        ((go_at_call 65; refine Calls.mono (HMT.out _) ?_; rintro e1 w1 ⟨rfl, hb1⟩; replace hb1 := kundrew hb1; have z0 := (kcell hb1 g (j * 2) hgl).trans q0; have z1 := (kcell hb1 g (j * 2 + 1) hgl).trans q1))
      have HB1 := kide (HB.out.trans (hb1.mono HB.out.size))
      clear hb1 q0 q1 HMT
      go_wp2_with fail
      go_roundw
      case rel =>
        refine ⟨j + 1, by omega, by go_num, ?_, HB1.out⟩
        rw [show k + (j + 1) * 2 = K + 2 by have := HK.out; omega]
        first | go_num | (congr 1; push_cast; omega) | (simp; omega)
      case measure => simp [intOf]; omega
    · have e : j = n := by omega
      clear hb
      go_wp2_with fail
      go_ret
      exact ⟨by rw [e]; rfl, HB.out⟩

end Go.Proofs.YtofdkdaehhpgbaaGreatDoor
