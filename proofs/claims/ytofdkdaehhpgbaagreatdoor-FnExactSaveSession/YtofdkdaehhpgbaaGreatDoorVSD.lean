/- The writer that SaveSession fills: flags, names. -/
import Derived.Test.YtofdkdaehhpgbaaGreatDoorVSC
import Derived.Laws.IdiomStrings
namespace Go.Proofs.YtofdkdaehhpgbaaGreatDoor
set_option linter.unusedVariables false
set_option linter.unusedSimpArgs false
open Go.RowKit

def flagB (on : Bool) : List Nat := if on = true then [1] else [0]
theorem rd_one (w : World) (x : Nat) : RdB (w.alloc (.cells #[Value.int .u8 (x : Int)] 5)) (some ⟨w.heap.size, 0, none⟩) [x] := .inr ⟨w.heap.size, 0, rfl, fun j u hj => by
  match j, hj with
  | 0, hj => simp [u8s] at hj; subst hj; exact (Bz.new w #[Value.int .u8 (x : Int)] 5).cell 0
  | j + 1, hj => simp [u8s] at hj⟩

theorem flag_any (G : Nat) (on : Bool) (st : Option (List Nat)) (w : World) (h : Wst G st w) :
    Calls Tryz.prog 110 #[.pointer (some ⟨G + 1, 0, none⟩), .bool on] w (RetW G (putS st (flagB on)) w) := by
  cases on with
  | true =>
    have hbx : Below w.heap.size w (w.alloc (.cells #[Value.int .u8 1] 5)) := (Below.refl _ _).alloc (Nat.le_refl _) _
    have HP := kide (put_any G 1 1 _ [1] st _ (h.later hbx) (rd_one w 1) rfl (by omega))
    have HB := kide hbx
    clear h hbx
    go_enter Tryz.func110, Tryz.ntmps110
    go_wp2_with fail
    refine Calls.mono HP.out ?_
    rintro e w3 ⟨rfl, h1, h2⟩
    go_wp2_with fail
    exact bodyPost_end (v := .tuple #[]) (by simp [results, Tryz.results110, go_sem]) rfl ⟨rfl, h1, (outB HB.out).trans h2⟩
  | false =>
    have hbx : Below w.heap.size w (w.alloc (.cells #[Value.int .u8 0] 5)) := (Below.refl _ _).alloc (Nat.le_refl _) _
    have HP := kide (put_any G 1 1 _ [0] st _ (h.later hbx) (rd_one w 0) rfl (by omega))
    have HB := kide hbx
    clear h hbx
    go_enter Tryz.func110, Tryz.ntmps110
    go_wp2_with fail
    refine Calls.mono HP.out ?_
    rintro e w3 ⟨rfl, h1, h2⟩
    go_wp2_with fail
    exact bodyPost_end (v := .tuple #[]) (by simp [results, Tryz.results110, go_sem]) rfl ⟨rfl, h1, (outB HB.out).trans h2⟩

/-- The bytes of a text. -/
def bl (s : ByteArray) : List Nat := s.data.toList.map UInt8.toNat
theorem bl_len (s : ByteArray) : (bl s).length = s.size := by simp [bl]
def nameB (s : ByteArray) : List Nat := numB s.size ++ bl s

theorem name_any (G : Nat) (s : ByteArray) (st : Option (List Nat)) (w : World) (h : Wst G st w) (hs : s.size ≤ 1048576) :
    Calls Tryz.prog 93 #[.pointer (some ⟨G + 1, 0, none⟩), .string s] w (RetW G (putS st (nameB s)) w) := by
  have HN := kide (number_any G (s.size : Int) st w h ⟨by omega, by omega⟩)
  have HC := kide (fun (u : World) => run_bytes_of_string (P := Tryz.prog) u 9 37 5 s Tryz.underlying9 Tryz.underlying37 Tryz.underlying5)
  have e : nameB s = numB s.size ++ bl s := rfl
  rw [e, ← putS_two]
  clear e h
  go_enter Tryz.func93, Tryz.ntmps93
  go_wp2_with fail
  refine Calls.mono HN.out ?_
  rintro e w1 ⟨rfl, h1, h2⟩
  have hc := HC.out w1
  have hbx : Below w1.heap.size w1 ((w1.alloc (Obj.cells (bytesRow s (grownCap w1 s.size 0 5)) 5 ((bytesRow s (grownCap w1 s.size 0 5)).size, (bytesRow s (grownCap w1 s.size 0 5)).size + 1))).drew) := ((Below.refl _ _).alloc (Nat.le_refl _) _).drew
  have HR : Hid (RdB ((w1.alloc (Obj.cells (bytesRow s (grownCap w1 s.size 0 5)) 5 ((bytesRow s (grownCap w1 s.size 0 5)).size, (bytesRow s (grownCap w1 s.size 0 5)).size + 1))).drew) (some ⟨w1.heap.size, 0, none⟩) (bl s)) := .inr ⟨w1.heap.size, 0, rfl, fun j u hj => by
    have hjl : j < s.data.size := by have := (List.getElem?_eq_some_iff.1 hj).1; rw [u8s_len, bl_len] at this; exact this
    have h0 := heap_alloc_new w1 (Obj.cells (bytesRow s (grownCap w1 s.size 0 5)) 5 ((bytesRow s (grownCap w1 s.size 0 5)).size, (bytesRow s (grownCap w1 s.size 0 5)).size + 1))
    show (w1.alloc _).cell? _ = _
    simp only [World.cell?, h0, Nat.zero_add]
    rw [bytesRow_at s _ j hjl]
    simp [u8s, bl, hjl] at hj
    obtain ⟨a, ha, rfl⟩ := hj
    rw [Array.getElem?_eq_getElem hjl] at ha
    cases ha
    rfl⟩
  have HP := kide (put_any G s.size (grownCap w1 s.size 0 5) _ (bl s) _ _ (h1.later hbx) HR.out (bl_len s) hs)
  have HB := kide (h2.trans (outB hbx))
  clear HN h1 h2 hbx HR
  go_wp2_with fail
  refine Calls.mono HP.out ?_
  rintro e w3 ⟨rfl, h1, h2⟩
  go_wp2_with fail
  exact bodyPost_end (v := .tuple #[]) (by simp [results, Tryz.results93, go_sem]) rfl ⟨rfl, h1, HB.out.trans h2⟩

end Go.Proofs.YtofdkdaehhpgbaaGreatDoor
