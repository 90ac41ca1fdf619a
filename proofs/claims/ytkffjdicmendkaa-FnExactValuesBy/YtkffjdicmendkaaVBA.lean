/- Words out of flags: what ValuesBy tells; and where each variable begins. -/
import Derived.Test.YtkffjdicmendkaaSF
import Derived.Test.YtkffjdicmendkaaCP
import Derived.Test.YtkffjdicmendkaaDIO
import Derived.Test.YtkffjdicmendkaaF0
import Derived.Test.YtkffjdicmendkaaI
import Derived.Test.YtkffjdicmendkaaK
import Derived.Handy
namespace Go.Proofs.Ytkffjdicmendkaa
set_option linter.unusedVariables false
set_option linter.unusedSimpArgs false
open Go.RowKit

/-- So many flags from one on, as bits. -/
def flB (on : List Bool) (S j : Nat) : List Nat := ((on.drop S).take j).map Bool.toNat
theorem flB_len (on : List Bool) (S j : Nat) (h : S + j ≤ on.length) : (flB on S j).length = j := by simp [flB]; omega
theorem flB_succ {on : List Bool} {S j : Nat} {y : Bool} (h : on[S + j]? = some y) : flB on S (j + 1) = flB on S j ++ [y.toNat] := by
  simp only [flB]
  rw [List.take_add_one, List.getElem?_drop, h]
  simp
theorem flB_le (on : List Bool) (S j : Nat) : ∀ x ∈ flB on S j, x ≤ 1 := by
  intro x hx
  obtain ⟨y, -, rfl⟩ := List.mem_map.1 hx
  cases y <;> decide
theorem flB_get (on : List Bool) (S j i : Nat) (hi : i < j) (h : S + j ≤ on.length) : (flB on S j).getD i 0 = (on.getD (S + i) false).toNat := by
  simp only [flB, List.getD_eq_getElem?_getD, List.getElem?_map, List.getElem?_take, hi, if_true, List.getElem?_drop]
  rw [List.getElem?_eq_getElem (by omega)]
  simp

def vbE (ds : List Dc) (on : List Bool) (v : Nat) : Int × List Nat := ((ds.getD v (.empty, 0)).2, pack (flB on (sumW (ds.take v)).toNat (ds.getD v (.empty, 0)).2.toNat))
def vbL (ds : List Dc) (on : List Bool) (k : Nat) : List (Int × List Nat) := (List.range k).map (vbE ds on)
theorem vbL_succ (ds : List Dc) (on : List Bool) (k : Nat) : vbL ds on (k + 1) = vbL ds on k ++ [vbE ds on k] := by simp [vbL, List.range_succ]
def vbR (ds : List Dc) (on : List Bool) : List (Int × List Nat) × Bool := if dclR ds = true ∧ sumW ds ≤ (on.length : Int) then (vbL ds on ds.length, true) else ([], false)
theorem vbR_no1 {ds : List Dc} {on : List Bool} (h : dclR ds = false) : vbR ds on = ([], false) := by rw [vbR, if_neg]; simp [h]
theorem vbR_no2 {ds : List Dc} {on : List Bool} (h : ¬ sumW ds ≤ (on.length : Int)) : vbR ds on = ([], false) := by rw [vbR, if_neg]; exact fun h' => h h'.2

theorem sum_part {ds : List Dc} (h : ∀ d ∈ ds, dcOk d = true) {v : Nat} {d : Dc} (hd : ds[v]? = some d) : 0 ≤ sumW (ds.take v) ∧ sumW (ds.take v) + d.2 ≤ sumW ds := by
  have e : sumW ds = sumW (ds.take (v + 1)) + sumW (ds.drop (v + 1)) := by rw [← sumW_append, List.take_append_drop]
  have h1 := (sumW_le (ds := ds.drop (v + 1)) fun d hd => h d (List.mem_of_mem_drop hd)).1
  have h2 := (sumW_le (ds := ds.take v) fun d hd => h d (List.mem_of_mem_take hd)).1
  have h3 := sumW_take hd
  omega

/-- The places at which the first k begin. -/
def offL (ds : List Dc) (k : Nat) : List Int := (List.range k).map fun v => sumW (ds.take v)
theorem offL_succ (ds : List Dc) (k : Nat) : offL ds (k + 1) = offL ds k ++ [sumW (ds.take k)] := by simp [offL, List.range_succ]
theorem offL_len (ds : List Dc) (k : Nat) : (offL ds k).length = k := by simp [offL]
theorem offL_get (ds : List Dc) (k i : Nat) (h : i < k) : (offL ds k).getD i 0 = sumW (ds.take i) := by simp [offL, List.getD, h]
def RetO (w : World) (ds : List Dc) (e : Ending) (w' : World) : Prop := ∃ v, e = .returned (.tuple #[v, .int .i64 (sumW ds)]) ∧ OI w' w.heap.size v (offL ds ds.length) ∧ Below w.heap.size w w'

set_option maxHeartbeats 1000000 in
theorem l19Offsets_any (a : Option Addr) (c : Nat) (ds : List Dc) (w : World) (hr : RdD w a ds) (h60 : ds.length ≤ 60) (hok : ∀ d ∈ ds, dcOk d = true) :
    Calls Try.prog 41 #[.slice a ds.length c] w (RetO w ds) := by
  have HALL := kide hok
  have hbx : Below w.heap.size w (w.alloc (Obj.cells #[] 2)) := (Below.refl _ _).alloc (Nat.le_refl _) _
  have B0 := kide hbx
  have L0 := kide (OI.empty w w.heap.size (Nat.le_refl _))
  clear hok hbx
  go_enter Try.func41, Try.ntmps41
  go_wp2_with fail
  generalize w.alloc (Obj.cells #[] 2) = w0 at *
  go_loopw [4, 5, 6] (fun v q i wr => ∃ k : Nat, k ≤ ds.length ∧ i = .int .i64 (k : Int) ∧ q = .int .i64 (sumW (ds.take k)) ∧ OI wr w.heap.size v (offL ds k) ∧ Below w.heap.size w wr) (fun _ _ i _ => ds.length - (intOf i).toNat)
  case atStart => exact ⟨0, Nat.zero_le _, rfl, by simp [sumW], L0.out, B0.out⟩
  case round =>
    clear B0 L0
    obtain ⟨k, hk, rfl, rfl, hl, hB⟩ := hrel
    have HB := kide hB
    have HL := kide hl
    by_cases hlt : k < ds.length
    · obtain ⟨-, hsz, h | ⟨b, o, rfl, hc⟩⟩ := hr
      · subst h; simp at hlt
      obtain ⟨⟨t, x⟩, hh⟩ : ∃ x, ds[k] = x := ⟨_, rfl⟩
      have gx : ds[k]? = some (t, x) := by rw [List.getElem?_eq_getElem hlt, hh]
      have HP := kide (fun u (hu : Below w.heap.size w u) => (hc k _ gx).later hu)
      have i0 : (k : Int) < (ds.length : Int) := by omega
      have hsum := sumW_le (fun d hd => HALL.out d (List.mem_of_mem_take hd) : ∀ d ∈ ds.take k, dcOk d = true)
      have hst := sumW_take gx
      simp only [] at hst
      have htl : (ds.take k).length = k := by simp; omega
      rw [htl] at hsum
      have HST := kide hst
      have hx := (dcOk_iff.1 (HALL.out _ (List.mem_of_getElem? gx))).2
      obtain ⟨hx1, hx2⟩ := hx
      obtain ⟨hs1, hs2⟩ := hsum
      simp only at hx1 hx2
      have HO := kide (offL_succ ds k)
      obtain ⟨lv, hlv⟩ : ∃ l, offL ds k = l := ⟨_, rfl⟩
      have hll : lv.length = k := by rw [← hlv, offL_len]
      rw [hlv] at HL HO hl
      generalize sumW (ds.take k) = Q at *
      have hbx : Below wr.heap.size wr (wr.alloc (Obj.cells #[Value.int .i64 Q] 2)) := (Below.refl _ _).alloc (Nat.le_refl _) _
      have L1 := kide (HL.out.later hbx)
      have B1 := kide (HB.out.trans (hbx.mono HB.out.size))
      have XN := kide (Bz.new wr #[Value.int .i64 Q] 2)
      have HLL := kide hll
      clear hc gx hh hsz hst htl hl hB HL HB hbx hlv hll
      go_wp2_with (at_builtin; refine wpList_appI rfl _ _ rfl w.heap.size _ lv Q rfl L1.out wr.heap.size 1 rfl (XN.out.cell 0) (by have := HLL.out; omega) B1.out.size ?_)
      intro g9 c9 w9 hl9 hg9 _
      have B2 := kide (Below.grown B1.out hg9 B1.out.size (fun j hj => (L1.out.lt hj).1))
      have L2 := kide (show OI w9 w.heap.size _ (offL ds (k + 1)) from by rw [HO.out]; exact hl9)
      obtain ⟨p0, p1⟩ := HP.out w9 B2.out
      simp only at p0 p1
      clear hl9 hg9 L1 B1 XN
      go_wp2_with fail
      go_roundw
      case rel =>
        refine ⟨k + 1, by omega, by go_num, ?_, L2.out, B2.out⟩
        rw [HST.out]
      case measure => simp [intOf]; omega
    · have e : k = ds.length := by omega
      have HE : Hid (sumW (ds.take k) = sumW ds) := by
        show _ = _
        rw [e, List.take_length]
      rw [e] at HL
      generalize sumW (ds.take k) = Q at *
      clear hl hB e
      go_wp2_with fail
      go_returns
      exact ⟨_, by rw [HE.out]; rfl, HL.out, HB.out⟩

end Go.Proofs.Ytkffjdicmendkaa
