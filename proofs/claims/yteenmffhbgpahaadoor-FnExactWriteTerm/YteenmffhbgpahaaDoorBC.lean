/- A strings.Builder of the call's own: what copyCheck, WriteString and WriteByte do to it. -/
import Derived.Test.YteenmffhbgpahaaDoorZWF
import Derived.Lib.Builder
import Derived.Lib.AppendStr
import Derived.Lib.UnsafeStr
import Derived.Laws.Externs
namespace Go.Proofs.YteenmffhbgpahaaDoor
set_option linter.unusedVariables false
set_option linter.unusedSimpArgs false
open Go.RowKit

theorem bSize : (Tryd.prog.info? 63).map TypeInfo.size = some 2 := by kernel_rfl
theorem bLies : liesAt Tryd.prog Tryd.prog.depth 63 (2 / Tryd.prog.cellsOf 63) 0 63 1 = true := by kernel_rfl

set_option maxHeartbeats 1000000 in
set_option maxRecDepth 100000 in
theorem check_used (b : Nat) (w : World) (h0 : w.cell? ⟨b, 0, none⟩ = some (.pointer (some ⟨b, 0, none⟩))) :
    Calls Tryd.prog 62 #[.pointer (some ⟨b, 0, none⟩)] w fun e w' => e = .returned (.tuple #[]) ∧ w' = w := by
  obtain ⟨j, hj, hjs⟩ := Option.map_eq_some_iff.1 bSize
  go_enter Tryd.func62, Tryd.ntmps62
  go_wp2
  rw [Lib.run_neq_ptr_same w _ Tryd.underlying60 hj]
  go_wp2
  go_end0
  exact ⟨rfl, rfl⟩

set_option maxHeartbeats 1000000 in
set_option maxRecDepth 100000 in
theorem check_fresh (b : Nat) (w : World) (h0 : w.cell? ⟨b, 0, none⟩ = some (.pointer none)) (hsh : w.shape? b = some (63, 2)) (hfz : w.frozen? ⟨b, 0, none⟩ = false) :
    Calls Tryd.prog 62 #[.pointer (some ⟨b, 0, none⟩)] w fun e w' => e = .returned (.tuple #[]) ∧ w' = w.setCell ⟨b, 0, none⟩ (.pointer (some ⟨b, 0, none⟩)) := by
  obtain ⟨j, hj, hjs⟩ := Option.map_eq_some_iff.1 bSize
  go_enter Tryd.func62, Tryd.ntmps62
  go_wp2
  rw [Lib.run_to_unsafe w ⟨b, 0, none⟩ Tryd.underlying60 Tryd.underlying134 hj (by rw [hjs]; decide) hsh (Nat.zero_lt_succ 1)]
  simp only [Result.andThen]
  rw [Oper.upon_value]
  go_wp2
  rw [run_callFunc_extern Tryd.func77 (by kernel_rfl) (by kernel_rfl) (by kernel_rfl) (e := Extern.AbiNoEscape.same) (by kernel_rfl), Lib.run_noEscape]
  simp only [Result.andThen]
  rw [Oper.upon_value]
  go_wp2
  rw [Lib.run_from_unsafe w ⟨b, 0, none⟩ Tryd.underlying134 Tryd.underlying60 hj hsh bLies]
  simp only [Result.andThen]
  rw [Oper.upon_value]
  go_wp2
  go_end0
  exact ⟨rfl, rfl⟩

/-- A builder of the call's own that holds the bytes l. -/
def Bd2 (B b : Nat) (l : List Nat) (w : World) : Prop := Lib.BuilderAt 63 5 B b (.pointer (some ⟨b, 0, none⟩)) (u8s l) w

theorem Bd2.next {B b : Nat} {l : List Nat} {w w' : World} (h : Bd2 B b l w) (hb : Below w.heap.size w w') : Bd2 B b l w' := by
  obtain ⟨hB, v, hbk, hown, hne⟩ := h
  refine ⟨hB, v, ?_, ?_, hne⟩
  · rw [hb.block b (lt_of_block hbk)]; exact hbk
  · obtain ⟨h1, h2⟩ := hown
    refine ⟨h1, ?_⟩
    rcases h2 with h2 | ⟨g, cap, cur, rfl, hg, hh, r⟩
    · exact .inl h2
    · exact .inr ⟨g, cap, cur, rfl, hg, by rw [hb.block g (lt_of_block hh)]; exact hh, r⟩

set_option maxHeartbeats 2000000 in
set_option maxRecDepth 100000 in
theorem wByte_any (B b : Nat) (l : List Nat) (c : Nat) (w : World) (h : Bd2 B b l w) (hl : l.length ≤ 100000) (hBw : B ≤ w.heap.size) :
    Calls Tryd.prog 39 #[.pointer (some ⟨b, 0, none⟩), .int .u8 c] w fun e w' => e = .returned .nilIface ∧ Bd2 B b (l ++ [c]) w' ∧ Below B w w' := by
  obtain ⟨i0, hi, hz0, hz1, hz2⟩ := info_parts Tryd.infoU8
  obtain ⟨hB, v, hbk, hown, hne⟩ := h
  have hlt := lt_of_block hbk
  have c0 : w.cell? ⟨b, 0, none⟩ = some (.pointer (some ⟨b, 0, none⟩)) := cell_of_row w b 0 _ _ _ hbk
  have c1 : w.cell? ⟨b, 1, none⟩ = some v := cell_of_row w b 1 _ _ _ hbk
  have hownB : OwB w B v l := by unfold OwB; rw [show l.length = (u8s l).length by simp [u8s]]; exact hown
  have HNE : Hid _ := hne
  have HBK : Hid _ := hbk
  clear hown hne hbk
  go_enter Tryd.func39, Tryd.ntmps39
  go_wp2_with (first
    | (go_at_call 62; refine (check_used b _ c0).mono ?_; rintro e w ⟨rfl, rfl⟩)
    | (at_builtin; refine wpList_appB _ rfl _ _ rfl B _ l c rfl (hownB.alloc _) w.heap.size rfl (by simp) (by omega) (by simp; omega) ?_))
  intro v' w2 hown2 hgr
  have hb2 : w2.heap[b]? = some (.cells #[.pointer (some ⟨b, 0, none⟩), v] 63 (0, 0)) := by
    rw [hgr.block b (by simp; omega) (fun e => HNE.out e.symm), heap_alloc_old _ _ hlt]
    exact HBK.out
  have d0 : w2.cell? ⟨b, 0, none⟩ = some (.pointer (some ⟨b, 0, none⟩)) := cell_of_row w2 b 0 _ _ _ hb2
  have d1 : w2.cell? ⟨b, 1, none⟩ = some v := cell_of_row w2 b 1 _ _ _ hb2
  have f1 : w2.frozen? ⟨b, 1, none⟩ = false := frozen_of_row w2 b 1 _ _ hb2
  obtain ⟨g, cap, hv'⟩ : ∃ g cap, v' = .slice (some ⟨g, 0, none⟩) (l ++ [c]).length cap := by
    rcases hown2.2 with ⟨_, h0⟩ | ⟨g, cap, cur, hv, _⟩
    · simp at h0
    · exact ⟨g, cap, hv⟩
  subst hv'
  have hbel : Below B w w2 := ((Below.refl B w).alloc hBw _).grown hgr (by simp; omega) (fun k hk => (World.ownsRow.lt hownB k hk).1)
  have hown3 : w2.ownsRow B 5 1 (.slice (some ⟨g, 0, none⟩) (l ++ [c]).length cap) (u8s (l ++ [c])).length (u8s (l ++ [c])) := by
    have h := hown2
    unfold OwB at h
    rwa [show (l ++ [c]).length = (u8s (l ++ [c])).length by simp [u8s]] at h ⊢
  have HO3 : Hid _ := hown3
  clear hgr hownB hown2 hown3 c0 c1
  generalize (l ++ [c]).length = n' at *
  go_wp2
  go_ret
  exact ⟨rfl, Lib.BuilderAt.put (T := 63) (e := 5) hB hb2 HO3.out (by decide), hbel.setCell (p := ⟨b, 1, none⟩) hB _⟩

set_option maxHeartbeats 2000000 in
set_option maxRecDepth 100000 in
theorem wStr_fresh (B b : Nat) (s : ByteArray) (l : List Nat) (w : World) (hs : Lib.strCells s = u8s l) (hl : s.size ≤ 100000) (hB : B ≤ b) (hBw : B ≤ w.heap.size) (hbk : w.heap[b]? = some (.cells #[.pointer none, .slice none 0 0] 63 (0, 0))) :
    Calls Tryd.prog 38 #[.pointer (some ⟨b, 0, none⟩), .string s] w fun e w' => e = .returned (.tuple #[.int .i64 s.size, .nilIface]) ∧ Bd2 B b l w' ∧ Below B w w' := by
  obtain ⟨i0, hi, hz0, hz1, hz2⟩ := info_parts Tryd.infoU8
  have hlt := lt_of_block hbk
  have c0 : w.cell? ⟨b, 0, none⟩ = some (.pointer none) := cell_of_row w b 0 _ _ _ hbk
  have hsh : w.shape? b = some (63, 2) := by simp [World.shape?, hbk]
  have hfz : w.frozen? ⟨b, 0, none⟩ = false := frozen_of_row w b 0 _ _ hbk
  have hbk1 : (w.setCell ⟨b, 0, none⟩ (.pointer (some ⟨b, 0, none⟩))).heap[b]? = some (.cells #[.pointer (some ⟨b, 0, none⟩), .slice none 0 0] 63 (0, 0)) := by
    rw [heap_setCell_same w b 0 _ _ _ hbk]; rfl
  have hb1 : Below B w (w.setCell ⟨b, 0, none⟩ (.pointer (some ⟨b, 0, none⟩))) := (Below.refl B w).setCell (p := ⟨b, 0, none⟩) hB _
  have hsz : (w.setCell ⟨b, 0, none⟩ (.pointer (some ⟨b, 0, none⟩))).heap.size = w.heap.size := by simp
  have HS : Hid _ := hs
  clear hs
  go_enter Tryd.func38, Tryd.ntmps38
  go_wp2_with fail
  refine (check_fresh b w c0 hsh hfz).mono ?_
  rintro e w1 ⟨rfl, rfl⟩
  generalize w.setCell ⟨b, 0, none⟩ (.pointer (some ⟨b, 0, none⟩)) = w1 at *
  have d0 : w1.cell? ⟨b, 0, none⟩ = some (.pointer (some ⟨b, 0, none⟩)) := cell_of_row w1 b 0 _ _ _ hbk1
  have d1 : w1.cell? ⟨b, 1, none⟩ = some (.slice none 0 0) := cell_of_row w1 b 1 _ _ _ hbk1
  have hown : w1.ownsRow B 5 1 (.slice none 0 0) 0 [] := ⟨rfl, .inl ⟨rfl, rfl⟩⟩
  clear hbk c0 hsh hfz
  go_wp2_with (at_builtin; refine Lib.wpList_append_own_string _ rfl _ _ 61 9 rfl B 5 i0 Tryd.underlying61 Tryd.underlying9 hi hz0 hz1 hz2 _ _ _ rfl hown s rfl ?c3 ?c4 ?c5 ?_)
  case c3 => unfold maxLen; omega
  case c4 => omega
  case c5 => omega
  intro v' w2 hown2 hgr _
  have hb2 : w2.heap[b]? = some (.cells #[.pointer (some ⟨b, 0, none⟩), .slice none 0 0] 63 (0, 0)) := by
    rw [hgr.block b (by omega) (by simp [Value.ownBlock])]
    exact hbk1
  have f1 : w2.frozen? ⟨b, 1, none⟩ = false := frozen_of_row w2 b 1 _ _ hb2
  have e0 : w2.cell? ⟨b, 0, none⟩ = some (.pointer (some ⟨b, 0, none⟩)) := cell_of_row w2 b 0 _ _ _ hb2
  have e1 : w2.cell? ⟨b, 1, none⟩ = some (.slice none 0 0) := cell_of_row w2 b 1 _ _ _ hb2
  have hbel : Below B w w2 := hb1.grown hgr (by omega) (fun k hk => by simp [Value.ownBlock] at hk)
  obtain ⟨ao, n', cap, hv'⟩ : ∃ ao n' cap, v' = .slice ao n' cap := by
    rcases hown2.2 with ⟨hv, _⟩ | ⟨g, cap, cur, hv, _⟩
    · exact ⟨_, _, _, hv⟩
    · exact ⟨_, _, _, hv⟩
  subst hv'
  have hown3 : w2.ownsRow B 5 1 (.slice ao n' cap) (u8s l).length (u8s l) := by
    rw [← HS.out]
    simpa [Lib.strCells_length] using hown2
  have HO3 : Hid _ := hown3
  clear hgr hown hown2 hown3 d0 d1 hb1 hbk1
  go_wp2
  go_ret2
  exact ⟨rfl, Lib.BuilderAt.put (T := 63) (e := 5) hB hb2 HO3.out (by decide), hbel.setCell (p := ⟨b, 1, none⟩) hB _⟩

end Go.Proofs.YteenmffhbgpahaaDoor
