/- What placesOf answers: a map that holds each name once. -/
import Derived.Test.YteenmffhbgpahaaDoorKB
import Derived.Maps.Own
import Derived.Maps.OwnSet
namespace Go.Proofs.YteenmffhbgpahaaDoor
set_option linter.unusedVariables false
set_option linter.unusedSimpArgs false
open Go.RowKit Go.WideMaps Go.Maps

theorem mlaw : Keyed Tryd.prog 9 := string_keyed Tryd.underlying9

theorem make_places (k : IntKind) (n : Int) (w : World) : (Instr.makeMap 116 (some (.int k n))).run Tryd.prog w = .ok (.map (some w.heap.size)) (w.alloc (.map #[] 0)) := by
  have h := Tryd.underlying116
  simp [Instr.makeMap, go_sem, h]

/-- The block g is a map that holds the names of ds, each once, with its place. -/
def PlAt (w : World) (g : Nat) (l : List ByteArray) : Prop := ∃ D : DataW Unit, w.ownsMap Tryd.prog 9 (plainElem Tryd.prog 2) g l.length D ∧ Pl D l

set_option maxRecDepth 100000 in
theorem placesOf_any (a : Option Addr) (c : Nat) (ds : List Dc) (w : World) (hr : RdD w a ds) (hn : ∀ d ∈ ds, d.1.size ≤ 1048576) :
    Calls Tryd.prog 55 #[.slice a ds.length c] w fun e w' => e = .returned (.map (some w.heap.size)) ∧ PlAt w' w.heap.size (ds.map Prod.fst) ∧ Below w.heap.size w w' := by
  have hlen := hr.1
  have hmm := make_places
  go_enter Tryd.func55, Tryd.ntmps55
  go_wp2_with fail
  go_loopw [11] (fun i wr => ∃ k : Nat, k ≤ ds.length ∧ i = .int .i64 (k : Int) ∧ PlAt wr w.heap.size ((ds.take k).map Prod.fst) ∧ Below w.heap.size w wr) (fun i _ => ds.length - (intOf i).toNat)
  case atStart => exact ⟨0, Nat.zero_le _, rfl, ⟨_, World.ownsMap_made _ _ _ _, Pl.start⟩, (Below.refl _ _).alloc (Nat.le_refl _) _⟩
  case round =>
    obtain ⟨k, hk, rfl, ⟨D, hown, hpl⟩, hbel⟩ := hrel
    clear hmm
    by_cases hlt : k < ds.length
    · obtain ⟨-, -, h | ⟨b, o, rfl, hc⟩⟩ := hr
      · subst h; simp at hlt
      obtain ⟨⟨t, x⟩, hh⟩ : ∃ x, ds[k] = x := ⟨_, rfl⟩
      have gx : ds[k]? = some (t, x) := by rw [List.getElem?_eq_getElem hlt, hh]
      obtain ⟨p0, p1⟩ := (hc k _ gx).later hbel
      simp only [] at p0 p1
      have hts := hn _ (List.mem_of_getElem? gx)
      simp only [] at hts
      have hkey : keyOf Tryd.prog 9 (.string t) = some (kyOf t) := keyOf_string_mk Tryd.underlying9 (by unfold maxLen; omega)
      have hml : ((ds.take k).map Prod.fst).length = k := by simp; omega
      rw [hml] at hown
      have hst := hpl.step t trivial
      rw [hml] at hst
      have HST := kide hst
      have HTK : Hid ((ds.take (k + 1)).map Prod.fst = (ds.take k).map Prod.fst ++ [t]) := by
        show _ = _
        rw [List.take_add_one, gx]; simp
      have HB : Hid _ := hbel
      have hsz : w.heap.size < wr.heap.size := hown.lt
      have HOW := kide hown
      have i0 : (k : Int) < (ds.length : Int) := by omega
      clear hc hh gx hbel hpl hst hml hn
      go_wp2_with (first
        | (at_mapUpdate; refine wpList_mapUpdate_own _ rfl _ _ _ 116 rfl 9 2 mlaw Tryd.underlying116 _ w.heap.size k _ rfl (HOW.out.alloc _) (by unfold maxLen; omega) _ _ _ rfl rfl hkey _ [] (plainElem_int Tryd.underlying2 (WalkArith.wf_i64 (by omega))) ?_)
        | fail)
      intro w1 hown1 hg1
      have HR1 : Hid _ := hown1
      have HR2 := kide ((HB.out.alloc HB.out.size _).grown hg1 (by have := HB.out.size; simp; omega) (fun j hj => by cases hj; exact Nat.le_refl _))
      clear hown1 hg1 hown
      go_wp2_with fail
      go_roundw
      case rel =>
        refine ⟨k + 1, by omega, by go_num, ⟨_, ?_, by rw [HTK.out]; exact HST.out⟩, HR2.out⟩
        have h := HR1.out
        have e : ((ds.take (k + 1)).map Prod.fst).length = k + 1 := by simp; omega
        rw [e]; exact h
      case measure => simp [intOf]; omega
    · have e : k = ds.length := by omega
      have HB : Hid _ := hbel
      rw [e, List.take_length] at hown hpl
      have HP : Hid (PlAt wr w.heap.size (ds.map Prod.fst)) := ⟨D, hown, hpl⟩
      clear hbel hown hpl e
      go_wp2_with fail
      go_ret
      exact ⟨rfl, HP.out, HB.out⟩

end Go.Proofs.YteenmffhbgpahaaDoor
