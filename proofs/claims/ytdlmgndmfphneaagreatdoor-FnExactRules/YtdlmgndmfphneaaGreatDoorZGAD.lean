/- Several texts in one. -/
import Derived.Test.YtdlmgndmfphneaaGreatDoorZGAC
import Derived.Maps.Own
import Derived.Maps.OwnSet
import Derived.Test.YtdlmgndmfphneaaGreatDoorZGAB
import Derived.Test.YtdlmgndmfphneaaGreatDoorRX
import Derived.Deep.OwnRows
import Derived.Deep.RegionHeldLaw
import Derived.Deep.AppendLies

/- What the functions on names answer: both say the same of each text. -/
namespace Go.Proofs.YtdlmgndmfphneaaGreatDoor
set_option linter.unusedVariables false
set_option linter.unusedSimpArgs false
open Go.RowKit

theorem letB_cases (c : Nat) : (c < 97 ∧ letB c = false) ∨ (97 ≤ c ∧ 122 < c ∧ letB c = false) ∨ (97 ≤ c ∧ c ≤ 122 ∧ letB c = true) := by
  unfold letB
  by_cases h1 : 97 ≤ c
  · by_cases h2 : c ≤ 122
    · exact .inr (.inr ⟨h1, h2, by simp [h1, h2]⟩)
    · exact .inr (.inl ⟨h1, by omega, by simp [h2]⟩)
  · exact .inl ⟨by omega, by simp [h1]⟩
theorem digB_cases (c : Nat) : (c < 48 ∧ digB c = false) ∨ (48 ≤ c ∧ 57 < c ∧ digB c = false) ∨ (48 ≤ c ∧ c ≤ 57 ∧ digB c = true) := by
  unfold digB
  by_cases h1 : 48 ≤ c
  · by_cases h2 : c ≤ 57
    · exact .inr (.inr ⟨h1, h2, by simp [h1, h2]⟩)
    · exact .inr (.inl ⟨h1, by omega, by simp [h2]⟩)
  · exact .inl ⟨by omega, by simp [h1]⟩

theorem letterByte_any (c : Nat) (hc : c < 256) (w : World) :
    Calls Tryz.prog 145 #[.int .u8 (c : Int)] w fun e w' => e = .returned (.bool (letB c)) ∧ w' = w := by
  rcases letB_cases c with ⟨h1, h⟩ | ⟨h0, h1, h⟩ | ⟨h0, h1, h⟩
  all_goals
    rw [h]
    clear h
    go_enter Tryz.func145, Tryz.ntmps145
    go_wp2
    go_ret
    first | exact ⟨rfl, rfl⟩ | exact ⟨ret_bool (by simp; omega), rfl⟩

theorem digitByte_any (c : Nat) (hc : c < 256) (w : World) :
    Calls Tryz.prog 146 #[.int .u8 (c : Int)] w fun e w' => e = .returned (.bool (digB c)) ∧ w' = w := by
  rcases digB_cases c with ⟨h1, h⟩ | ⟨h0, h1, h⟩ | ⟨h0, h1, h⟩
  all_goals
    rw [h]
    clear h
    go_enter Tryz.func146, Tryz.ntmps146
    go_wp2
    go_ret
    first | exact ⟨rfl, rfl⟩ | exact ⟨ret_bool (by simp; omega), rfl⟩

theorem l1Digit_any (c : Nat) (hc : c < 256) (w : World) :
    Calls Tryz.prog 108 #[.int .u8 (c : Int)] w fun e w' => e = .returned (.bool (digB c)) ∧ w' = w := by
  rcases digB_cases c with ⟨h1, h⟩ | ⟨h0, h1, h⟩ | ⟨h0, h1, h⟩
  all_goals
    rw [h]
    clear h
    go_enter Tryz.func108, Tryz.ntmps108
    go_wp2
    go_ret
    first | exact ⟨rfl, rfl⟩ | exact ⟨ret_bool (by simp; omega), rfl⟩

/-- A text that is too short or too long is no name. -/
theorem nmOk_size {s : ByteArray} (h : s.size < 1 ∨ 12 < s.size) : nmOk s = false := by
  unfold nmOk
  rcases h with h | h
  · rw [show decide (1 ≤ s.size) = false from decide_eq_false (by omega)]; rfl
  · rw [show decide (s.size ≤ 12) = false from decide_eq_false (by omega)]; simp
theorem nmOk_first {s : ByteArray} (h : letB (bn s 0) = false) : nmOk s = false := by simp [nmOk, h]
theorem nmOk_bad {s : ByteArray} {i : Nat} (hi : i < s.size) (h : nmB (bn s i) = false) : nmOk s = false := by
  have : allNm s = false := by
    rw [Bool.eq_false_iff]; intro h'
    have := (allNm_iff s).1 h' i hi
    rw [h] at this; cases this
  simp [nmOk, this]
theorem nmOk_all {s : ByteArray} (h1 : 1 ≤ s.size) (h2 : s.size ≤ 12) (h3 : letB (bn s 0) = true) (h : ∀ i, i < s.size → nmB (bn s i) = true) : nmOk s = true := by
  have := (allNm_iff s).2 h
  simp [nmOk, this, h1, h2, h3]

theorem nameOk_any (s : ByteArray) (hs : s.size ≤ 9223372036854775807) (w : World) :
    Calls Tryz.prog 116 #[.string s] w fun e w' => e = .returned (.bool (nmOk s)) ∧ w' = w := by
  have HB : Hid _ := get_bn s
  by_cases h1 : s.size < 1
  · rw [nmOk_size (.inl h1)]
    go_enter Tryz.func116, Tryz.ntmps116
    go_wp2_with fail
    go_ret
    exact ⟨rfl, rfl⟩
  by_cases h2 : 12 < s.size
  · rw [nmOk_size (.inr h2)]
    go_enter Tryz.func116, Tryz.ntmps116
    go_wp2_with fail
    go_ret
    exact ⟨rfl, rfl⟩
  have h0 : 0 < s.size := by omega
  have e1 := HB.out 0 h0
  have hL : ∀ u, Calls Tryz.prog 145 #[.int .u8 ((s[0]'h0).toNat : Int)] u fun e w' => e = .returned (.bool (letB (bn s 0))) ∧ w' = u := fun u => by
    have := letterByte_any (bn s 0) (bn_lt s 0) u
    rwa [← e1] at this ⊢
  have HL := kide hL
  clear hL e1
  by_cases h3 : letB (bn s 0) = true
  · rw [h3] at HL
    have HO := kide (fun h => nmOk_all (s := s) (by omega) (by omega) h3 h)
    have HN := kide (fun i hi h => nmOk_bad (s := s) (i := i) hi h)
    generalize nmOk s = R at *
    clear h3
    go_enter Tryz.func116, Tryz.ntmps116
    go_wp2_with (go_at_call 145; refine Calls.mono (HL.out _) ?_; rintro e w ⟨rfl, rfl⟩)
    clear HL
    go_loop [20] (fun q => ∃ k : Nat, k ≤ s.size ∧ q = .int .i64 (k : Int) ∧ ∀ i, i < k → nmB (bn s i) = true) (fun q => s.size - (intOf q).toNat)
    case atStart => exact ⟨0, Nat.zero_le _, rfl, fun i h => by omega⟩
    case round =>
      obtain ⟨k, hk2, rfl, hr⟩ := hrel
      have HK : Hid _ := hr
      clear hr
      by_cases hlt : k < s.size
      · have e1 := HB.out k hlt
        have hA : ∀ u, Calls Tryz.prog 145 #[.int .u8 ((s[k]'hlt).toNat : Int)] u fun e w' => e = .returned (.bool (letB (bn s k))) ∧ w' = u := fun u => by
          have := letterByte_any (bn s k) (bn_lt s k) u
          rwa [← e1] at this ⊢
        have hD : ∀ u, Calls Tryz.prog 146 #[.int .u8 ((s[k]'hlt).toNat : Int)] u fun e w' => e = .returned (.bool (digB (bn s k))) ∧ w' = u := fun u => by
          have := digitByte_any (bn s k) (bn_lt s k) u
          rwa [← e1] at this ⊢
        have HA := kide hA
        have HD := kide hD
        have H1 : Hid (letB (bn s k) = true → nmB (bn s k) = true) := fun h => by simp [nmB, h]
        have H2 : Hid (digB (bn s k) = true → nmB (bn s k) = true) := fun h => by simp [nmB, h]
        have H3 : Hid (letB (bn s k) = false → digB (bn s k) = false → R = false) := fun h h' => HN.out k hlt (by simp [nmB, h, h'])
        clear hA hD e1
        generalize letB (bn s k) = r at *
        generalize digB (bn s k) = r2 at *
        have hki : (k : Int) < (s.size : Int) := by omega
        cases r with
        | true =>
          go_wp2_with (go_at_call 145; refine Calls.mono (HA.out _) ?_; rintro e w ⟨rfl, rfl⟩)
          go_round
          case rel =>
            refine ⟨k + 1, by omega, by go_num, fun i hi => ?_⟩
            by_cases hik : i = k
            · rw [hik]; exact H1.out (by simp)
            · exact HK.out i (by omega)
          case measure => simp [intOf]; omega
        | false =>
          cases r2 with
          | true =>
            go_wp2_with (first | (go_at_call 145; refine Calls.mono (HA.out _) ?_; rintro e w ⟨rfl, rfl⟩) | (go_at_call 146; refine Calls.mono (HD.out _) ?_; rintro e w ⟨rfl, rfl⟩))
            go_round
            case rel =>
              refine ⟨k + 1, by omega, by go_num, fun i hi => ?_⟩
              by_cases hik : i = k
              · rw [hik]; exact H2.out (by simp)
              · exact HK.out i (by omega)
            case measure => simp [intOf]; omega
          | false =>
            go_wp2_with (first | (go_at_call 145; refine Calls.mono (HA.out _) ?_; rintro e w ⟨rfl, rfl⟩) | (go_at_call 146; refine Calls.mono (HD.out _) ?_; rintro e w ⟨rfl, rfl⟩))
            go_ret
            exact ⟨ret_bool (H3.out (by simp) (by simp)).symm, rfl⟩
      · go_wp2_with fail
        go_ret
        exact ⟨ret_bool (HO.out fun i hi => HK.out i (by omega)).symm, rfl⟩
  · rw [Bool.not_eq_true] at h3
    rw [h3] at HL
    rw [nmOk_first h3]
    clear h3
    go_enter Tryz.func116, Tryz.ntmps116
    go_wp2_with (go_at_call 145; refine Calls.mono (HL.out _) ?_; rintro e w1 ⟨rfl, rfl⟩)
    go_ret
    exact ⟨rfl, rfl⟩

theorem l1Name_any (s : ByteArray) (hs : s.size ≤ 9223372036854775807) (w : World) :
    Calls Tryz.prog 80 #[.string s] w fun e w' => e = .returned (.bool (nmOk s)) ∧ w' = w := by
  have HB : Hid _ := get_bn s
  by_cases h1 : s.size < 1
  · rw [nmOk_size (.inl h1)]
    go_enter Tryz.func80, Tryz.ntmps80
    go_wp2_with fail
    go_ret
    exact ⟨rfl, rfl⟩
  by_cases h2 : 12 < s.size
  · rw [nmOk_size (.inr h2)]
    go_enter Tryz.func80, Tryz.ntmps80
    go_wp2_with fail
    go_ret
    exact ⟨rfl, rfl⟩
  have h0 : 0 < s.size := by omega
  have e1 := HB.out 0 h0
  have hL : ∀ u, Calls Tryz.prog 108 #[.int .u8 ((s[0]'h0).toNat : Int)] u fun e w' => e = .returned (.bool (digB (bn s 0))) ∧ w' = u := fun u => by
    have := l1Digit_any (bn s 0) (bn_lt s 0) u
    rwa [← e1] at this ⊢
  have HL := kide hL
  clear hL e1
  by_cases h3 : digB (bn s 0) = true
  · rw [h3] at HL
    have h4 : letB (bn s 0) = false := by
      simp [digB] at h3
      simp [letB]; omega
    rw [nmOk_first h4]
    clear h3 h4
    go_enter Tryz.func80, Tryz.ntmps80
    go_wp2_with (go_at_call 108; refine Calls.mono (HL.out _) ?_; rintro e w1 ⟨rfl, rfl⟩)
    go_ret
    exact ⟨rfl, rfl⟩
  · rw [Bool.not_eq_true] at h3
    rw [h3] at HL
    have HO : Hid ((∀ i, i < s.size → nmB (bn s i) = true) → nmOk s = true) := fun h => nmOk_all (s := s) (by omega) (by omega) (by have := h 0 h0; simpa [nmB, h3] using this) h
    have HN := kide (fun i hi h => nmOk_bad (s := s) (i := i) hi h)
    generalize nmOk s = R at *
    clear h3
    go_enter Tryz.func80, Tryz.ntmps80
    go_wp2_with (go_at_call 108; refine Calls.mono (HL.out _) ?_; rintro e w ⟨rfl, rfl⟩)
    clear HL
    go_loop [3] (fun q => ∃ k : Nat, k ≤ s.size ∧ q = .int .i64 (k : Int) ∧ ∀ i, i < k → nmB (bn s i) = true) (fun q => s.size - (intOf q).toNat)
    case atStart => exact ⟨0, Nat.zero_le _, rfl, fun i h => by omega⟩
    case round =>
      obtain ⟨k, hk2, rfl, hr⟩ := hrel
      have HK : Hid _ := hr
      clear hr
      by_cases hlt : k < s.size
      · have e1 := HB.out k hlt
        have hD : ∀ u, Calls Tryz.prog 108 #[.int .u8 ((s[k]'hlt).toNat : Int)] u fun e w' => e = .returned (.bool (digB (bn s k))) ∧ w' = u := fun u => by
          have := l1Digit_any (bn s k) (bn_lt s k) u
          rwa [← e1] at this ⊢
        have HD := kide hD
        have hci := letB_cases (bn s k)
        rw [← e1] at hci
        have H1 : Hid (letB (bn s k) = true → nmB (bn s k) = true) := fun h => by simp [nmB, h]
        have H2 : Hid (digB (bn s k) = true → nmB (bn s k) = true) := fun h => by simp [nmB, h]
        have H3 : Hid (letB (bn s k) = false → digB (bn s k) = false → R = false) := fun h h' => HN.out k hlt (by simp [nmB, h, h'])
        have E1 := kide e1
        clear hD e1
        generalize digB (bn s k) = r2 at *
        have hki : (k : Int) < (s.size : Int) := by omega
        cases r2 with
        | true =>
          go_wp2_with (go_at_call 108; refine Calls.mono (HD.out _) ?_; rintro e w ⟨rfl, rfl⟩)
          go_round
          case rel =>
            refine ⟨k + 1, by omega, by go_num, fun i hi => ?_⟩
            by_cases hik : i = k
            · rw [hik]; exact H2.out (by simp)
            · exact HK.out i (by omega)
          case measure => simp [intOf]; omega
        | false =>
          rcases hci with ⟨h1, h⟩ | ⟨h0, h1, h⟩ | ⟨h0, h1, h⟩
          · have H := kide (H3.out (by rw [← E1.out]; exact h) (by simp))
            clear h H1 H3
            go_wp2_with (go_at_call 108; refine Calls.mono (HD.out _) ?_; rintro e w ⟨rfl, rfl⟩)
            go_ret
            exact ⟨ret_bool H.out.symm, rfl⟩
          · have H := kide (H3.out (by rw [← E1.out]; exact h) (by simp))
            clear h H1 H3
            go_wp2_with (go_at_call 108; refine Calls.mono (HD.out _) ?_; rintro e w ⟨rfl, rfl⟩)
            go_ret
            exact ⟨ret_bool H.out.symm, rfl⟩
          · have H := kide (H1.out (by rw [← E1.out]; exact h))
            clear h H1 H3
            go_wp2_with (go_at_call 108; refine Calls.mono (HD.out _) ?_; rintro e w ⟨rfl, rfl⟩)
            go_round
            case rel =>
              refine ⟨k + 1, by omega, by go_num, fun i hi => ?_⟩
              by_cases hik : i = k
              · rw [hik]; exact H.out
              · exact HK.out i (by omega)
            case measure => simp [intOf]; omega
      · go_wp2_with fail
        go_ret
        exact ⟨ret_bool (HO.out fun i hi => HK.out i (by omega)).symm, rfl⟩

end Go.Proofs.YtdlmgndmfphneaaGreatDoor

/- What placesOf answers: a map that holds each name once. -/
namespace Go.Proofs.YtdlmgndmfphneaaGreatDoor
set_option linter.unusedVariables false
set_option linter.unusedSimpArgs false
open Go.RowKit Go.WideMaps Go.Maps

theorem mlaw : Keyed Tryz.prog 9 := string_keyed Tryz.underlying9

theorem make_places (k : IntKind) (n : Int) (w : World) : (Instr.makeMap 155 (some (.int k n))).run Tryz.prog w = .ok (.map (some w.heap.size)) (w.alloc (.map #[] 0)) := by
  have h := Tryz.underlying155
  simp [Instr.makeMap, go_sem, h]

/-- The block g is a map that holds the names of ds, each once, with its place. -/
def PlAt (w : World) (g : Nat) (l : List ByteArray) : Prop := ∃ D : DataW Unit, w.ownsMap Tryz.prog 9 (plainElem Tryz.prog 2) g l.length D ∧ Pl D l

set_option maxRecDepth 100000 in
theorem placesOf_any (a : Option Addr) (c : Nat) (ds : List Dc) (w : World) (hr : RdD w a ds) (hn : ∀ d ∈ ds, d.1.size ≤ 1048576) :
    Calls Tryz.prog 119 #[.slice a ds.length c] w fun e w' => e = .returned (.map (some w.heap.size)) ∧ PlAt w' w.heap.size (ds.map Prod.fst) ∧ Below w.heap.size w w' := by
  have hlen := hr.1
  have hmm := make_places
  go_enter Tryz.func119, Tryz.ntmps119
  go_wp2_with fail
  go_loopw [11] (fun i wr => ∃ k : Nat, k ≤ ds.length ∧ i = .int .i64 (k : Int) ∧ PlAt wr w.heap.size ((ds.take k).map Prod.fst) ∧ Below w.heap.size w wr) (fun i _ => ds.length - (intOf i).toNat)
  case atStart => exact ⟨0, Nat.zero_le _, rfl, ⟨_, World.ownsMap_made _ _ _ _, Pl.start⟩, (Below.refl _ _).alloc (Nat.le_refl _) _⟩
  case round =>
    obtain ⟨k, hk, rfl, ⟨D, hown, hpl⟩, hbel⟩ := hrel
    clear hmm
    by_cases hlt : k < ds.length
    · obtain ⟨-, -, h | ⟨b, o, rfl, hc⟩⟩ := hr
      · subst h; simp at hlt
      obtain ⟨⟨t, x⟩, hh⟩ : ∃ x, ds[k] = x := ⟨_, rfl⟩
      have gx : ds[k]? = some (t, x) := by rw [List.getElem?_eq_getElem hlt, hh]
      obtain ⟨p0, p1⟩ := (hc k _ gx).later hbel
      simp only [] at p0 p1
      have hts := hn _ (List.mem_of_getElem? gx)
      simp only [] at hts
      have hkey : keyOf Tryz.prog 9 (.string t) = some (kyOf t) := keyOf_string_mk Tryz.underlying9 (by unfold maxLen; omega)
      have hml : ((ds.take k).map Prod.fst).length = k := by simp; omega
      rw [hml] at hown
      have hst := hpl.step t trivial
      rw [hml] at hst
      have HST := kide hst
      have HTK : Hid ((ds.take (k + 1)).map Prod.fst = (ds.take k).map Prod.fst ++ [t]) := by
        show _ = _
        rw [List.take_add_one, gx]; simp
      have HB : Hid _ := hbel
      have hsz : w.heap.size < wr.heap.size := hown.lt
      have HOW := kide hown
      have i0 : (k : Int) < (ds.length : Int) := by omega
      clear hc hh gx hbel hpl hst hml hn
      go_wp2_with (first
        | (at_mapUpdate; refine wpList_mapUpdate_own _ rfl _ _ _ 155 rfl 9 2 mlaw Tryz.underlying155 _ w.heap.size k _ rfl (HOW.out.alloc _) (by unfold maxLen; omega) _ _ _ rfl rfl hkey _ [] (plainElem_int Tryz.underlying2 (WalkArith.wf_i64 (by omega))) ?_)
        | fail)
      intro w1 hown1 hg1
      have HR1 : Hid _ := hown1
      have HR2 := kide ((HB.out.alloc HB.out.size _).grown hg1 (by have := HB.out.size; simp; omega) (fun j hj => by cases hj; exact Nat.le_refl _))
      clear hown1 hg1 hown
      go_wp2_with fail
      go_roundw
      case rel =>
        refine ⟨k + 1, by omega, by go_num, ⟨_, ?_, by rw [HTK.out]; exact HST.out⟩, HR2.out⟩
        have h := HR1.out
        have e : ((ds.take (k + 1)).map Prod.fst).length = k + 1 := by simp; omega
        rw [e]; exact h
      case measure => simp [intOf]; omega
    · have e : k = ds.length := by omega
      have HB : Hid _ := hbel
      rw [e, List.take_length] at hown hpl
      have HP : Hid (PlAt wr w.heap.size (ds.map Prod.fst)) := ⟨D, hown, hpl⟩
      clear hbel hown hpl e
      go_wp2_with fail
      go_ret
      exact ⟨rfl, HP.out, HB.out⟩

end Go.Proofs.YtdlmgndmfphneaaGreatDoor

/- What the given DeclsOk answers. -/
namespace Go.Proofs.YtdlmgndmfphneaaGreatDoor
set_option linter.unusedVariables false
set_option linter.unusedSimpArgs false
open Go.RowKit Go.WideMaps Go.Maps

set_option maxHeartbeats 1000000 in
theorem specDecls_any (a : Option Addr) (c : Nat) (ds : List Dc) (w : World) (hr : RdD w a ds) :
    Calls Tryz.prog 40 #[.slice a ds.length c] w fun e w' => e = .returned (.bool (dclR ds)) ∧ Below w.heap.size w w' := by
  have hlen := hr.1
  by_cases h60 : ds.length ≤ 60
  · go_enter Tryz.func40, Tryz.ntmps40
    go_wp2_with fail
    have HLN := kide hlen
    clear hlen
    go_loopw [3, 4] (fun q i wr => ∃ k : Nat, k ≤ ds.length ∧ i = .int .i64 (k : Int) ∧ q = .int .i64 (sumW (ds.take k)) ∧ (∀ d ∈ ds.take k, dcOk d = true) ∧ ((ds.take k).map Prod.fst).Nodup ∧ Below w.heap.size w wr) (fun _ i _ => ds.length - (intOf i).toNat)
    case atStart => exact ⟨0, Nat.zero_le _, rfl, by simp [sumW], by simp, by simp, Below.refl _ _⟩
    case round =>
      obtain ⟨k, hk, rfl, rfl, hok, hnd, hbel⟩ := hrel
      have HB := kide hbel
      by_cases hlt : k < ds.length
      · obtain ⟨-, hsz, h | ⟨b, o, rfl, hc⟩⟩ := hr
        · subst h; simp at hlt
        obtain ⟨⟨t, x⟩, hh⟩ : ∃ x, ds[k] = x := ⟨_, rfl⟩
        have gx : ds[k]? = some (t, x) := by rw [List.getElem?_eq_getElem hlt, hh]
        obtain ⟨p0, p1⟩ := (hc k _ gx).later hbel
        simp only [] at p0 p1
        obtain ⟨hx64, hts⟩ := hsz _ (List.mem_of_getElem? gx)
        simp only [] at hx64 hts
        have i0 : (k : Int) < (ds.length : Int) := by omega
        have HC := kide hc
        have GX := kide gx
        have hsum := sumW_le hok
        have hst := sumW_take gx
        simp only [] at hst
        have htl : (ds.take k).length = k := by simp; omega
        rw [htl] at hsum
        have HST := kide hst
        have HOK := kide hok
        have HND := kide hnd
        have hN : ∀ u, Calls Tryz.prog 80 #[.string t] u fun e w' => e = .returned (.bool (nmOk t)) ∧ w' = u := fun u => l1Name_any t hts u
        have hW : ∀ u, Calls Tryz.prog 24 #[.int .i64 x, .int .i64 1, .int .i64 4096] u fun e w' => e = .returned (.bool (wOk x)) ∧ w' = u := fun u => l1In_any x 1 4096 u
        have HN := kide hN
        have HW := kide hW
        have HBAD : Hid (nmOk t = false ∨ wOk x = false → dclR ds = false) := fun h => dclR_bad gx (by rcases h with h | h <;> simp [dcOk, h])
        have HGOOD : Hid (nmOk t = true → wOk x = true → dcOk (t, x) = true) := fun h h' => by simp [dcOk, h, h']
        have hwx : wOk x = true → 1 ≤ x ∧ x ≤ 4096 := fun h => by simpa [wOk] using h
        clear hN hW hc gx hh hsz hok hnd hst htl hbel
        generalize sumW (ds.take k) = Q at *
        generalize nmOk t = r1 at *
        cases r1 with
        | false =>
          have HR := kide (HBAD.out (.inl (by simp)))
          go_wp2_with (go_at_call 80; refine Calls.mono (HN.out _) ?_; rintro e w1 ⟨rfl, rfl⟩)
          go_ret
          exact ⟨ret_bool HR.out.symm, HB.out⟩
        | true =>
          generalize wOk x = r2 at *
          cases r2 with
          | false =>
            have HR := kide (HBAD.out (.inr (by simp)))
            go_wp2_with (first | (go_at_call 80; refine Calls.mono (HN.out _) ?_; rintro e wr ⟨rfl, rfl⟩) | (go_at_call 24; refine Calls.mono (HW.out _) ?_; rintro e wr ⟨rfl, rfl⟩))
            go_ret
            exact ⟨ret_bool HR.out.symm, HB.out⟩
          | true =>
            have hx := hwx (by simp)
            obtain ⟨hx1, hx2⟩ := hx
            have HG := kide (HGOOD.out (by simp) (by simp))
            clear HBAD HGOOD hwx
            go_wp2_with (first | (go_at_call 80; refine Calls.mono (HN.out _) ?_; rintro e wr ⟨rfl, rfl⟩) | (go_at_call 24; refine Calls.mono (HW.out _) ?_; rintro e wr ⟨rfl, rfl⟩))
            obtain ⟨hs1, hs2⟩ := hsum
            have hlk := block_lt_of_cell p0
            rename_i wo
            go_loopw [5] (fun i wr => ∃ j : Nat, j ≤ k ∧ i = .int .i64 (j : Int) ∧ (∀ i d, i < j → ds[i]? = some d → d.1 ≠ t) ∧ Below w.heap.size w wr) (fun i _ => k - (intOf i).toNat)
            case atStart => exact ⟨0, Nat.zero_le _, rfl, fun i d h => by omega, HB.out⟩
            case round =>
              obtain ⟨j, hj, rfl, hne, hbel⟩ := hrel
              clear p0 p1 HB
              obtain ⟨p0, p1⟩ := (HC.out k _ GX.out).later hbel
              simp only [] at p0 p1
              have HB := kide hbel
              have HNE := kide hne
              clear hbel hne
              by_cases hjk : j < k
              · obtain ⟨⟨t2, x2⟩, hh2⟩ : ∃ x, ds[j]'(by omega) = x := ⟨_, rfl⟩
                have gx2 : ds[j]? = some (t2, x2) := by rw [List.getElem?_eq_getElem (by omega), hh2]
                obtain ⟨q0, q1⟩ := (HC.out j _ gx2).later HB.out
                simp only [] at q0 q1
                have GX2 := kide gx2
                have j0 : (j : Int) < (k : Int) := by omega
                have j1 : (j : Int) < (ds.length : Int) := by omega
                clear gx2 hh2
                by_cases ht : t2 = t
                · subst ht
                  have HR : Hid (dclR ds = false) := by
                    show _ = _
                    rw [Bool.eq_false_iff]; intro h'
                    have hnd := (dclR_iff.1 h').2.2.2
                    have h1 : (ds.map Prod.fst)[j]? = some t2 := by simp [GX2.out]
                    have h2 : (ds.map Prod.fst)[k]? = some t2 := by simp [GX.out]
                    have := (List.getElem?_inj (by simp; omega) hnd).1 (h1.trans h2.symm)
                    omega
                  go_wp2_with fail
                  go_quiet (fail)
                  go_wp2_with fail
                  go_ret
                  exact ⟨ret_bool HR.out.symm, below_drewN HB.out _⟩
                · have hne2 := kstr_ne ht
                  have HT := kide ht
                  clear ht
                  go_wp2_with fail
                  go_quiet (fail)
                  go_wp2_with fail
                  go_roundw
                  case rel =>
                    refine ⟨j + 1, by omega, by go_num, fun i d hi hd => ?_, below_drewN HB.out _⟩
                    by_cases hij : i = j
                    · subst hij
                      rw [GX2.out] at hd
                      cases hd
                      exact HT.out
                    · exact HNE.out i d (by omega) hd
                  case measure => simp [intOf]; omega
              · have hjk' : j = k := by omega
                have HJ := kide hjk'
                clear hjk'
                go_wp2_with fail
                go_roundw
                case rel =>
                  refine ⟨k + 1, by omega, by go_num, ?_, ?_, ?_, HB.out⟩
                  · rw [HST.out]
                  · intro d hd
                    rw [List.take_add_one, GX.out] at hd
                    rcases List.mem_append.1 hd with hd | hd
                    · exact HOK.out d hd
                    · simp at hd
                      subst hd
                      exact HG.out
                  · rw [List.take_add_one, GX.out, List.map_append]
                    refine List.nodup_append.2 ⟨HND.out, by simp, fun y hy z hz => ?_⟩
                    simp at hz
                    subst hz
                    obtain ⟨d, hd, rfl⟩ := List.mem_map.1 hy
                    obtain ⟨i, hi, hid⟩ := List.mem_iff_getElem.1 hd
                    simp at hi hid
                    have := HNE.out i d (by rw [HJ.out]; omega) (by rw [List.getElem?_eq_getElem (by omega)]; exact congrArg some hid)
                    exact this
                case measure => simp [intOf]; omega
      · have e : k = ds.length := by omega
        rw [e, List.take_length] at hok hnd
        have hs := sumW_le hok
        have HR : Hid (dclR ds = decide (sumW (ds.take k) ≤ 20000)) := by
          show _ = _
          rw [e, List.take_length]
          rw [Bool.eq_iff_iff, dclR_iff, decide_eq_true_eq]
          exact ⟨fun h => h.2.2.1, fun h => ⟨h60, hok, h, hnd⟩⟩
        generalize sumW (ds.take k) = Q at *
        clear hok hnd hbel hs e
        go_wp2_with fail
        go_ret
        exact ⟨ret_bool HR.out.symm, HB.out⟩
  · rw [dclR_long (by omega)]
    go_enter Tryz.func40, Tryz.ntmps40
    go_wp2_with fail
    go_ret
    exact ⟨rfl, Below.refl _ _⟩

end Go.Proofs.YtdlmgndmfphneaaGreatDoor

/- Blocks of memory: what stays, what may change in its kind alone; words in new memory. -/
namespace Go.Proofs.YtdlmgndmfphneaaGreatDoor
set_option linter.unusedVariables false
set_option linter.unusedSimpArgs false
open Go.RowKit

def Bz (u : World) (b : Nat) (cs : Array Value) (t : TypeId) : Prop := u.heap[b]? = some (.cells cs t (0, 0))
theorem Bz.lt {u : World} {b : Nat} {cs : Array Value} {t : TypeId} (h : Bz u b cs t) : b < u.heap.size := lt_of_block h
theorem Bz.new (u : World) (cs : Array Value) (t : TypeId) : Bz (u.alloc (.cells cs t)) u.heap.size cs t := heap_alloc_new _ _
theorem Bz.set {u : World} {b : Nat} {cs : Array Value} {t : TypeId} (h : Bz u b cs t) (o : Nat) (x : Value) : Bz (u.setCell ⟨b, o, none⟩ x) b (cs.setIfInBounds o x) t := heap_setCell_same u b o _ _ x h
theorem Bz.other {u : World} {b c : Nat} {cs : Array Value} {t : TypeId} (h : Bz u b cs t) (hn : b ≠ c) (o : Nat) (x : Value) : Bz (u.setCell ⟨c, o, none⟩ x) b cs t := by
  unfold Bz; rw [heap_setCell_other _ _ _ _ (by simpa using hn)]; exact h
theorem Bz.cell {u : World} {b : Nat} {cs : Array Value} {t : TypeId} (h : Bz u b cs t) (o : Nat) : u.cell? ⟨b, o, none⟩ = cs[o]? := cell_of_row u b o _ _ _ h
theorem Bz.froz {u : World} {b : Nat} {cs : Array Value} {t : TypeId} (h : Bz u b cs t) (o : Nat) : u.frozen? ⟨b, o, none⟩ = false := frozen_of_row u b o _ _ h
theorem Bz.later {u u' : World} {b : Nat} {cs : Array Value} {t : TypeId} (h : Bz u b cs t) (hb : Below u.heap.size u u') : Bz u' b cs t := by
  unfold Bz; rw [hb.block _ h.lt]; exact h

theorem share2 {F P : World → Nat → Prop} {G : Prop} (main : (∀ v b, F v b → P v b) → G) (key : ∀ v b, F v b → P v b) : G := main key

theorem own_ge {w : World} {B n : Nat} {e : TypeId} {v : Value} {xs : List Value} {b : Nat} (h : w.ownsRow B e 1 v n xs) (hb : v.ownBlock = some b) : B ≤ b := by
  rcases h.2 with ⟨rfl, -⟩ | ⟨g, cap, cur, rfl, hg, hh, -⟩
  · cases hb
  · cases hb
    exact hg

/-- But for the blocks from B1 on below B2 nothing has changed. -/
def Out (B1 B2 : Nat) (w w' : World) : Prop := w'.os = w.os ∧ w'.tape = w.tape ∧ w'.output = w.output ∧ w.heap.size ≤ w'.heap.size ∧ ∀ k, k < w.heap.size → (k < B1 ∨ B2 ≤ k) → w'.heap[k]? = w.heap[k]?
theorem Out.refl (B1 B2 : Nat) (w : World) : Out B1 B2 w w := ⟨rfl, rfl, rfl, Nat.le_refl _, fun _ _ _ => rfl⟩
theorem Out.trans {B1 B2 : Nat} {w w1 w2 : World} (h : Out B1 B2 w w1) (h' : Out B1 B2 w1 w2) : Out B1 B2 w w2 :=
  ⟨h'.1.trans h.1, h'.2.1.trans h.2.1, h'.2.2.1.trans h.2.2.1, Nat.le_trans h.2.2.2.1 h'.2.2.2.1, fun k hk ho => (h'.2.2.2.2 k (Nat.lt_of_lt_of_le hk h.2.2.2.1) ho).trans (h.2.2.2.2 k hk ho)⟩
theorem Out.grown {B1 B2 g : Nat} {w w' : World} (h : w.grownBy w' (some g)) (h1 : B1 ≤ g) (h2 : g < B2) : Out B1 B2 w w' := ⟨h.os, h.tape, h.output, h.size, fun k hk ho => h.block k hk (fun e => by cases e; omega)⟩
theorem Out.set {B1 B2 g o : Nat} {w w' : World} (h : Out B1 B2 w w') (h1 : B1 ≤ g) (h2 : g < B2) (v : Value) : Out B1 B2 w (w'.setCell ⟨g, o, none⟩ v) := by
  refine ⟨h.1, h.2.1, h.2.2.1, by simpa using h.2.2.2.1, fun k hk ho => ?_⟩
  rw [heap_setCell_other _ _ _ _ (by simp; omega)]
  exact h.2.2.2.2 k hk ho
theorem Out.below {B B1 B2 : Nat} {w w' : World} (h : Out B1 B2 w w') (hB : B ≤ B1) (hs : B ≤ w.heap.size) : Below B w w' := ⟨h.1, h.2.1, h.2.2.1, h.2.2.2.1, fun k hk => h.2.2.2.2 k (by omega) (.inl (by omega))⟩

/-- Of the same kind: numbers, texts and flags may be others. -/
def alike (v v' : Value) : Prop := v' = v ∨ (∃ k x y, v = .int k x ∧ v' = .int k y) ∨ (∃ x y, v = .string x ∧ v' = .string y) ∨ ∃ x y, v = .bool x ∧ v' = .bool y
theorem alike.trans {a b c : Value} (h : alike a b) (h' : alike b c) : alike a c := by
  rcases h with rfl | ⟨k, x, y, rfl, rfl⟩ | ⟨x, y, rfl, rfl⟩ | ⟨x, y, rfl, rfl⟩
  · exact h'
  · rcases h' with rfl | ⟨k', x', y', e, rfl⟩ | ⟨x', y', e, rfl⟩ | ⟨x', y', e, rfl⟩
    · exact .inr (.inl ⟨k, x, y, rfl, rfl⟩)
    · cases e
      exact .inr (.inl ⟨k, x, y', rfl, rfl⟩)
    · cases e
    · cases e
  · rcases h' with rfl | ⟨k', x', y', e, rfl⟩ | ⟨x', y', e, rfl⟩ | ⟨x', y', e, rfl⟩
    · exact .inr (.inr (.inl ⟨x, y, rfl, rfl⟩))
    · cases e
    · exact .inr (.inr (.inl ⟨x, y', rfl, rfl⟩))
    · cases e
  · rcases h' with rfl | ⟨k', x', y', e, rfl⟩ | ⟨x', y', e, rfl⟩ | ⟨x', y', e, rfl⟩
    · exact .inr (.inr (.inr ⟨x, y, rfl, rfl⟩))
    · cases e
    · cases e
    · exact .inr (.inr (.inr ⟨x, y', rfl, rfl⟩))
theorem alike.int {k : IntKind} {x : Int} {v : Value} (h : alike (.int k x) v) : ∃ y, v = .int k y := by
  rcases h with rfl | ⟨k', x', y', e, rfl⟩ | ⟨x', y', e, rfl⟩ | ⟨x', y', e, rfl⟩
  · exact ⟨x, rfl⟩
  · cases e; exact ⟨y', rfl⟩
  · cases e
  · cases e
theorem alike.str {x : ByteArray} {v : Value} (h : alike (.string x) v) : ∃ y, v = .string y := by
  rcases h with rfl | ⟨k', x', y', e, rfl⟩ | ⟨x', y', e, rfl⟩ | ⟨x', y', e, rfl⟩
  · exact ⟨x, rfl⟩
  · cases e
  · exact ⟨y', rfl⟩
  · cases e
theorem alike.slice {a : Option Addr} {n c : Nat} {v : Value} (h : alike (.slice a n c) v) : v = .slice a n c := by
  rcases h with rfl | ⟨k', x', y', e, rfl⟩ | ⟨x', y', e, rfl⟩ | ⟨x', y', e, rfl⟩
  · rfl
  · cases e
  · cases e
  · cases e

/-- Numbers alone have changed. -/
def Shp (w w' : World) : Prop := ∀ (b : Nat) (cur : Array Value) (t : TypeId), w.heap[b]? = some (.cells cur t (0, 0)) → ∃ cur', w'.heap[b]? = some (.cells cur' t (0, 0)) ∧ ∀ (i : Nat) (v : Value), cur[i]? = some v → ∃ v', cur'[i]? = some v' ∧ alike v v'
theorem Shp.refl (w : World) : Shp w w := fun _ cur _ h => ⟨cur, h, fun _ v hv => ⟨v, hv, .inl rfl⟩⟩
theorem Shp.trans {a b c : World} (h : Shp a b) (h' : Shp b c) : Shp a c := fun k cur t e => by
  obtain ⟨c1, e1, r1⟩ := h k cur t e
  obtain ⟨c2, e2, r2⟩ := h' k c1 t e1
  exact ⟨c2, e2, fun i v hv => by
    obtain ⟨v1, h1, a1⟩ := r1 i v hv
    obtain ⟨v2, h2, a2⟩ := r2 i v1 h1
    exact ⟨v2, h2, a1.trans a2⟩⟩
theorem Shp.put {w : World} {g o : Nat} {x y : Value} (h : w.cell? ⟨g, o, none⟩ = some x) (hxy : alike x y) : Shp w (w.setCell ⟨g, o, none⟩ y) := fun b cur t e => by
  by_cases eb : b = g
  · subst eb
    refine ⟨cur.setIfInBounds o y, heap_setCell_same w b o _ _ _ e, fun i v hv => ?_⟩
    by_cases ei : i = o
    · subst ei
      rw [cell_of_row w b i cur _ _ e] at h
      rw [h] at hv
      cases hv
      exact ⟨y, by rw [Array.getElem?_setIfInBounds_self_of_lt (Array.getElem?_eq_some_iff.1 h).1], hxy⟩
    · exact ⟨v, by rw [Array.getElem?_setIfInBounds_ne (fun h => ei h.symm)]; exact hv, .inl rfl⟩
  · exact ⟨cur, by rw [heap_setCell_other _ _ _ _ (by simpa using eb)]; exact e, fun i v hv => ⟨v, hv, .inl rfl⟩⟩
theorem Shp.set {w : World} {g o : Nat} {k : IntKind} {x : Int} (h : w.cell? ⟨g, o, none⟩ = some (.int k x)) (y : Int) : Shp w (w.setCell ⟨g, o, none⟩ (.int k y)) := Shp.put h (.inr (.inl ⟨k, x, y, rfl, rfl⟩))

/-- A row of n words in a block of words. -/
def TyW (w : World) (lo hi : Nat) (a : Option Addr) (n : Nat) : Prop := n ≤ 1048576 ∧ ∃ h cur, a = some ⟨h, 0, none⟩ ∧ lo ≤ h ∧ h < hi ∧ w.heap[h]? = some (.cells cur 136 (0, 0)) ∧ ∀ i, i < n → ∃ y : Int, cur[i]? = some (.int .u64 y)

theorem keep_int {cur cur' : Array Value} (r : ∀ (i : Nat) (v : Value), cur[i]? = some v → ∃ v', cur'[i]? = some v' ∧ alike v v') {i : Nat} {k : IntKind} (h : ∃ x : Int, cur[i]? = some (.int k x)) : ∃ x : Int, cur'[i]? = some (.int k x) := by
  obtain ⟨x, hx⟩ := h
  obtain ⟨v', h1, h2⟩ := r i _ hx
  obtain ⟨y, rfl⟩ := h2.int
  exact ⟨y, h1⟩
theorem TyW.shp {w w' : World} {lo hi n : Nat} {a : Option Addr} (h : TyW w lo hi a n) (hs : Shp w w') : TyW w' lo hi a n := by
  obtain ⟨h0, g, cur, e, h1, h2, h3, h4⟩ := h
  obtain ⟨cur', e', r⟩ := hs g cur _ h3
  exact ⟨h0, g, cur', e, h1, h2, e', fun i hi => keep_int r (h4 i hi)⟩

theorem keep_str {cur cur' : Array Value} (r : ∀ (i : Nat) (v : Value), cur[i]? = some v → ∃ v', cur'[i]? = some v' ∧ alike v v') {i : Nat} (h : ∃ x : ByteArray, cur[i]? = some (.string x)) : ∃ x : ByteArray, cur'[i]? = some (.string x) := by
  obtain ⟨x, hx⟩ := h
  obtain ⟨v', h1, h2⟩ := r i _ hx
  obtain ⟨y, rfl⟩ := h2.str
  exact ⟨y, h1⟩
theorem Shp.of {w w' : World} (hb : Below w.heap.size w w') : Shp w w' := fun b cur t e => ⟨cur, (hb.block b (lt_of_block e)).trans e, fun i v hv => ⟨v, hv, .inl rfl⟩⟩

set_option maxHeartbeats 1000000 in
/-- Words are marked, in memory of that kind. -/
theorem markU_ty (lo hi c n k : Nat) (a : Option Addr) (w : World) (h : TyW w lo hi a n) (hk : k + n ≤ 9000000000000000000) :
    Calls Tryz.prog 70 #[.slice a n c, .int .i64 (k : Int)] w fun e w' => e = .returned (.int .i64 ((k + n : Nat) : Int)) ∧ Shp w w' ∧ Out lo hi w w' := by
  obtain ⟨hn, g, cur, rfl, hl, hh, hc, hi'⟩ := h
  have H := kide (show TyW w lo hi (some ⟨g, 0, none⟩) n from ⟨hn, g, cur, rfl, hl, hh, hc, hi'⟩)
  clear hc hi'
  go_enter Tryz.func70, Tryz.ntmps70
  go_wp2_with fail
  go_loopw [1, 5] (fun q i wr => ∃ (j : Nat), j ≤ n ∧ i = .int .i64 (j : Int) ∧ q = .int .i64 ((k + j : Nat) : Int) ∧ Shp w wr ∧ Out lo hi w wr) (fun _ i _ => n - (intOf i).toNat)
  case atStart => exact ⟨0, Nat.zero_le _, rfl, rfl, Shp.refl _, Out.refl _ _ _⟩
  case round =>
    obtain ⟨j, hj, rfl, rfl, hs, ho⟩ := hrel
    have HS := kide hs
    have HO := kide ho
    by_cases hlt : j < n
    · obtain ⟨-, g', cu, e', -, -, hg, hc⟩ := H.out.shp hs
      cases e'
      obtain ⟨y0, hy0⟩ := hc j hlt
      have q0 : wr.cell? ⟨g, j, none⟩ = some (.int .u64 y0) := by rw [cell_of_row wr g j _ _ _ hg]; exact hy0
      have r0 := frozen_of_row wr g j _ _ hg
      obtain ⟨K, hK⟩ : ∃ K, k + j = K := ⟨_, rfl⟩
      rw [hK]
      have HK := kide hK
      have hKb : K < 9000000000000000000 := by omega
      have i0 : (j : Int) < (n : Int) := by omega
      have HS2 := kide (hs.trans (Shp.set q0 (K : Int)))
      have HO2 := kide (ho.set hl hh (.int .u64 (K : Int)) (o := j))
      clear hc hs ho hK hy0 hg
      go_wp2_with fail
      go_roundw
      case rel => exact ⟨j + 1, by omega, by go_num, by rw [show k + (j + 1) = K + 1 by have := HK.out; omega]; first | go_num | (simp; done), HS2.out, HO2.out⟩
      case measure => simp [intOf]; omega
    · have e : j = n := by omega
      subst e
      clear hs ho
      go_wp2_with fail
      go_ret
      exact ⟨rfl, HS.out, HO.out⟩

def OwW (w : World) (base : Nat) (v : Value) (xs : List Nat) : Prop := w.ownsRow base 136 1 v xs.length (u64s xs).toList

theorem OwW.nils (w : World) (base : Nat) : OwW w base (.slice none 0 0) [] := ⟨rfl, .inl ⟨rfl, rfl⟩⟩
theorem OwW.empty (w : World) (base g : Nat) (hg : g = w.heap.size) (h : base ≤ g) : OwW (w.alloc (.cells #[] 136)) base (.slice (some ⟨g, 0, Option.none⟩) 0 0) [] := by
  subst hg
  exact World.ownsRow_made w #[] 0 h (Nat.zero_le _) (by simp)

/-- A word's bits in new memory: a block of words whose first ones they are. -/
def Nw (w : World) (lo : Nat) (a : Option Addr) (xs : List Nat) : Prop :=
  (xs = [] ∧ ∀ x, a = some x → lo ≤ x.block ∧ x.off = 0 ∧ ∃ cur, w.heap[x.block]? = some (.cells cur 136 (0, 0))) ∨ ∃ g cur, a = some ⟨g, 0, none⟩ ∧ lo ≤ g ∧ w.heap[g]? = some (.cells cur 136 (0, 0)) ∧ ∀ i, i < xs.length → cur[i]? = some (.int .u64 ((xs.getD i 0 : Nat) : Int))

theorem OwW.shape {w : World} {base : Nat} {v : Value} {xs : List Nat} (h : OwW w base v xs) : ∃ a c, v = .slice a xs.length c ∧ Nw w base a xs := by
  obtain ⟨h1, ⟨rfl, h2⟩ | ⟨g, cap, cur, rfl, hg, hh, hc1, hc2, hsz, hcur⟩⟩ := h
  · have e := List.eq_nil_of_length_eq_zero h2
    subst e
    exact ⟨none, 0, rfl, .inl ⟨rfl, fun x e => by cases e⟩⟩
  · refine ⟨some ⟨g, 0, none⟩, cap, rfl, .inr ⟨g, cur, rfl, hg, hh, fun i hi => ?_⟩⟩
    have h3 : (cur.toList.take (xs.length * 1))[i]? = (u64s xs).toList[i]? := by rw [hcur]
    rw [List.getElem?_take, if_pos (by omega)] at h3
    simp only [Array.getElem?_toList] at h3
    rw [h3, u64s_get _ _ hi]

theorem Own.nw {w : World} {lo g : Nat} {xs : List Nat} (h : Own w g xs) (hg : lo ≤ g) : Nw w lo (some ⟨g, 0, none⟩) xs := .inr ⟨g, u64s xs, rfl, hg, h, fun i hi => u64s_get _ _ hi⟩

theorem Nw.rd {w : World} {lo : Nat} {a : Option Addr} {xs : List Nat} (h : Nw w lo a xs) (hl : xs.length ≤ 1048576) (hx : ∀ x ∈ xs, x < 18446744073709551616) : Rd w a xs := by
  refine ⟨hl, hx, ?_⟩
  rcases h with ⟨h1, -⟩ | ⟨g, cur, h1, -, h3, h4⟩
  · exact .inl h1
  · refine .inr ⟨g, 0, h1, fun i hi => ?_⟩
    rw [Nat.zero_add, cell_of_row w g i cur _ _ h3]
    exact h4 i hi

theorem Nw.mono {w : World} {lo lo' : Nat} {a : Option Addr} {xs : List Nat} (h : Nw w lo a xs) (hl : lo' ≤ lo) : Nw w lo' a xs := by
  rcases h with ⟨h1, h2⟩ | ⟨g, cur, h1, h2, h3, h4⟩
  · exact .inl ⟨h1, fun x e => ⟨Nat.le_trans hl (h2 x e).1, (h2 x e).2⟩⟩
  · exact .inr ⟨g, cur, h1, Nat.le_trans hl h2, h3, h4⟩

theorem Nw.kept {w w' : World} {lo : Nat} {a : Option Addr} {xs : List Nat} (h : Nw w lo a xs) (hk : ∀ (k : Nat) (cur : Array Value), w.heap[k]? = some (Obj.cells cur 136 (0, 0)) → w'.heap[k]? = w.heap[k]?) : Nw w' lo a xs := by
  rcases h with ⟨h1, h2⟩ | ⟨g, cur, h1, h2, h3, h4⟩
  · refine .inl ⟨h1, fun x e => ?_⟩
    obtain ⟨a, b, cur, c⟩ := h2 x e
    exact ⟨a, b, cur, by rw [hk _ _ c]; exact c⟩
  · exact .inr ⟨g, cur, h1, h2, by rw [hk _ _ h3]; exact h3, h4⟩

theorem Nw.later {w w' : World} {lo : Nat} {a : Option Addr} {xs : List Nat} (h : Nw w lo a xs) (hb : Below w.heap.size w w') : Nw w' lo a xs := Nw.kept h fun k cur hc => hb.block k (lt_of_block hc)

/-- 'append(out, list...)' of words at a step of a region that draws its order. -/
theorem step_appWs (w : World) {ops : Array Oper} {o : Oper} {a : Act} {K : Act → World → Prop} {Q : Exit → Act → World → Prop} {E : Prop} (hgd : o.guard = none) (s x : Operand)
    (ho : o.op = .call { callee := .builtin .append, args := #[s, x], argTypes := #[59, 59] })
    (base : Nat) (v : Value) (bs ys : List Nat) (hs : a.eval s = v) (hown : OwW w base v bs) (b ob c : Nat) (hx : a.eval x = .slice (some ⟨b, ob, none⟩) ys.length c)
    (hc : ∀ i, i < ys.length → w.cell? ⟨b, ob + i, none⟩ = some (.int .u64 ((ys.getD i 0 : Nat) : Int))) (hl : bs.length + ys.length ≤ 4194304) (hbase : base ≤ w.heap.size)
    (h : ∀ v' w', OwW w' base v' (bs ++ ys) → w.grownBy w' v.ownBlock → K (a.put o.dst v') w') :
    if Region.wanted o (yielded ops a.tmps) = true then Oper.wp Tryz.prog o a w K Q else E := by
  have hw : Region.wanted o (yielded ops a.tmps) = true := by simp [Region.wanted, hgd]
  rw [if_pos hw]
  obtain ⟨i0, hi, hz0, hz1, hz2⟩ := info_parts Tryz.infoU64
  refine wp_append_own w s x 59 ho base 136 i0 (.int .u64 0) 1 8 Tryz.underlying59 hi hz0 hz1 hz2 rfl (by decide) v bs.length (u64s bs).toList hs hown ⟨b, ob, none⟩ ys.length c (u64s ys).toList hx (by simp [u64s]) ?_ ?_ ?_ ?_ hbase ?_
  · intro j u hj
    have hj' : j < ys.length := by
      have := (List.getElem?_eq_some_iff.1 hj).1
      simpa [u64s] using this
    rw [Addr.add_lit, hc j hj']
    simp [u64s, hj'] at hj
    rw [← hj]
    simp [List.getD, hj']
  · intro u hu
    simp [u64s] at hu
    obtain ⟨_, _, rfl⟩ := hu
    rfl
  · unfold maxLen; omega
  · omega
  · intro v' w' h1 h2 _
    refine h v' w' ?_ h2
    unfold OwW
    simpa [u64s] using h1

theorem nw_set {w : World} {lo β : Nat} {a : Option Addr} {xs : List Nat} {cs : Array Value} {t : TypeId} (h : Nw w lo a xs) (hB : Bz w β cs t) (ht : t ≠ 136) (i : Nat) (v : Value) : Nw (w.setCell ⟨β, i, none⟩ v) lo a xs :=
  Nw.kept h fun k cur hc => heap_setCell_other _ _ _ _ (fun e => by
    simp only [] at e
    subst e
    unfold Bz at hB
    rw [hB] at hc
    cases hc
    exact ht rfl)

theorem nw_lt {w : World} {lo : Nat} {a : Option Addr} {xs : List Nat} (h : Nw w lo a xs) {p : Addr} (hp : a = some p) : lo ≤ p.block ∧ p.block < w.heap.size := by
  rcases h with ⟨h1, h2⟩ | ⟨g, cur, h1, h2, h3, h4⟩
  · obtain ⟨k1, -, cur, k2⟩ := h2 p hp
    exact ⟨k1, lt_of_block k2⟩
  · rw [h1] at hp
    cases hp
    exact ⟨h2, lt_of_block h3⟩

end Go.Proofs.YtdlmgndmfphneaaGreatDoor

/- append(list...) of words, also of none. -/
namespace Go.Proofs.YtdlmgndmfphneaaGreatDoor
set_option linter.unusedVariables false
set_option linter.unusedSimpArgs false
open Go.RowKit


theorem rd_cellsW {w : World} {ad : Addr} {ys : List Nat} (hr : Rd w (some ad) ys) : ∀ j u, (u64s ys).toList[j]? = some u → w.cell? (ad.add j) = some u := by
  intro j u hj
  have hj' : j < ys.length := by
    have := (List.getElem?_eq_some_iff.1 hj).1
    simpa [u64s] using this
  obtain ⟨-, -, h | ⟨b, o, e, hc⟩⟩ := hr
  · rw [h] at hj'; simp at hj'
  · cases e
    rw [Addr.add_lit, hc j hj']
    simp [u64s, hj'] at hj
    rw [← hj]
    simp [List.getD, hj']
theorem rd_noneW {w : World} {ys : List Nat} (hr : Rd w none ys) : ys = [] := by
  obtain ⟨-, -, h | ⟨b, o, e, hc⟩⟩ := hr
  · exact h
  · cases e

theorem wp_appWr (w : World) {o : Oper} {a : Act} {K : Act → World → Prop} {Q : Exit → Act → World → Prop} (s x : Operand)
    (ho : o.op = .call { callee := .builtin .append, args := #[s, x], argTypes := #[59, 59] })
    (base : Nat) (v : Value) (bs ys : List Nat) (hs : a.eval s = v) (hown : OwW w base v bs) (xa : Option Addr) (c : Nat) (hx : a.eval x = .slice xa ys.length c) (hc0 : xa = none → c = 0)
    (hr : Rd w xa ys) (hl : bs.length + ys.length ≤ 4194304) (hbase : base ≤ w.heap.size)
    (h : ∀ v' w', OwW w' base v' (bs ++ ys) → w.grownBy w' v.ownBlock → K (a.put o.dst v') w') : Oper.wp Tryz.prog o a w K Q := by
  obtain ⟨i0, hi, hz0, hz1, hz2⟩ := info_parts Tryz.infoU64
  cases xa with
  | none =>
    have e := rd_noneW hr
    subst e
    have ec := hc0 rfl
    subst ec
    have hr9 := run_append_owned_none (P := Tryz.prog) (w := w) base 59 o.type 136 i0 1 Tryz.underlying59 hi v bs.length (u64s bs).toList hown
    unfold Oper.wp execOp
    simp only [ho, resolve, invoke, builtin, Sem.run_bind, Sem.run_pure, Result.andThen_ok, List.map_toArray, List.map_cons, List.map_nil, hs, hx, List.length_nil, hr9]
    exact h v w (by rw [List.append_nil]; exact hown) (World.grownBy.refl w _)
  | some ad =>
    refine wp_append_own w s x 59 ho base 136 i0 (.int .u64 0) 1 8 Tryz.underlying59 hi hz0 hz1 hz2 rfl (by decide) v bs.length (u64s bs).toList hs hown ad ys.length c (u64s ys).toList hx (by simp [u64s]) (rd_cellsW hr) ?_ ?_ ?_ hbase ?_
    · intro u hu
      simp [u64s] at hu
      obtain ⟨_, _, rfl⟩ := hu
      rfl
    · unfold maxLen; omega
    · omega
    · intro v' w' h1 h2 _
      refine h v' w' ?_ h2
      unfold OwW
      simpa [u64s] using h1
theorem step_appWr (w : World) {ops : Array Oper} {o : Oper} {a : Act} {K : Act → World → Prop} {Q : Exit → Act → World → Prop} {E : Prop} (hgd : o.guard = none) (s x : Operand)
    (ho : o.op = .call { callee := .builtin .append, args := #[s, x], argTypes := #[59, 59] })
    (base : Nat) (v : Value) (bs ys : List Nat) (hs : a.eval s = v) (hown : OwW w base v bs) (xa : Option Addr) (c : Nat) (hx : a.eval x = .slice xa ys.length c) (hc0 : xa = none → c = 0)
    (hr : Rd w xa ys) (hl : bs.length + ys.length ≤ 4194304) (hbase : base ≤ w.heap.size)
    (h : ∀ v' w', OwW w' base v' (bs ++ ys) → w.grownBy w' v.ownBlock → K (a.put o.dst v') w') :
    if Region.wanted o (yielded ops a.tmps) = true then Oper.wp Tryz.prog o a w K Q else E := by
  have hw : Region.wanted o (yielded ops a.tmps) = true := by simp [Region.wanted, hgd]
  rw [if_pos hw]
  exact wp_appWr w s x ho base v bs ys hs hown xa c hx hc0 hr hl hbase h
theorem wpList_appWr (w : World) {ops : Array Oper} {rest : List Oper} {o : Oper} {a : Act} {Q : Exit → Act → World → Prop} (hgd : o.guard = none) (s x : Operand)
    (ho : o.op = .call { callee := .builtin .append, args := #[s, x], argTypes := #[59, 59] })
    (base : Nat) (v : Value) (bs ys : List Nat) (hs : a.eval s = v) (hown : OwW w base v bs) (xa : Option Addr) (c : Nat) (hx : a.eval x = .slice xa ys.length c) (hc0 : xa = none → c = 0)
    (hr : Rd w xa ys) (hl : bs.length + ys.length ≤ 4194304) (hbase : base ≤ w.heap.size)
    (h : ∀ v' w', OwW w' base v' (bs ++ ys) → w.grownBy w' v.ownBlock → wpList Tryz.prog ops Q rest (a.put o.dst v') w') : wpList Tryz.prog ops Q (o :: rest) a w :=
  wpList_plain hgd fun _ hK => wp_appWr w s x ho base v bs ys hs hown xa c hx hc0 hr hl hbase fun v' w' h2 h3 => hK _ _ (h v' w' h2 h3)

end Go.Proofs.YtdlmgndmfphneaaGreatDoor

/- Rows of numbers of one's own. -/
namespace Go.Proofs.YtdlmgndmfphneaaGreatDoor
set_option linter.unusedVariables false
set_option linter.unusedSimpArgs false
open Go.RowKit

/-- An owned row of numbers. -/
def OI (w : World) (B : Nat) (v : Value) (l : List Int) : Prop := w.ownsRow B 2 1 v l.length (i64s l).toList
theorem OI.move {w w' : World} {B : Nat} {v : Value} {l : List Int} (h : OI w B v l) (hk : ∀ b, v.ownBlock = some b → w'.heap[b]? = w.heap[b]?) : OI w' B v l := by
  refine ⟨h.1, ?_⟩
  rcases h.2 with h0 | ⟨g, cap, cur, rfl, hg, hh, r⟩
  · exact .inl h0
  · exact .inr ⟨g, cap, cur, rfl, hg, (hk g rfl).trans hh, r⟩
theorem OI.lt {w : World} {B : Nat} {v : Value} {l : List Int} (h : OI w B v l) {b : Nat} (hb : v.ownBlock = some b) : B ≤ b ∧ b < w.heap.size := by
  rcases h.2 with ⟨rfl, -⟩ | ⟨g, cap, cur, rfl, hg, hh, -⟩
  · cases hb
  · cases hb
    exact ⟨hg, lt_of_block hh⟩
theorem OI.later {w w' : World} {B : Nat} {v : Value} {l : List Int} (h : OI w B v l) (hb : Below w.heap.size w w') : OI w' B v l := h.move fun b hb' => hb.block b (h.lt hb').2
theorem OI.empty (w : World) (B : Nat) (h : B ≤ w.heap.size) : OI (w.alloc (.cells #[] 2)) B (.slice (some ⟨w.heap.size, 0, Option.none⟩) 0 0) [] := World.ownsRow_made w #[] 0 h (Nat.zero_le _) (by simp)
theorem OI.rd {w : World} {B : Nat} {v : Value} {l : List Int} (h : OI w B v l) (hl : l.length ≤ 1048576) (hx : ∀ x ∈ l, in64 x) : ∃ a c, v = .slice a l.length c ∧ RdI w a l := by
  rcases h.2 with ⟨rfl, h0⟩ | ⟨g, cap, cur, rfl, hg, hh, hc1, hc2, hsz, hcur⟩
  · have e := List.eq_nil_of_length_eq_zero h0
    subst e
    exact ⟨none, 0, rfl, by simp, by simp, .inl rfl⟩
  · refine ⟨some ⟨g, 0, none⟩, cap, rfl, hl, hx, .inr ⟨g, 0, rfl, fun i hi => ?_⟩⟩
    have h3 : (cur.toList.take (l.length * 1))[i]? = (i64s l).toList[i]? := by rw [hcur]
    rw [List.getElem?_take, if_pos (by omega)] at h3
    simp only [Array.getElem?_toList] at h3
    rw [Nat.zero_add, cell_of_row w g i cur _ _ hh, h3, i64s_get _ _ hi]
theorem wpList_appI {w : World} {ops : Array Oper} {rest : List Oper} {o : Oper} {a : Act} {Q : Exit → Act → World → Prop} (hgd : o.guard = none) (s x : Operand)
    (ho : o.op = .call { callee := .builtin .append, args := #[s, x], argTypes := #[28, 28] })
    (B : Nat) (v : Value) (l : List Int) (y : Int) (hs : a.eval s = v) (hown : OI w B v l) (gx c : Nat) (hx : a.eval x = .slice (some ⟨gx, 0, none⟩) 1 c)
    (h0 : w.cell? ⟨gx, 0, none⟩ = some (.int .i64 y)) (hl : l.length ≤ 1073741824) (hB : B ≤ w.heap.size)
    (h : ∀ g cap w', OI w' B (.slice (some ⟨g, 0, none⟩) (l.length + 1) cap) (l ++ [y]) → w.grownBy w' v.ownBlock → (v.ownBlock = some g ∨ g = w.heap.size) → wpList Tryz.prog ops Q rest (a.put o.dst (.slice (some ⟨g, 0, none⟩) (l.length + 1) cap)) w') : wpList Tryz.prog ops Q (o :: rest) a w := by
  obtain ⟨i0, hi, hz0, hz1, hz2⟩ := info_parts Tryz.infoI64
  refine wpList_append_lies w hgd s x 28 ho B 2 i0 _ 1 8 Tryz.underlying28 hi hz0 hz1 hz2 rfl (by decide) v l.length (i64s l).toList hs hown ⟨gx, 0, none⟩ 1 c [.int .i64 y] hx rfl ?_ ?_ (by decide) ?_ ?_ hB _ rfl ?_
  · intro j u hj
    rw [Addr.add_lit]
    match j, hj with
    | 0, hj => simp at hj; subst hj; exact h0
    | j + 1, hj => simp at hj
  · intro u hu
    simp at hu
    subst hu
    rfl
  · unfold maxLen; omega
  · omega
  · intro g cap w' h1 h2 h3 _
    refine h g cap w' ?_ h2 h3
    unfold OI
    rw [List.length_append]
    simpa [i64s] using h1

theorem step_appI (w : World) {ops : Array Oper} {o : Oper} {a : Act} {K : Act → World → Prop} {Q : Exit → Act → World → Prop} {E : Prop} (hgd : o.guard = none) (s x : Operand)
    (ho : o.op = .call { callee := .builtin .append, args := #[s, x], argTypes := #[28, 28] })
    (B : Nat) (v : Value) (l : List Int) (y : Int) (hs : a.eval s = v) (hown : OI w B v l) (gx c : Nat) (hx : a.eval x = .slice (some ⟨gx, 0, none⟩) 1 c)
    (h0 : w.cell? ⟨gx, 0, none⟩ = some (.int .i64 y)) (hl : l.length ≤ 1073741824) (hB : B ≤ w.heap.size)
    (h : ∀ g cap w', OI w' B (.slice (some ⟨g, 0, none⟩) (l.length + 1) cap) (l ++ [y]) → w.grownBy w' v.ownBlock → (v.ownBlock = some g ∨ g = w.heap.size) → K (a.put o.dst (.slice (some ⟨g, 0, none⟩) (l.length + 1) cap)) w') :
    if Region.wanted o (yielded ops a.tmps) = true then Oper.wp Tryz.prog o a w K Q else E := by
  obtain ⟨i0, hi, hz0, hz1, hz2⟩ := info_parts Tryz.infoI64
  refine step_append_lies w hgd s x 28 ho B 2 i0 _ 1 8 Tryz.underlying28 hi hz0 hz1 hz2 rfl (by decide) v l.length (i64s l).toList hs hown ⟨gx, 0, none⟩ 1 c [.int .i64 y] hx rfl ?_ ?_ (by decide) ?_ ?_ hB _ rfl ?_
  · intro j u hj
    rw [Addr.add_lit]
    match j, hj with
    | 0, hj => simp at hj; subst hj; exact h0
    | j + 1, hj => simp at hj
  · intro u hu
    simp at hu
    subst hu
    rfl
  · unfold maxLen; omega
  · omega
  · intro g cap w' h1 h2 h3 _
    refine h g cap w' ?_ h2 h3
    unfold OI
    rw [List.length_append]
    simpa [i64s] using h1

end Go.Proofs.YtdlmgndmfphneaaGreatDoor

/- 'append(out, list...)' of words and of numbers, the list wherever it lies, also where there is none. -/
namespace Go.Proofs.YtdlmgndmfphneaaGreatDoor
set_option linter.unusedVariables false
set_option linter.unusedSimpArgs false
open Go.RowKit

theorem rd_cellsI {w : World} {ad : Addr} {ys : List Int} (hr : RdI w (some ad) ys) : ∀ j u, (i64s ys).toList[j]? = some u → w.cell? (ad.add j) = some u := by
  intro j u hj
  have hj' : j < ys.length := by
    have := (List.getElem?_eq_some_iff.1 hj).1
    simpa [i64s] using this
  obtain ⟨-, -, h | ⟨b, o, e, hc⟩⟩ := hr
  · rw [h] at hj'; simp at hj'
  · cases e
    rw [Addr.add_lit, hc j hj']
    simp [i64s, hj'] at hj
    rw [← hj]
    simp [List.getD, hj']
theorem rd_noneI {w : World} {ys : List Int} (hr : RdI w none ys) : ys = [] := by
  obtain ⟨-, -, h | ⟨b, o, e, hc⟩⟩ := hr
  · exact h
  · cases e

theorem wp_appIr (w : World) {o : Oper} {a : Act} {K : Act → World → Prop} {Q : Exit → Act → World → Prop} (s x : Operand)
    (ho : o.op = .call { callee := .builtin .append, args := #[s, x], argTypes := #[28, 28] })
    (base : Nat) (v : Value) (bs ys : List Int) (hs : a.eval s = v) (hown : OI w base v bs) (xa : Option Addr) (c : Nat) (hx : a.eval x = .slice xa ys.length c) (hc0 : xa = none → c = 0)
    (hr : RdI w xa ys) (hl : bs.length + ys.length ≤ 4194304) (hbase : base ≤ w.heap.size)
    (h : ∀ v' w', OI w' base v' (bs ++ ys) → w.grownBy w' v.ownBlock → K (a.put o.dst v') w') : Oper.wp Tryz.prog o a w K Q := by
  obtain ⟨i0, hi, hz0, hz1, hz2⟩ := info_parts Tryz.infoI64
  cases xa with
  | none =>
    have e := rd_noneI hr
    subst e
    have ec := hc0 rfl
    subst ec
    have hr9 := run_append_owned_none (P := Tryz.prog) (w := w) base 28 o.type 2 i0 1 Tryz.underlying28 hi v bs.length (i64s bs).toList hown
    unfold Oper.wp execOp
    simp only [ho, resolve, invoke, builtin, Sem.run_bind, Sem.run_pure, Result.andThen_ok, List.map_toArray, List.map_cons, List.map_nil, hs, hx, List.length_nil, hr9]
    exact h v w (by rw [List.append_nil]; exact hown) (World.grownBy.refl w _)
  | some ad =>
    refine wp_append_own w s x 28 ho base 2 i0 (.int .i64 0) 1 8 Tryz.underlying28 hi hz0 hz1 hz2 rfl (by decide) v bs.length (i64s bs).toList hs hown ad ys.length c (i64s ys).toList hx (by simp [i64s]) (rd_cellsI hr) ?_ ?_ ?_ hbase ?_
    · intro u hu
      simp [i64s] at hu
      obtain ⟨_, _, rfl⟩ := hu
      rfl
    · unfold maxLen; omega
    · omega
    · intro v' w' h1 h2 _
      refine h v' w' ?_ h2
      unfold OI
      simpa [i64s] using h1
theorem step_appIr (w : World) {ops : Array Oper} {o : Oper} {a : Act} {K : Act → World → Prop} {Q : Exit → Act → World → Prop} {E : Prop} (hgd : o.guard = none) (s x : Operand)
    (ho : o.op = .call { callee := .builtin .append, args := #[s, x], argTypes := #[28, 28] })
    (base : Nat) (v : Value) (bs ys : List Int) (hs : a.eval s = v) (hown : OI w base v bs) (xa : Option Addr) (c : Nat) (hx : a.eval x = .slice xa ys.length c) (hc0 : xa = none → c = 0)
    (hr : RdI w xa ys) (hl : bs.length + ys.length ≤ 4194304) (hbase : base ≤ w.heap.size)
    (h : ∀ v' w', OI w' base v' (bs ++ ys) → w.grownBy w' v.ownBlock → K (a.put o.dst v') w') :
    if Region.wanted o (yielded ops a.tmps) = true then Oper.wp Tryz.prog o a w K Q else E := by
  have hw : Region.wanted o (yielded ops a.tmps) = true := by simp [Region.wanted, hgd]
  rw [if_pos hw]
  exact wp_appIr w s x ho base v bs ys hs hown xa c hx hc0 hr hl hbase h
theorem wpList_appIr (w : World) {ops : Array Oper} {rest : List Oper} {o : Oper} {a : Act} {Q : Exit → Act → World → Prop} (hgd : o.guard = none) (s x : Operand)
    (ho : o.op = .call { callee := .builtin .append, args := #[s, x], argTypes := #[28, 28] })
    (base : Nat) (v : Value) (bs ys : List Int) (hs : a.eval s = v) (hown : OI w base v bs) (xa : Option Addr) (c : Nat) (hx : a.eval x = .slice xa ys.length c) (hc0 : xa = none → c = 0)
    (hr : RdI w xa ys) (hl : bs.length + ys.length ≤ 4194304) (hbase : base ≤ w.heap.size)
    (h : ∀ v' w', OI w' base v' (bs ++ ys) → w.grownBy w' v.ownBlock → wpList Tryz.prog ops Q rest (a.put o.dst v') w') : wpList Tryz.prog ops Q (o :: rest) a w :=
  wpList_plain hgd fun _ hK => wp_appIr w s x ho base v bs ys hs hown xa c hx hc0 hr hl hbase fun v' w' h2 h3 => hK _ _ (h v' w' h2 h3)

end Go.Proofs.YtdlmgndmfphneaaGreatDoor
