/- A drawn text: some text, of bounded length. -/
import Derived.Test.YtiaoncdnkemokaaF7
import Derived.Test.YtiaoncdnkemokaaWS
import Derived.Test.YtiaoncdnkemokaaXFnExactWriteBits
namespace Go.Proofs.Ytiaoncdnkemokaa
set_option linter.unusedVariables false
set_option linter.unusedSimpArgs false
open Go.RowKit

theorem ext_le (t : ByteArray) (i j : Nat) {n : Nat} (h : t.size ≤ n) : (t.extract i j).size ≤ n := by
  simp [ByteArray.size_extract]
  omega

theorem lit9_cell (w4 : World) (y : Nat) (hy : y = 0 ∨ y < 9) : ∃ q : ByteArray, q.size = 1 ∧ (#[Value.string { data := #[48] }, Value.string { data := #[49] }, Value.string { data := #[50] }, Value.string { data := #[103] }, Value.string { data := #[102] }, Value.string { data := #[70] }, Value.string { data := #[35] }, Value.string { data := #[120] }, Value.string { data := #[98] }] : Array Value)[y]? = some (.string q) ∧ (w4.alloc (Obj.cells #[Value.string { data := #[48] }, Value.string { data := #[49] }, Value.string { data := #[50] }, Value.string { data := #[103] }, Value.string { data := #[102] }, Value.string { data := #[70] }, Value.string { data := #[35] }, Value.string { data := #[120] }, Value.string { data := #[98] }] 9)).cell? ⟨w4.heap.size, y, none⟩ = some (.string q) := by
  have hrow := heap_alloc_new w4 (Obj.cells #[Value.string { data := #[48] }, Value.string { data := #[49] }, Value.string { data := #[50] }, Value.string { data := #[103] }, Value.string { data := #[102] }, Value.string { data := #[70] }, Value.string { data := #[35] }, Value.string { data := #[120] }, Value.string { data := #[98] }] 9)
  rw [cell_of_row _ _ y _ _ _ hrow]
  have hy' : y < 9 := by omega
  match y, hy' with
  | 0, _ => exact ⟨_, rfl, rfl, rfl⟩
  | 1, _ => exact ⟨_, rfl, rfl, rfl⟩
  | 2, _ => exact ⟨_, rfl, rfl, rfl⟩
  | 3, _ => exact ⟨_, rfl, rfl, rfl⟩
  | 4, _ => exact ⟨_, rfl, rfl, rfl⟩
  | 5, _ => exact ⟨_, rfl, rfl, rfl⟩
  | 6, _ => exact ⟨_, rfl, rfl, rfl⟩
  | 7, _ => exact ⟨_, rfl, rfl, rfl⟩
  | 8, _ => exact ⟨_, rfl, rfl, rfl⟩

theorem lit9_row {β : Nat} {w3 w4 : World} (h : Dw β (w3.alloc (Obj.cells #[Value.string { data := #[48] }, Value.string { data := #[49] }, Value.string { data := #[50] }, Value.string { data := #[103] }, Value.string { data := #[102] }, Value.string { data := #[70] }, Value.string { data := #[35] }, Value.string { data := #[120] }, Value.string { data := #[98] }] 9)) w4) (hβ : β < w3.heap.size) {y : Nat} (hy : y = 0 ∨ y < 9) : ∃ q : ByteArray, q.size = 1 ∧ w4.cell? ⟨w3.heap.size, y, none⟩ = some (.string q) := by
  rw [cell_of_row w4 _ y _ _ _ (h.row hβ)]
  obtain ⟨q, h1, h2, _⟩ := lit9_cell w4 y hy
  exact ⟨q, h1, h2⟩

set_option maxHeartbeats 4000000 in
set_option maxRecDepth 100000 in
theorem drawRead_any (a : Option Addr) (c : Nat) (bs : List Nat) (w : World) (h : RdB w a bs) :
    Calls Try.prog 25 #[.slice a bs.length c] w fun e w' => ∃ s : ByteArray, e = .returned (.string s) ∧ s.size ≤ 1000000 ∧ Below w.heap.size w w' := by
  go_enter Try.func25, Try.ntmps25
  go_wp2_with fail
  refine (open_any a c bs _ h).mono ?_
  rintro e w1 ⟨β, rfl, hβ, hr1, hb1⟩
  go_wp2_with fail
  refine (wide_any β a c bs _ hr1).mono ?_
  rintro e w2 ⟨V, rfl, hV1, hV2, hr2, hd2⟩
  go_wp2_with fail
  refine (bits_any V hV1 (by omega) β a c bs _ hr2).mono ?_
  rintro e w3 ⟨a3, l, hl, hl1, rfl, hf3, hr3, hd3⟩
  have hpl : (pack l).length ≤ 64 := by rw [pack_len, hl]; omega
  have hg3 := hf3.got (by omega) (pack_lt l)
  have hB3 : Below w.heap.size w w3 := hb1.trans ((hd2.trans hd3).below hβ hb1.size)
  have hwl : (writeR V (pack l)).length ≤ 5000 := by
    have h : (writeR V (pack l)).length ≤ V + 2 := by
      unfold writeR
      split
      · unfold writeL
        rw [Int.toNat_natCast]
        split
        · rw [List.length_append, wTo_len]; simp; omega
        · rw [List.length_append, wTo_len]; simp; omega
      · simp
    omega
  have hW := specWrite_any V a3 (pack l).length (pack l) w3 hg3.1
  have hts : (txt (writeR V (pack l))).size ≤ 5000 := by
    show ((writeR V (pack l)).map UInt8.ofNat).toArray.size ≤ 5000
    simpa using hwl
  generalize txt (writeR V (pack l)) = t0 at *
  go_wp2_with fail
  refine hW.mono ?_
  rintro e w4 ⟨rfl, hb4⟩
  have hr4 := hr3.later hb4
  have B4 := chain hB3 hb4
  have hβ4 := hr4.lt
  clear hW hwl hg3 hf3 hr3 hr2 hr1 hd2 hd3 hB3 hb4 hb1
  have hti : (t0.size : Int) ≤ 5000 := by omega
  clear hl hl1 hpl
  go_wp2_with fail
  refine (once_any 3 (by omega) (by omega) β a c bs _ hr4).mono ?_
  rintro e w5 ⟨q, rfl, hr5, hd5⟩
  have B5 : Below w.heap.size w w5 := B4.trans (hd5.below hβ (by have := B4.size; omega))
  clear hr4 B4 hd5
  cases q with
  | true =>
    go_wp2_with fail
    refine (below_any (t0.size + 1) (by omega) β a c bs _ hr5).mono ?_
    rintro e w6 ⟨y, rfl, hy, hr6, hd6⟩
    have B6 : Below w.heap.size w w6 := B5.trans (hd6.below hβ (by have := B5.size; omega))
    have hyi : (y : Int) ≤ (t0.size : Int) := by omega
    clear hr5 B5 hd6
    have hβ6 := hr6.lt
    have hr6d : Rr w6.drew β a c bs := hr6
    go_wp2_with fail
    first | (go_region_with (first
      | (go_at_call 67; refine (below_any 9 (by omega) β a c bs _ ?_).mono ?_; exact hr6d; rintro e w7 ⟨z, rfl, hz, hr7, hd7⟩; have hd67 : Dw β w6 w7 := hd7.undrew; obtain ⟨q, hq1, hq2, hq3⟩ := lit9_cell w7 z hz; have hzi : (z : Int) < 9 := (by omega); have hqi : (q.size : Int) = 1 := (by omega))
      | (go_at_call 67; refine (below_any 9 (by omega) β a c bs _ ?_).mono ?_; exact hr6d.later (Ba (Below.refl _ _) _); rintro e w7 ⟨z, rfl, hz, hr7, hd7⟩; have hd67 : Dw β w6 w7 := (Dw.of (Ba (Below.refl _ _) _)).trans hd7.undrew; obtain ⟨q, hq1, hq2⟩ := lit9_row hd7.undrew hβ6 hz; have hzi : (z : Int) < 9 := (by omega); have hqi : (q.size : Int) = 1 := (by omega)))) | fail
    all_goals
      have B7 : Below w.heap.size w w7 := B6.trans (hd67.below hβ (by have := B6.size; omega))
      have hSz : (t0.extract 0 y ++ q ++ t0.extract y t0.size).size ≤ 10002 := by
        rw [ByteArray.size_append, ByteArray.size_append, hq1]
        have e1 := ext_le t0 0 y hts
        have e2 := ext_le t0 y t0.size hts
        omega
      go_wp2_with fail
      generalize t0.extract 0 y ++ q ++ t0.extract y t0.size = t1 at *
      refine (once_any 20 (by omega) (by omega) β a c bs _ ?_).mono ?_
      first | exact hr7 | exact hr7.later (Ba (Below.refl _ _) _)
      rintro e w8 ⟨q', rfl, hr8, hd8⟩
      have B8 : Below w.heap.size w w8 := by first | exact B7.trans (hd8.below hβ (by have := B7.size; omega)) | exact (Ba B7 _).trans (hd8.below hβ (by have := (Ba B7 (Obj.cells #[] 5)).size; have := B7.size; simp; omega))
      clear hr7 B7 hd8 hd67
      cases q' with
      | true =>
        go_wp2_with fail
        refine (below_any 2 (by omega) β a c bs _ hr8).mono ?_
        rintro e w9 ⟨y, rfl, hy, hr9, hd9⟩
        have B9 : Below w.heap.size w w9 := B8.trans (hd9.below hβ (by have := B8.size; omega))
        clear hr8 B8 hd9
        go_wp2_with fail
        go_loop [4, 6] (fun sv i => ∃ (m : Nat) (t : ByteArray), i = .int .i64 m ∧ sv = .string t ∧ t.size + m ≤ 2000) (fun _ i => (intOf i).toNat)
        case atStart => exact ⟨1024 + y, { data := #[35, 120] }, by simp, rfl, by show 2 + (1024 + y) ≤ 2000; omega⟩
        case round =>
          obtain ⟨m, t, rfl, rfl, hm⟩ := hrel
          by_cases h0 : m = 0
          · subst h0
            have htz : t.size ≤ 2000 := by omega
            clear hm
            go_wp2_with fail
            refine (once_any 20 (by omega) (by omega) β a c bs _ hr9).mono ?_
            rintro e w10 ⟨q, rfl, hr10, hd10⟩
            have B10 : Below w.heap.size w w10 := B9.trans (hd10.below hβ (by have := B9.size; omega))
            cases q with
            | true =>
              go_wp2
              go_ret
              refine ⟨_, rfl, ?_, B10⟩
              exact ext_le _ _ _ (by omega)
            | false =>
              go_wp2
              go_ret
              exact ⟨_, rfl, by omega, B10⟩
          · obtain ⟨m', rfl⟩ : ∃ m', m = m' + 1 := ⟨m - 1, by omega⟩
            have htz : (t.size : Int) + 1 ≤ 9223372036854775807 := by omega
            have hm0 : (0 : Int) < (m' : Int) + 1 := by omega
            go_wp2
            go_round
            case rel => exact ⟨m', _, by go_num, rfl, by rw [ByteArray.size_append]; show t.size + 1 + m' ≤ 2000; omega⟩
            case measure => simp [intOf]
      | false =>
        go_wp2_with fail
        refine (once_any 20 (by omega) (by omega) β a c bs _ hr8).mono ?_
        rintro e w9 ⟨q, rfl, hr9, hd9⟩
        have B9 : Below w.heap.size w w9 := B8.trans (hd9.below hβ (by have := B8.size; omega))
        cases q with
        | true =>
          go_wp2
          go_ret
          refine ⟨_, rfl, ?_, B9⟩
          exact ext_le _ _ _ (by omega)
        | false =>
          go_wp2
          go_ret
          exact ⟨_, rfl, by omega, B9⟩
  | false =>
    go_wp2_with fail
    refine (once_any 20 (by omega) (by omega) β a c bs _ hr5).mono ?_
    rintro e w6 ⟨q, rfl, hr6, hd6⟩
    have B6 : Below w.heap.size w w6 := B5.trans (hd6.below hβ (by have := B5.size; omega))
    clear hr5 B5 hd6
    cases q with
    | true =>
      go_wp2_with fail
      refine (below_any 2 (by omega) β a c bs _ hr6).mono ?_
      rintro e w7 ⟨y, rfl, hy, hr7, hd7⟩
      have B7 : Below w.heap.size w w7 := B6.trans (hd7.below hβ (by have := B6.size; omega))
      clear hr6 B6 hd7
      go_wp2_with fail
      go_loop [4, 6] (fun sv i => ∃ (m : Nat) (t : ByteArray), i = .int .i64 m ∧ sv = .string t ∧ t.size + m ≤ 2000) (fun _ i => (intOf i).toNat)
      case atStart => exact ⟨1024 + y, { data := #[35, 120] }, by simp, rfl, by show 2 + (1024 + y) ≤ 2000; omega⟩
      case round =>
        obtain ⟨m, t, rfl, rfl, hm⟩ := hrel
        by_cases h0 : m = 0
        · subst h0
          have htz : t.size ≤ 2000 := by omega
          clear hm
          go_wp2_with fail
          refine (once_any 20 (by omega) (by omega) β a c bs _ hr7).mono ?_
          rintro e w8 ⟨q, rfl, hr8, hd8⟩
          have B8 : Below w.heap.size w w8 := B7.trans (hd8.below hβ (by have := B7.size; omega))
          cases q with
          | true =>
            go_wp2
            go_ret
            refine ⟨_, rfl, ?_, B8⟩
            exact ext_le _ _ _ (by omega)
          | false =>
            go_wp2
            go_ret
            exact ⟨_, rfl, by omega, B8⟩
        · obtain ⟨m', rfl⟩ : ∃ m', m = m' + 1 := ⟨m - 1, by omega⟩
          have htz : (t.size : Int) + 1 ≤ 9223372036854775807 := by omega
          have hm0 : (0 : Int) < (m' : Int) + 1 := by omega
          go_wp2
          go_round
          case rel => exact ⟨m', _, by go_num, rfl, by rw [ByteArray.size_append]; show t.size + 1 + m' ≤ 2000; omega⟩
          case measure => simp [intOf]
    | false =>
      go_wp2_with fail
      refine (once_any 20 (by omega) (by omega) β a c bs _ hr6).mono ?_
      rintro e w7 ⟨q, rfl, hr7, hd7⟩
      have B7 : Below w.heap.size w w7 := B6.trans (hd7.below hβ (by have := B6.size; omega))
      cases q with
      | true =>
        go_wp2
        go_ret
        refine ⟨_, rfl, ?_, B7⟩
        exact ext_le _ _ _ (by omega)
      | false =>
        go_wp2
        go_ret
        exact ⟨_, rfl, by omega, B7⟩

end Go.Proofs.Ytiaoncdnkemokaa
