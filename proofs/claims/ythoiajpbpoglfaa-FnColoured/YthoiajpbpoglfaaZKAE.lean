/- Several texts in one. -/
import Derived.Test.YthoiajpbpoglfaaA
import Derived.Deep.OwnRows
import Derived.Maps.AppendAt
import Derived.Laws.IdiomStrings
import Derived.Handy
import Derived.Maps.OwnSet
import Derived.DeepKeys4

/- The key of a row of words: eight bytes for each. -/
namespace Go.Proofs.Ythoiajpbpoglfaa
set_option linter.unusedVariables false
set_option linter.unusedSimpArgs false
open Go.RowKit

theorem kide0 {p : Prop} (h : p) : Hid p := h

/-- The k lowest bytes of a word, the lowest first. -/
def wB (x : Nat) : Nat → List Nat
  | 0 => []
  | k + 1 => wB x k ++ [x / 2 ^ (8 * k) % 256]
theorem wB_len (x : Nat) : ∀ k, (wB x k).length = k
  | 0 => rfl
  | k + 1 => by simp [wB, wB_len x k]
theorem wB_lt (x : Nat) : ∀ k, ∀ b ∈ wB x k, b < 256
  | 0, b, h => by simp [wB] at h
  | k + 1, b, h => by
    unfold wB at h
    rcases List.mem_append.1 h with h | h
    · exact wB_lt x k b h
    · simp at h; omega
theorem wB_inj {x y : Nat} (hx : x < 18446744073709551616) (hy : y < 18446744073709551616) (h : wB x 8 = wB y 8) : x = y := by
  simp [wB] at h
  omega

/-- The bytes of the first j words. -/
def keyB (xs : List Nat) : Nat → List Nat
  | 0 => []
  | j + 1 => keyB xs j ++ wB (xs.getD j 0) 8
theorem keyB_len (xs : List Nat) : ∀ j, (keyB xs j).length = 8 * j
  | 0 => rfl
  | j + 1 => by simp [keyB, keyB_len xs j, wB_len]; omega
theorem keyB_lt (xs : List Nat) : ∀ j, ∀ b ∈ keyB xs j, b < 256
  | 0, b, h => by simp [keyB] at h
  | j + 1, b, h => by
    unfold keyB at h
    rcases List.mem_append.1 h with h | h
    · exact keyB_lt xs j b h
    · exact wB_lt _ 8 b h
theorem keyB_inj {xs ys : List Nat} (hx : ∀ i, xs.getD i 0 < 18446744073709551616) (hy : ∀ i, ys.getD i 0 < 18446744073709551616) : ∀ j, keyB xs j = keyB ys j → ∀ i, i < j → xs.getD i 0 = ys.getD i 0
  | 0, _, i, hi => by omega
  | j + 1, h, i, hi => by
    unfold keyB at h
    have h1 := List.append_inj h (by rw [keyB_len, keyB_len])
    by_cases e : i = j
    · subst e
      exact wB_inj (hx i) (hy i) h1.2
    · exact keyB_inj hx hy j h1.1 i (by omega)
/-- Two rows of words have the same key just when they are the same. -/
theorem keyB_eq {xs ys : List Nat} (hx : ∀ x ∈ xs, x < 18446744073709551616) (hy : ∀ x ∈ ys, x < 18446744073709551616) (h : keyB xs xs.length = keyB ys ys.length) : xs = ys := by
  have hl : xs.length = ys.length := by
    have := congrArg List.length h
    rw [keyB_len, keyB_len] at this
    omega
  have g : ∀ (zs : List Nat), (∀ x ∈ zs, x < 18446744073709551616) → ∀ i, zs.getD i 0 < 18446744073709551616 := fun zs hz i => by
    by_cases hi : i < zs.length
    · rw [List.getD_eq_getElem?_getD, List.getElem?_eq_getElem hi]
      exact hz _ (List.getElem_mem hi)
    · rw [List.getD_eq_getElem?_getD, List.getElem?_eq_none (by omega)]
      decide
  rw [← hl] at h
  refine List.ext_getElem hl fun i h1 h2 => ?_
  have := keyB_inj (g xs hx) (g ys hy) xs.length h i h1
  simpa [List.getD_eq_getElem?_getD, h1, h2] using this

theorem Try.infoU8k : (Try.prog.info? 5).map (fun i => (i.zero, i.size, i.bytes)) = some (some (.int .u8 0), 1, 1) := by kernel_rfl

/-- The text of such bytes. -/
def keyS (xs : List Nat) : ByteArray := ⟨((keyB xs xs.length).map UInt8.ofNat).toArray⟩

def OwK (w : World) (B : Nat) (v : Value) (bs : List Nat) : Prop := w.ownsRow B 5 1 v bs.length (bs.map fun (b : Nat) => Value.int .u8 (b : Int))

theorem own_geK {w : World} {B n : Nat} {e : TypeId} {v : Value} {xs : List Value} {b : Nat} (h : w.ownsRow B e 1 v n xs) (hb : v.ownBlock = some b) : B ≤ b := by
  rcases h.2 with ⟨rfl, -⟩ | ⟨g, cap, cur, rfl, hg, hh, -⟩
  · cases hb
  · cases hb
    exact hg

theorem OwK.some {w : World} {B : Nat} {v : Value} {bs : List Nat} (h : OwK w B v bs) (hb : bs ≠ []) : v.ownBlock ≠ none := by
  rcases h.2 with ⟨e, h0⟩ | ⟨g, cap, cur, e, -⟩
  · exact absurd (List.eq_nil_of_length_eq_zero h0) hb
  · rw [e]; simp [Value.ownBlock]

theorem OwK.form {w : World} {B : Nat} {v : Value} {bs : List Nat} (h : OwK w B v bs) : ∃ a c, v = .slice a bs.length c := by
  rcases h.2 with ⟨e, h0⟩ | ⟨g, cap, cur, e, -⟩
  · exact ⟨none, 0, by rw [e, h0]⟩
  · exact ⟨_, _, e⟩

theorem wpList_appK8 {w : World} {ops : Array Oper} {rest : List Oper} {o : Oper} {a : Act} {Q : Exit → Act → World → Prop} (hgd : o.guard = none) (s x : Operand)
    (ho : o.op = .call { callee := .builtin .append, args := #[s, x], argTypes := #[39, 39] })
    (B : Nat) (v : Value) (xs : List Nat) (y : Nat) (hs : a.eval s = v) (hown : OwK w B v xs) (gx : Nat) (hx : a.eval x = .slice (some ⟨gx, 0, none⟩) 1 1)
    (h0 : w.cell? ⟨gx, 0, none⟩ = some (.int .u8 (y : Int))) (hl : xs.length ≤ 1073741824) (hB : B ≤ w.heap.size)
    (h : ∀ v' w', OwK w' B v' (xs ++ [y]) → w.grownBy w' v.ownBlock → wpList Try.prog ops Q rest (a.put o.dst v') w') : wpList Try.prog ops Q (o :: rest) a w := by
  obtain ⟨i0, hi, hz0, hz1, hz2⟩ := info_parts Try.infoU8k
  refine wpList_append_own_at w hgd s x 39 ho B 5 i0 _ 1 1 Try.underlying39 hi hz0 hz1 hz2 rfl (by decide) v xs.length _ hs hown ⟨gx, 0, none⟩ 1 1 [.int .u8 (y : Int)] hx rfl ?_ ?_ (by unfold maxLen; omega) (by omega) hB ?_
  · intro j u hj
    rw [Addr.add_lit]
    match j, hj with
    | 0, hj => simp at hj; subst hj; exact h0
    | j + 1, hj => simp at hj
  · intro u hu
    simp at hu
    subst hu
    rfl
  · intro v' w' ho' hg _ _
    refine h v' w' ?_ hg
    unfold OwK
    rw [List.map_append, List.length_append]
    exact ho'

set_option maxHeartbeats 1000000 in
set_option maxRecDepth 100000 in
theorem listKey_any (a : Option Addr) (c n : Nat) (xs : List Nat) (w : World) (hr : Rd w a xs) (hn : xs.length = n) :
    Calls Try.prog 90 #[.slice a n c] w fun e w' => e = .returned (.string (keyS xs)) ∧ Below w.heap.size w w' := by
  have hl := hr.1
  rw [hn] at hl
  have hmk : ∀ (kl kc : IntKind) (u : World), (Instr.makeSlice 39 (.int kl 0) (.int kc (8 * (n : Int)))).run Try.prog u = .ok (.slice (some ⟨u.heap.size, 0, none⟩) 0 (8 * n)) (u.alloc (.cells (madeCells #[.int .u8 0] (8 * n)) 5)) := fun kl kc u => by
    obtain ⟨i0, hi, hz0, hz1, hz2⟩ := info_parts Try.infoU8k
    have := run_make (P := Try.prog) u 39 5 i0 _ Try.underlying39 hi hz0 kl kc 0 (8 * (n : Int)) (by omega) (by omega) (by rw [hz2]; omega) (by omega)
    rw [hz1, show (8 * (n : Int)).toNat = 8 * n by omega] at this
    simpa [Value.cells] using this
  obtain ⟨T, hT⟩ : ∃ T, keyS xs = T := ⟨_, rfl⟩
  rw [hT]
  have HT := kide0 hT
  clear hT
  have HR := kide0 hr
  have HN := kide0 hn
  clear hr hn
  go_enter Try.func90, Try.ntmps90
  go_wp2_with fail
  have hB0 : Hid (Below w.heap.size w (w.alloc (.cells (madeCells #[.int .u8 0] (8 * n)) 5))) := (Below.refl _ _).alloc (Nat.le_refl _) _
  have hO0 : Hid (OwK (w.alloc (.cells (madeCells #[.int .u8 0] (8 * n)) 5)) w.heap.size (.slice (some ⟨w.heap.size, 0, none⟩) 0 (8 * n)) []) :=
    ⟨rfl, .inr ⟨w.heap.size, 8 * n, _, rfl, Nat.le_refl _, heap_alloc_new _ _, Nat.zero_le _, by unfold maxLen; omega, by rw [size_madeCells, Nat.mul_one], by simp⟩⟩
  clear hmk
  generalize w.alloc (.cells (madeCells #[.int .u8 0] (8 * n)) 5) = w0 at *
  go_loopw [3, 13] (fun v q wr => ∃ k : Nat, k ≤ n ∧ q = .int .i64 (k : Int) ∧ OwK wr w.heap.size v (keyB xs k) ∧ v.ownBlock ≠ none ∧ Below w.heap.size w wr) (fun _ q _ => n - (intOf q).toNat)
  case atStart => exact ⟨0, Nat.zero_le _, rfl, hO0.out, by simp [Value.ownBlock], hB0.out⟩
  case round =>
    obtain ⟨k, hk, rfl, hown, hnn, hbel⟩ := hrel
    have HNN := kide0 hnn
    clear hnn
    have HO := kide0 hown
    have HB := kide0 hbel
    clear hB0 hO0
    obtain ⟨av, cv, rfl⟩ := OwK.form hown
    have hkl := keyB_len xs k
    rw [hkl]
    rw [hkl] at HO HNN
    by_cases hlt : k < n
    · have i0 : (k : Int) < (n : Int) := by omega
      obtain ⟨-, hx, h | ⟨b, o, rfl, hc⟩⟩ := HR.out
      · have := HN.out; rw [h] at this; simp at this; omega
      have hcell := hc k (by rw [HN.out]; exact hlt)
      have p0 : wr.cell? ⟨b, o + k, none⟩ = some (.int .u64 ((xs.getD k 0 : Nat) : Int)) := by rw [hbel.cell (p := ⟨b, o + k, none⟩) (block_lt_of_cell hcell)]; exact hcell
      have hxk : xs.getD k 0 < 18446744073709551616 := by
        have hk' : k < xs.length := by rw [HN.out]; exact hlt
        rw [List.getD_eq_getElem?_getD, List.getElem?_eq_getElem hk']
        exact hx _ (List.getElem_mem hk')
      obtain ⟨X, hX⟩ : ∃ X, xs.getD k 0 = X := ⟨_, rfl⟩
      rw [hX] at p0 hxk
      have HX := kide0 hX
      clear hc hcell hown hbel hX hx hkl
      go_wp2_with fail
      obtain ⟨wo, hwo⟩ : ∃ wo, wo = wr := ⟨_, rfl⟩
      subst hwo
      go_loopw [3, 6] (fun v q wr => ∃ j : Nat, j ≤ 8 ∧ q = .int .i64 ((8 * j : Nat) : Int) ∧ OwK wr w.heap.size v (keyB xs k ++ wB X j) ∧ v.ownBlock ≠ none ∧ Below w.heap.size w wr) (fun _ q _ => 64 - (intOf q).toNat)
      case atStart => exact ⟨0, by omega, rfl, by rw [wB, List.append_nil]; exact HO.out, HNN.out, HB.out⟩
      case round =>
        obtain ⟨j, hj, rfl, hown, hnn, hbel⟩ := hrel
        have HNNj := kide0 hnn
        clear hnn
        have HOj := kide0 hown
        have HBj := kide0 hbel
        obtain ⟨av2, cv2, rfl⟩ := OwK.form hown
        have hjl : (keyB xs k ++ wB X j).length = 8 * k + j := by rw [List.length_append, keyB_len, wB_len]
        rw [hjl]
        rw [hjl] at HOj HNNj
        have hkl2 : (keyB xs k ++ wB X j).length ≤ 1073741824 := by omega
        clear hown hbel hjl
        generalize hS : 8 * j = S at *
        have HS := kide0 hS
        by_cases hj8 : j < 8
        · have i1 : (S : Int) < 64 := by omega
          have hsz := HBj.out.size
          obtain ⟨Y, hY⟩ : ∃ Y : Nat, X / 2 ^ S % 256 = Y := ⟨_, rfl⟩
          have hYI : (X : Int) / 2 ^ S % 256 = (Y : Int) := by rw [← hY]; simp
          have HY := kide0 hY
          have hba : Below wr.heap.size wr (wr.alloc (Obj.cells #[Value.int .u8 (Y : Int)] 5)) := (Below.refl _ _).alloc (Nat.le_refl _) _
          have HOa : Hid (OwK (wr.alloc (Obj.cells #[Value.int .u8 (Y : Int)] 5)) w.heap.size (Value.slice av2 (8 * k + j) cv2) (keyB xs k ++ wB X j)) := World.ownsRow.alloc HOj.out _
          have HBa := kide0 (HBj.out.trans (hba.mono HBj.out.size))
          clear hS hY hba
          go_wp2_with (at_builtin; refine wpList_appK8 rfl _ _ rfl w.heap.size _ (keyB xs k ++ wB X j) Y rfl HOa.out _ rfl (by simp) hkl2 (by simp; omega) ?_)
          intro v7 w7 hos hg
          have O7 : Hid (OwK w7 w.heap.size v7 (keyB xs k ++ wB X (j + 1))) := by
            show OwK _ _ _ _
            rw [wB, HS.out, HY.out]
            first | exact hos | (rw [List.append_assoc]; exact hos) | (rw [← List.append_assoc]; exact hos)
          have B7 := kide0 (Below.grown HBa.out hg (by simp; omega) (fun i hi => (own_geK HOa.out hi)))
          clear hos hg
          go_wp2_with fail
          go_roundw
          case rel => exact ⟨j + 1, by omega, by have := HS.out; first | (congr 1; push_cast; omega) | (simp; omega), O7.out, OwK.some O7.out (by simp [wB]), B7.out⟩
          case measure => have := HS.out; simp [intOf]; omega
        · have hj8' : j = 8 := by omega
          have i1 : ¬ (S : Int) < 64 := by omega
          clear hS
          go_wp2_with fail
          go_roundw
          case rel => exact ⟨k + 1, by omega, by go_num, by rw [keyB, HX.out, show wB X 8 = wB X j by rw [hj8']]; exact HOj.out, HNNj.out, HBj.out⟩
          case measure => simp [intOf]; omega
    · have e : k = n := by omega
      subst e
      clear hown hbel
      have hTe : T = ⟨((keyB xs k).map UInt8.ofNat).toArray⟩ := by rw [← HT.out, keyS, HN.out]
      rcases HO.out.2 with ⟨e0, h0⟩ | ⟨g, cap, cur, e0, -⟩
      · exact absurd (by rw [e0]; rfl) HNN.out
      · rw [hkl] at e0
        cases e0
        have hcells := fun i u hu => World.ownsRow.cells HO.out (g := g) rfl i u hu
        have hcv := run_convert_bytes_back (P := Try.prog) wr 39 9 5 ⟨g, 0, none⟩ cv ((keyB xs k).map UInt8.ofNat) Try.underlying39 Try.underlying5 Try.underlying9 (fun i hi => by
          have hi' : i < (keyB xs k).length := by simpa using hi
          have hlt := keyB_lt xs k _ (List.getElem_mem hi')
          have e2 : ((((keyB xs k).map UInt8.ofNat)[i]).toNat : Int) = ((keyB xs k)[i] : Int) := by
            rw [List.getElem_map, UInt8.toNat_ofNat']
            omega
          rw [e2]
          exact hcells i _ (by rw [List.getElem?_map, List.getElem?_eq_getElem hi']; rfl))
        rw [List.length_map, hkl] at hcv
        rw [← hTe] at hcv
        clear hcells hkl hTe HT
        go_wp2_with fail
        go_ret
        exact ⟨rfl, HB.out⟩


end Go.Proofs.Ythoiajpbpoglfaa

/- Bars as keys of a map. -/
namespace Go.Proofs.Ythoiajpbpoglfaa
set_option linter.unusedVariables false
set_option linter.unusedSimpArgs false
open Go.RowKit Go.WideMaps Go.Maps

theorem blaid : laidOutB Try.prog = true := by kernel_rfl
theorem brow : (132 : TypeId) < Try.prog.types.size := of_decide_eq_true (by kernel_rfl)
theorem bwide : (match Try.prog.underlying 132 with | some (.array _ _) | some (.struct _) => true | _ => false) = true := by kernel_rfl
set_option maxRecDepth 100000 in
theorem barLaw : KeyLaw Try.prog 132 := deep_law_laid blaid (m := 3) (by omega) brow (by kernel_rfl) bwide
theorem barKeyed : Keyed Try.prog 132 := Keyed.of_law barLaw

theorem pos_of_lt {a b : Nat} (h : a < b) : ∃ m, b = m + 1 := ⟨b - 1, by omega⟩
theorem bsize : ∃ m, Try.prog.types.size = m + 1 := pos_of_lt brow
theorem bkey : Try.prog.keyType 132 = true := by kernel_rfl
theorem bc64 : Try.prog.cellsOf 2 = 1 := by kernel_rfl
theorem bcs : Try.prog.cellsOf 9 = 1 := by kernel_rfl
theorem bcells : Try.prog.cellsOf 132 = 4 := by kernel_rfl

theorem keyOf_bar (x y z : Int) (s : ByteArray) (hx : (Lit.int .i64 x).wf = true) (hy : (Lit.int .i64 y).wf = true) (hz : (Lit.int .i64 z).wf = true) (hs : s.size ≤ maxLen) :
    ∃ l, keyOf Try.prog 132 (.agg #[.int .i64 x, .int .i64 y, .int .i64 z, .string s]) = some l := by
  have hu := Try.underlying132
  have h1 := Try.underlying2
  have h2 := Try.underlying9
  have hf : (Value.agg #[.int .i64 x, .int .i64 y, .int .i64 z, .string s]).formed Try.prog 132 = true := by simp [Value.formed, hu, bcells]
  obtain ⟨m, hm⟩ := bsize
  unfold keyOf
  simp only [hu, bkey, hf, Bool.and_self, if_true]
  rw [hm]
  simp [Program.keyLits, hu, bcells, h1, h2, bc64, bcs, hx, hy, hz, hs, Value.cells]

/-- Bars with the same key are alike. -/
theorem keyOf_bar_inj {x y z x' y' z' : Int} {s s' : ByteArray} {l : Lit} (h : keyOf Try.prog 132 (.agg #[.int .i64 x, .int .i64 y, .int .i64 z, .string s]) = some l) (h' : keyOf Try.prog 132 (.agg #[.int .i64 x', .int .i64 y', .int .i64 z', .string s']) = some l) : x = x' ∧ y = y' ∧ z = z' ∧ s = s' := by
  have e := barLaw.inj h h'
  simp at e
  exact e

end Go.Proofs.Ythoiajpbpoglfaa
