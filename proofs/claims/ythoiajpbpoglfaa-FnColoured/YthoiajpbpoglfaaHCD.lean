/- The law FnColoured, over the contract of a drawn graph. -/
import Derived.Test.YthoiajpbpoglfaaHCA
import Derived.Test.YthoiajpbpoglfaaHCB
import Derived.Test.YthoiajpbpoglfaaHSH
import Derived.Test.YthoiajpbpoglfaaF7
namespace Go.Proofs.Ythoiajpbpoglfaa
set_option linter.unusedVariables false
set_option linter.unusedSimpArgs false
open Go.RowKit

theorem sum_take {ks : List Int} {k : Nat} (h : k < ks.length) : (ks.take (k + 1)).sum = (ks.take k).sum + ks.getD k 0 := by
  rw [List.take_add_one, List.getElem?_eq_getElem h, Option.toList_some, List.sum_append, List.getD, List.getElem?_eq_getElem h]
  simp
theorem sum_bound {ks : List Int} (h : ∀ x ∈ ks, 1 ≤ x ∧ x ≤ 4096) (hn : ks.length ≤ 200) : ∀ k, k ≤ ks.length → (k : Int) ≤ (ks.take k).sum ∧ (ks.take k).sum ≤ 4096 * k
  | 0, _ => by simp
  | k + 1, hk => by
    have h1 := sum_bound h hn k (by omega)
    have h2 := h (ks.getD k 0) (by rw [List.getD, List.getElem?_eq_getElem (by omega)]; exact List.getElem_mem _)
    rw [sum_take (by omega)]
    push_cast
    omega
theorem sum_part {ks : List Int} (h : ∀ x ∈ ks, 1 ≤ x ∧ x ≤ 4096) (hn : ks.length ≤ 200) {i : Nat} (hi : i < ks.length) : ∀ k, i < k → k ≤ ks.length → ks.getD i 0 ≤ (ks.take k).sum
  | 0, h0, _ => by omega
  | k + 1, h0, hk => by
    have h2 := h (ks.getD k 0) (by rw [List.getD, List.getElem?_eq_getElem (by omega)]; exact List.getElem_mem _)
    rw [sum_take (by omega)]
    by_cases e : i = k
    · subst e
      have := (sum_bound h hn i (by omega)).1
      omega
    · have := sum_part h hn hi k (by omega) (by omega)
      omega
theorem wct_upd {ks : List Int} {τ : Nat → Int} {k : Nat} (y : Int) : wct ks (upd τ k y) (k + 1) = wct ks τ k ++ [(ks.getD k 0, numW (ks.getD k 0) y)] := by
  rw [wct_snoc, upd_same]
  congr 1
  unfold wct
  refine List.map_congr_left fun i hi => ?_
  have := List.mem_range.1 hi
  rw [upd_ne _ _ (by omega)]

theorem wrap_uL {x : Int} (h1 : 0 ≤ x) (h2 : x ≤ 1000000) : IntKind.u64.wrap x = x := by rw [IntKind.wrap_u64]; omega
theorem pow_eight {x : Int} {M : Nat} (hM : 2 ^ x.toNat = M) (h : x ≤ 8) : M ≤ 256 := by
  rw [← hM]
  exact Nat.le_trans (Nat.pow_le_pow_right (by omega) (show x.toNat ≤ 8 by omega)) (by decide)
theorem shl_big (S : Int) (h : 0 ≤ S) : ∃ T : Int, ∀ u : World, Sem.run Try.prog (Op.shift BinOp.shl IntKind.i64 1 IntKind.u64 S) u = .ok (.int .i64 T) u := by
  refine ⟨IntKind.i64.wrap (1 * 2 ^ (min S.toNat IntKind.i64.bits)), fun u => ?_⟩
  unfold Op.shift
  rw [if_neg (by omega)]
  rfl
theorem wrap_div {a b : Nat} (h : a ≤ 1000000) : wrap64 ((a : Int) / (b : Int)) = ((a / b : Nat) : Int) := by
  have h1 : a / b ≤ a := Nat.div_le_self _ _
  rw [show (a : Int) / (b : Int) = ((a / b : Nat) : Int) by push_cast; rfl]
  generalize a / b = q at *
  unfold wrap64
  omega
theorem Tw.upd {u : World} {B : Nat} {v : Value} {l : List Bw} {ks : List Int} {τ : Nat → Int} {k : Nat} (h : Tw u B v l ks τ k) (y : Int) : Tw u B v l ks (upd τ k y) k := by
  refine ⟨h.bs, h.ct.trans ?_⟩
  unfold wct
  refine List.map_congr_left fun i hi => ?_
  have := List.mem_range.1 hi
  rw [upd_ne _ _ (by omega)]
theorem upd_range {ks : List Int} {τ : Nat → Int} {k : Nat} {y : Int} (h : ∀ j, j < k → 0 ≤ τ j ∧ (τ j).toNat < 2 ^ (ks.getD j 0).toNat) (hy : 0 ≤ y ∧ y.toNat < 2 ^ (ks.getD k 0).toNat) : ∀ j, j < k + 1 → 0 ≤ upd τ k y j ∧ (upd τ k y j).toNat < 2 ^ (ks.getD j 0).toNat := fun j hj => by
  by_cases e : j = k
  · subst e; rw [upd_same]; exact hy
  · rw [upd_ne _ _ e]; exact h j (by omega)
theorem okW_colD (ks : List Int) (bs : List Yc) (most : Int) : okW (colR ks bs most).1 := by
  unfold colR
  split
  · rename_i h
    obtain ⟨hg, -⟩ := h
    have hk : ks.length ≤ 200 ∧ ∀ x ∈ ks, 1 ≤ x ∧ x ≤ 4096 := by
      simp only [graphR, Bool.and_eq_true, decide_eq_true_eq, List.all_eq_true, wOk] at hg
      exact ⟨hg.1.1.1, hg.1.2⟩
    split
    · refine ⟨by unfold wct; simp; omega, fun x hx => ?_⟩
      obtain ⟨i, hi, rfl⟩ := List.mem_map.1 hx
      have hi9 := List.mem_range.1 hi
      have hV := hk.2 (ks.getD i 0) (by rw [List.getD, List.getElem?_eq_getElem hi9]; exact List.getElem_mem _)
      exact ⟨by unfold in64; simp only []; omega, (numW_ok _ _).1, (numW_ok _ _).2⟩
    · exact ⟨by simp, by simp⟩
  · exact ⟨by simp, by simp⟩

theorem col_cases {ks : List Int} {bs : List Yc} {most P Q : Int} {Y : List (Int × List Nat)} (h : colR ks bs most = (Y, P, Q)) :
    (∃ mo : Nat, most = (mo : Int) ∧ mo ≤ 20000 ∧ graphR ks bs = true ∧ (srcR ks bs mo).1 = 0 ∧ Y = wct ks (finR ks bs mo) ks.length ∧ P = ((srcR ks bs mo).2.2 : Int) ∧ Q = 0) ∨ (Y = [] ∧ (Q = 1 ∨ Q = 3)) ∨ (∃ mo : Nat, graphR ks bs = true ∧ (srcR ks bs mo).1 = 2 ∧ Q = 2) := by
  unfold colR at h
  split at h
  · rename_i h1
    obtain ⟨hg, h2, h3⟩ := h1
    split at h
    · rename_i h4
      injection h with e1 e2
      injection e2 with e2 e3
      exact .inl ⟨most.toNat, by omega, by omega, hg, h4, e1.symm, e2.symm, e3.symm⟩
    · rename_i h4
      injection h with e1 e2
      injection e2 with e2 e3
      rcases src_code (ks := ks) (bs := bs) (most := most.toNat) with h5 | h5 | h5
      · exact absurd h5 h4
      · exact .inr (.inr ⟨most.toNat, hg, h5, by rw [← e3, h5]; rfl⟩)
      · exact .inr (.inl ⟨e1.symm, .inr (by rw [← e3, h5]; rfl)⟩)
  · injection h with e1 e2
    injection e2 with e2 e3
    exact .inr (.inl ⟨e1.symm, .inl e3.symm⟩)

set_option maxHeartbeats 2000000 in
set_option maxRecDepth 100000 in
theorem law_coloured (HGA : Hid GraphAnyC) (a : Option Addr) (c : Nat) (bs : List Nat) (w : World) (hr : RdB w a bs) (hl : bs.length ≤ 1048576) :
    Calls Try.prog 5 #[.slice a bs.length c] w fun e w' => e = .returned (.bool true) ∧ Below w.heap.size w w' := by
  go_enter Try.func5, Try.ntmps5
  go_wp2_with fail
  refine (big_any a bs.length c w (by omega)).mono ?_
  rw [show decide (1048576 < bs.length) = false by simp; omega]
  rintro e w ⟨rfl, rfl⟩
  go_wp2_with fail
  refine (drawColour_any HGA a c bs _ hr).mono ?_
  rintro e w1 ⟨z, most, rfl, hmo, hz, hz1, hz2, hcp, hb1⟩
  obtain ⟨a1, c1, ks, a2, c2, ys⟩ := z
  simp only [Gz.val] at hz1 hz2 hcp ⊢
  have hba : Below w1.heap.size w1 (w1.alloc (Obj.cells #[Value.slice a1 ks.length c1, Value.slice a2 ys.length c2] 32)) := (Below.refl _ _).alloc (Nat.le_refl _) _
  have X1 := kide (Bz.new w1 #[Value.slice a1 ks.length c1, Value.slice a2 ys.length c2] 32)
  have HZ1 := kide (hz.later hba)
  have HB1 := kide (hb1.trans (hba.mono hb1.size))
  have HCP := kide hcp
  have HMO := kide hmo
  have hgw : w.heap.size ≤ w1.heap.size := hb1.size
  have HZ11 := kide hz1
  clear hba hz hb1 hr hz1 hcp hmo
  go_wp2_with fail
  obtain ⟨G, hG⟩ : ∃ G, w1.heap.size = G := ⟨_, rfl⟩
  simp only [hG] at X1 hgw ⊢
  generalize w1.alloc (Obj.cells #[Value.slice a1 ks.length c1, Value.slice a2 ys.length c2] 32) = w2 at *
  clear hG
  refine (specColour_any ⟨a1, c1, ks, a2, c2, ys⟩ most w2 HZ1.out HMO.out).mono ?_
  rintro e w3 ⟨v3, l3, rfl, -, -, hb3⟩
  have X3 := kide (X1.out.later hb3)
  have HZ3 := kide (HZ1.out.later hb3)
  have HB3 := kide (HB1.out.trans (hb3.mono HB1.out.size))
  have HIM := kide (fun u (hu : Below w3.heap.size w3 u) => implColour_any ⟨a1, c1, ks, a2, c2, ys⟩ most u (HZ3.out.later hu) HCP.out HMO.out)
  simp only [Gz.val] at HIM ⊢
  have x0 := X3.out.cell 0
  have x1 := X3.out.cell 1
  simp at x0 x1
  clear hb3 X1 HZ1 HB1
  obtain ⟨X, hX⟩ : ∃ X, colR ks (ys.map Yg.ct) most = X := ⟨_, rfl⟩
  rw [hX] at HIM
  rw [hX]
  have HX := kide hX
  clear hX
  obtain ⟨Y, P, Q9⟩ := X
  simp only [] at HIM ⊢
  go_wp2_with fail
  refine (HIM.out _ (Below.refl _ _)).mono ?_
  rintro e w4 ⟨v4, l4, rfl, bs4, el4, hb4⟩
  have X4 := kide (X3.out.later hb4)
  have HZ4 := kide (HZ3.out.later hb4)
  have HB4 := kide (HB3.out.trans (hb4.mono HB3.out.size))
  have BS4 := kide bs4
  have EL4 := kide el4
  clear x0 x1 hb4 bs4 el4 HIM X3 HZ3 HB3
  have x0 := X4.out.cell 0
  have x1 := X4.out.cell 1
  simp at x0 x1
  have lx := X4.out.lt
  have hPP : (P != P) = false := by simp
  have hQQ : (Q9 != Q9) = false := by simp
  rcases col_cases HX.out with ⟨mo, rfl, hmo2, hg, h0, rfl, rfl, rfl⟩ | ⟨rfl, hq⟩ | ⟨mo, hg, h2, rfl⟩
  · have hok := okW_colD ks (ys.map Yg.ct) (mo : Int)
    rw [HX.out] at hok
    obtain ⟨av, cv, rfl, hrd⟩ := BS4.out.rd (by rw [EL4.out]; exact hok)
    have hll : l4.length = ks.length := by have := congrArg List.length EL4.out; simpa [wct] using this
    have hco := implCok_any ⟨a1, c1, ks, a2, c2, ys⟩ av cv l4.length l4 w4 HZ4.out hrd rfl
    simp only [Gz.val] at hco
    rw [EL4.out, col_true hg h0, hll] at hco
    have HCO := kide hco
    have hle := src_le (ks := ks) (bs := ys.map Yg.ct) (most := mo)
    clear hco hok hrd
    generalize (srcR ks (ys.map Yg.ct) mo).2.2 = vis at *
    have hvm : (vis : Int) ≤ (mo : Int) := by omega
    rw [hll]
    go_wp2_with fail
    refine HCO.out.mono ?_
    rintro e w5 ⟨rfl, hb5⟩
    have HB5 := kide (HB4.out.trans (hb5.mono HB4.out.size))
    clear hb5 HCO
    go_wp2_with fail
    go_ret
    exact ⟨rfl, HB5.out⟩
  · have hl0 : l4 = [] := by have := EL4.out; simpa using this
    subst hl0
    obtain ⟨av, cv, rfl⟩ := BS4.out.form
    have hq0 : (Q9 == 0) = false := by rcases hq with rfl | rfl <;> rfl
    have hq2 : (Q9 != 2) = true := by rcases hq with rfl | rfl <;> rfl
    go_wp2_with fail
    go_ret
    exact ⟨rfl, HB4.out⟩
  · have hkk : ks.length ≤ 200 ∧ ∀ x ∈ ks, 1 ≤ x ∧ x ≤ 4096 := by
      simp only [graphR, Bool.and_eq_true, decide_eq_true_eq, List.all_eq_true, wOk] at hg
      exact ⟨hg.1.1.1, hg.1.2⟩
    have HKK := kide hkk
    obtain ⟨-, -, h9 | ⟨kb, ko, rfl, hkc⟩⟩ := HZ4.out.1
    · simp only [] at h9; have hz1 := HZ11.out; rw [h9] at hz1; simp at hz1
    simp only [] at hkc
    have HKC := kide hkc
    have HG := kide hg
    obtain ⟨n, hn⟩ : ∃ n, ks.length = n := ⟨_, rfl⟩
    obtain ⟨n2, hn2⟩ : ∃ n2, ys.length = n2 := ⟨_, rfl⟩
    rw [hn] at x0 hz2
    rw [hn2] at x1
    simp only [hn, hn2]
    clear hkk hkc hg
    go_wp2_with fail
    go_loop [11, 12] (fun q i => ∃ k : Nat, k ≤ n ∧ i = .int .i64 (k : Int) ∧ q = .int .i64 ((ks.take k).sum)) (fun _ i => n - (intOf i).toNat)
    case atStart => exact ⟨0, Nat.zero_le _, rfl, rfl⟩
    case round =>
      obtain ⟨k, hk, rfl, rfl⟩ := hrel
      by_cases hlt : k < n
      · have i0 : (k : Int) < (n : Int) := by omega
        have hlk : k < ks.length := by rw [hn]; exact hlt
        have q0 := HKC.out k hlk
        have hb1 := sum_bound HKK.out.2 HKK.out.1 k (by omega)
        have hx1 := HKK.out.2 (ks.getD k 0) (by rw [List.getD, List.getElem?_eq_getElem hlk]; exact List.getElem_mem _)
        have HST := kide (sum_take hlk)
        have hk200 : (k : Int) ≤ 201 := by omega
        generalize (ks.take k).sum = A at *
        generalize ks.getD k 0 = x at *
        go_wp2_with fail
        go_round
        case rel => exact ⟨k + 1, by omega, by go_num, by rw [HST.out]⟩
        case measure => simp [intOf]; omega
      · have e : n = k := by omega
        subst e
        have hS : ks.take n = ks := by rw [List.take_of_length_le (by omega)]
        rw [hS]
        have hsb := sum_bound HKK.out.2 HKK.out.1 n (by omega)
        rw [hS] at hsb
        obtain ⟨S, hSS⟩ : ∃ S, ks.sum = S := ⟨_, rfl⟩
        rw [hSS] at hsb
        rw [hSS]
        have hu : IntKind.u64.wrap S = S := wrap_uL (by omega) (by omega)
        clear x1
        go_wp2_with fail
        by_cases hS8 : S ≤ 8
        · have hz11 := HZ11.out
          rw [hn] at hz11
          obtain ⟨M, hM, hM1, hM2⟩ := pow_T (x := S) (by omega) (by omega)
          have hM8 : M ≤ 256 := pow_eight hM (by omega)
          have HMM := kide hM
          clear hM
          go_loopw [13] (fun q wr => ∃ N : Nat, N ≤ M ∧ q = .int .i64 (N : Int) ∧ Below w4.heap.size w4 wr) (fun q _ => M - (intOf q).toNat)
          case atStart => exact ⟨0, Nat.zero_le _, rfl, Below.refl _ _⟩
          case round =>
            obtain ⟨N, hN, rfl, hbn⟩ := hrel
            have HBN := kide hbn
            clear hbn
            by_cases hNM : N < M
            · have j0 : (N : Int) < IntKind.i64.wrap (2 ^ S.toNat) := by rw [hM2]; omega
              go_wp2_with fail
              have hE : Bz (wr.alloc (.cells #[] 48)) wr.heap.size #[] 48 := Bz.new _ _ _
              have hbe : Below w4.heap.size w4 (wr.alloc (.cells #[] 48)) := HBN.out.trans (((Below.refl wr.heap.size wr).alloc (Nat.le_refl _) _).mono HBN.out.size)
              have HT0 : Hid (Tw (wr.alloc (.cells #[] 48)) w4.heap.size (.slice (some ⟨wr.heap.size, 0, none⟩) 0 0) [] ks (fun _ => 0) 0) := ⟨bs_empty hE HBN.out.size, rfl⟩
              have HBE := kide hbe
              clear hE hbe
              go_loopw [14, 15, 16] (fun l tv i wq => ∃ (k L : Nat) (rows : List Bw) (τ : Nat → Int), k ≤ n ∧ i = .int .i64 (k : Int) ∧ l = .int .i64 (L : Int) ∧ L ≤ 256 ∧ Tw wq w4.heap.size tv rows ks τ k ∧ (∀ j, j < k → 0 ≤ τ j ∧ (τ j).toNat < 2 ^ (ks.getD j 0).toNat) ∧ Below w4.heap.size w4 wq) (fun _ _ i _ => n - (intOf i).toNat)
              case atStart => exact ⟨0, N, [], _, Nat.zero_le _, rfl, rfl, by omega, HT0.out, fun j hj => by omega, HBE.out⟩
              case round =>
                obtain ⟨k, Lf, rows, τ, hk, rfl, rfl, hL, htw, hτ, hbq⟩ := hrel
                have HTW := kide htw
                have HTY := kide hτ
                have HBQ := kide hbq
                have X9 := X4.out.later hbq
                have z0 := X9.cell 0
                have z1 := X9.cell 1
                simp [hn, hn2] at z0 z1
                have lz := X9.lt
                clear htw hτ hbq X9
                by_cases hlt : k < n
                · have i0 : (k : Int) < (n : Int) := by omega
                  have hlk : k < ks.length := by rw [hn]; exact hlt
                  have q0 := (HBQ.out.cell (p := ⟨kb, ko + k, none⟩) (block_lt_of_cell (HKC.out k hlk))).trans (HKC.out k hlk)
                  have hx1 := HKK.out.2 (ks.getD k 0) (by rw [List.getD, List.getElem?_eq_getElem hlk]; exact List.getElem_mem _)
                  have hx8 : ks.getD k 0 ≤ 8 := by
                    have h9 := sum_part HKK.out.2 HKK.out.1 hlk n hlt (by omega)
                    rw [hS, hSS] at h9
                    omega
                  obtain ⟨Tk, hTk, hTk1, hTk2⟩ := pow_T (x := ks.getD k 0) (by omega) (by omega)
                  obtain ⟨x, hx⟩ : ∃ x, ks.getD k 0 = x := ⟨_, rfl⟩
                  rw [hx] at q0 hx1 hx8 hTk hTk2
                  have hux : IntKind.u64.wrap x = x := wrap_uL (by omega) (by omega)
                  go_wp2_with fail
                  first | rw [hTk2] | rw [wrap_shS hTk.symm hTk1] | skip
                  have hTpos : 0 < Tk := by rw [← hTk]; exact Nat.two_pow_pos _
                  have hT0 : ((Tk : Int) == 0) = false := by simp; omega
                  have hT1 : ¬ Tk = 0 := by omega
                  have hmod : ((Lf : Int)).tmod (Tk : Int) = ((Lf % Tk : Nat) : Int) := by rw [Int.tmod_eq_emod_of_nonneg (Int.natCast_nonneg _)]; push_cast; rfl
                  have hdiv : ((Lf : Int)).tdiv (Tk : Int) = ((Lf / Tk : Nat) : Int) := by rw [Int.tdiv_eq_ediv_of_nonneg (Int.natCast_nonneg _)]; push_cast; rfl
                  have hy2 : Lf % Tk < 2 ^ x.toNat := by rw [hTk]; exact Nat.mod_lt _ hTpos
                  have hy3 : (((Lf % Tk : Nat) : Int)).toNat < 2 ^ x.toNat := by rw [Int.toNat_natCast]; exact hy2
                  have hof : ofR x (((Lf : Int)).tmod (Tk : Int)) = (x, numW x (((Lf : Int)).tmod (Tk : Int)), true) := by
                    rw [hmod]
                    exact of_in hx1.1 hx1.2 (Int.natCast_nonneg _) hy3
                  have hb64 : ((Lf : Int)).tmod (Tk : Int) ≤ 9223372036854775807 := by
                    rw [hmod]
                    have := Nat.mod_lt Lf hTpos
                    omega
                  have hof2 := fun u => specOf_any x (((Lf : Int)).tmod (Tk : Int)) u hb64
                  rw [hof] at hof2
                  have HOF := kide hof2
                  have HMD := kide (And.intro hmod hdiv)
                  have HY3 := kide hy3
                  have lq := block_lt_of_cell q0
                  simp only [] at lq
                  clear hof hof2 hmod hdiv hy2 hy3 hb64
                  have neG : ¬ wr.heap.size = G := by omega
                  have neK : ¬ wr.heap.size = kb := by omega
                  have hba : Below wr.heap.size wr (wr.alloc (Obj.cells #[Value.int .i64 0, Value.slice none 0 0] 48)) := (Below.refl _ _).alloc (Nat.le_refl _) _
                  have za := (kcell hba _ _ lz).trans z0
                  have qa := (kcell hba _ _ lq).trans q0
                  have lza := Nat.lt_of_lt_of_le lz hba.size
                  have lqa := Nat.lt_of_lt_of_le lq hba.size
                  have BA := kide (Bz.new wr #[Value.int .i64 0, Value.slice none 0 0] 48)
                  have HBA := kide hba
                  clear hba
                  go_region_held3 (fun u => u.cell? ⟨G, 0, none⟩ = some (Value.slice (some ⟨kb, ko, none⟩) n c1) ∧ u.cell? ⟨kb, ko + k, none⟩ = some (Value.int .i64 x)) (first | (simp [*]; done) | exact ⟨(kcell ((Below.refl _ _).drew) _ _ lz).trans z0, (kcell ((Below.refl _ _).drew) _ _ lq).trans q0⟩ | exact ⟨(kcell ((Below.refl _ _).alloc (Nat.le_refl _) _) _ _ lz6).trans y0, (kcell ((Below.refl _ _).alloc (Nat.le_refl _) _) _ _ lq6).trans yq⟩ | exact ⟨(World.cell?_of_block (a := ⟨G, 0, none⟩) (by rw [heap_setCell_other _ _ _ _ (by simp; omega), heap_setCell_other _ _ _ _ (by simp; omega)])).trans y0, (World.cell?_of_block (a := ⟨kb, ko + k, none⟩) (by rw [heap_setCell_other _ _ _ _ (by simp; omega), heap_setCell_other _ _ _ _ (by simp; omega)])).trans yq⟩)
                    (first
                      | (go_at_call 23; refine Calls.mono (HOF.out _) ?_; rintro e w6 ⟨aw, cw, rfl, hfr, hb6⟩; simp only [] at hfr ⊢; replace hb6 := kundrew hb6; have y0 := (kcell hb6 _ _ lz).trans z0; have yq := (kcell hb6 _ _ lq).trans q0; have lz6 := Nat.lt_of_lt_of_le lz hb6.size; have lq6 := Nat.lt_of_lt_of_le lq hb6.size; have HB6 := kide hb6; have HFR := kide hfr; clear hb6 hfr)
                      | (go_at_call 23; refine Calls.mono (HOF.out _) ?_; rintro e w6 ⟨aw, cw, rfl, hfr, hb6⟩; simp only [] at hfr ⊢; replace hb6 := kundrew hb6; have y0 := (kcell hb6 _ _ lza).trans za; have yq := (kcell hb6 _ _ lqa).trans qa; have lz6 := Nat.lt_of_lt_of_le lza hb6.size; have lq6 := Nat.lt_of_lt_of_le lqa hb6.size; have XB6 := BA.out.later hb6; have b0 := XB6.cell 0; have b1 := XB6.cell 1; have bf0 := XB6.froz 0; have bf1 := XB6.froz 1; simp at b0 b1; have HB6 := kide hb6; have HFR := kide hfr; clear hb6 hfr))
                  · obtain ⟨Y9, hY9⟩ : ∃ y : Int, ((Lf : Int)).tmod (Tk : Int) = y := ⟨_, rfl⟩
                    simp only [hY9] at HFR HMD ⊢
                    have HY9 := kide hY9
                    clear hY9
                    have N6 : Nw w6 wr.heap.size aw (numW x Y9) := by
                      rcases HFR.out with ⟨h1, h2⟩ | ⟨gg, h1, h2, h3⟩
                      · rw [h1, h2]; exact .inl ⟨rfl, fun x h => by cases h⟩
                      · rw [h1]; exact h3.nw h2
                    have hbx : Below w6.heap.size w6 (w6.alloc (Obj.cells #[Value.int .i64 x, Value.slice aw (numW x Y9).length cw] 48)) := (Below.refl _ _).alloc (Nat.le_refl _) _
                    have N7 := kide (N6.later hbx)
                    have XW := kide (Bz.new w6 #[Value.int .i64 x, Value.slice aw (numW x Y9).length cw] 48)
                    have HB7 := kide (HB6.out.trans (hbx.mono HB6.out.size))
                    clear N6 hbx y0 yq lz6 lq6
                    obtain ⟨Bx, hBx⟩ : ∃ Bx, w6.heap.size = Bx := ⟨_, rfl⟩
                    rw [hBx] at XW
                    simp only [hBx]
                    generalize w6.alloc (Obj.cells #[Value.int .i64 x, Value.slice aw (numW x Y9).length cw] 48) = w7 at *
                    clear hBx
                    have c0 := XW.out.cell 0
                    have c1 := XW.out.cell 1
                    simp at c0 c1
                    have lw7 := XW.out.lt
                    have hba2 : Below w7.heap.size w7 (w7.alloc (Obj.cells #[Value.int .i64 x, Value.slice aw (numW x Y9).length cw] 48)) := (Below.refl _ _).alloc (Nat.le_refl _) _
                    have DJ := kide (HTW.out.bs.dj.snoc (x := ⟨x, aw, cw, numW x Y9⟩) HTW.out.bs.nw (fun p hp => (nw_lt N7.out hp).1))
                    have T8 := ((HTW.out.later HB7.out).later hba2).upd Y9
                    have N8 := (N7.out.mono HBQ.out.size).later hba2
                    have B8 := (HBQ.out.trans (HB7.out.mono HBQ.out.size)).trans (hba2.mono (HBQ.out.trans (HB7.out.mono HBQ.out.size)).size)
                    have hul : rows.length ≤ 1073741824 := by rw [HTW.out.len]; omega
                    have HDV : Hid (wrap64 ((Lf : Int) / (Tk : Int)) = ((Lf / Tk : Nat) : Int)) := wrap_div (by omega)
                    have HL2 : Hid (Lf / Tk ≤ 256) := Nat.le_trans (Nat.div_le_self _ _) hL
                    clear hba2
                    go_wp2_with (at_builtin; refine wpList_appB2 (y := ⟨x, aw, cw, numW x Y9⟩) rfl _ _ rfl w4.heap.size u15 rows rfl T8.bs.row _ 1 rfl (by simp) (by simp) hul B8.size ?_)
                    intro g5 cap5 w9 hos hg5
                    have B9 := kide (B8.grown hg5 B8.size (fun b hb => (T8.bs.row.lt hb).1))
                    have T9 := kide (T8.push hos hg5 N8 DJ.out (by rw [wct_snoc, upd_same, hx]; rfl))
                    clear B8 T8 N8 hos hg5 hul c0 c1 lw7
                    go_wp2_with fail
                    go_roundw
                    case rel => exact ⟨k + 1, Lf / Tk, _, upd τ k Y9, by omega, by go_num, by rw [HDV.out], HL2.out, by simpa using T9.out, upd_range HTY.out (by rw [HMD.out.1]; exact ⟨Int.natCast_nonneg _, by rw [hx]; exact HY3.out⟩), B9.out⟩
                    case measure => simp [intOf]; omega
                  · obtain ⟨Y9, hY9⟩ : ∃ y : Int, ((Lf : Int)).tmod (Tk : Int) = y := ⟨_, rfl⟩
                    simp only [hY9] at HFR HMD ⊢
                    have HY9 := kide hY9
                    clear hY9
                    have N6 : Nw w6 (wr.alloc (Obj.cells #[Value.int .i64 0, Value.slice none 0 0] 48)).heap.size aw (numW x Y9) := by
                      rcases HFR.out with ⟨h1, h2⟩ | ⟨gg, h1, h2, h3⟩
                      · rw [h1, h2]; exact .inl ⟨rfl, fun x h => by cases h⟩
                      · rw [h1]; exact h3.nw h2
                    have XB6 := BA.out.later HB6.out
                    have hw6 := HBA.out.trans (HB6.out.mono HBA.out.size)
                    have N7 := kide (nw_set (nw_set (N6.mono HBA.out.size) XB6 (by decide) 0 (.int .i64 x)) (XB6.set 0 (.int .i64 x)) (by decide) 1 (.slice aw (numW x Y9).length cw))
                    have XW := kide ((XB6.set 0 (.int .i64 x)).set 1 (.slice aw (numW x Y9).length cw))
                    have HB7 := kide ((hw6.setCell (p := ⟨wr.heap.size, 0, none⟩) (Nat.le_refl _) (.int .i64 x)).setCell (p := ⟨wr.heap.size, 1, none⟩) (Nat.le_refl _) (.slice aw (numW x Y9).length cw))
                    clear N6 XB6 hw6 y0 yq lz6 lq6
                    generalize (w6.setCell ⟨wr.heap.size, 0, none⟩ (.int .i64 x)).setCell ⟨wr.heap.size, 1, none⟩ (.slice aw (numW x Y9).length cw) = w7 at *
                    obtain ⟨Bx, hBx⟩ : ∃ Bx, wr.heap.size = Bx := ⟨_, rfl⟩
                    rw [hBx] at XW
                    simp only [hBx]
                    have c0 := XW.out.cell 0
                    have c1 := XW.out.cell 1
                    simp at c0 c1
                    have lw7 := XW.out.lt
                    have hba2 : Below w7.heap.size w7 (w7.alloc (Obj.cells #[Value.int .i64 x, Value.slice aw (numW x Y9).length cw] 48)) := (Below.refl _ _).alloc (Nat.le_refl _) _
                    have DJ := kide (HTW.out.bs.dj.snoc (x := ⟨x, aw, cw, numW x Y9⟩) HTW.out.bs.nw (fun p hp => (nw_lt N7.out hp).1))
                    have T8 := ((HTW.out.later HB7.out).later hba2).upd Y9
                    have N8 := (N7.out.mono HBQ.out.size).later hba2
                    have B8 := (HBQ.out.trans (HB7.out.mono HBQ.out.size)).trans (hba2.mono (HBQ.out.trans (HB7.out.mono HBQ.out.size)).size)
                    have hul : rows.length ≤ 1073741824 := by rw [HTW.out.len]; omega
                    have HDV : Hid (wrap64 ((Lf : Int) / (Tk : Int)) = ((Lf / Tk : Nat) : Int)) := wrap_div (by omega)
                    have HL2 : Hid (Lf / Tk ≤ 256) := Nat.le_trans (Nat.div_le_self _ _) hL
                    clear hba2
                    go_wp2_with (at_builtin; refine wpList_appB2 (y := ⟨x, aw, cw, numW x Y9⟩) rfl _ _ rfl w4.heap.size u15 rows rfl T8.bs.row _ 1 rfl (by simp) (by simp) hul B8.size ?_)
                    intro g5 cap5 w9 hos hg5
                    have B9 := kide (B8.grown hg5 B8.size (fun b hb => (T8.bs.row.lt hb).1))
                    have T9 := kide (T8.push hos hg5 N8 DJ.out (by rw [wct_snoc, upd_same, hx]; rfl))
                    clear B8 T8 N8 hos hg5 hul c0 c1 lw7
                    go_wp2_with fail
                    go_roundw
                    case rel => exact ⟨k + 1, Lf / Tk, _, upd τ k Y9, by omega, by go_num, by rw [HDV.out], HL2.out, by simpa using T9.out, upd_range HTY.out (by rw [HMD.out.1]; exact ⟨Int.natCast_nonneg _, by rw [hx]; exact HY3.out⟩), B9.out⟩
                    case measure => simp [intOf]; omega
                · have e : n = k := by omega
                  subst e
                  have hll : rows.length = n := HTW.out.len
                  have hok : okW (rows.map Bw.ct) := by
                    rw [HTW.out.ct]
                    refine ⟨by unfold wct; simp; omega, fun y hy => ?_⟩
                    obtain ⟨i, hi, rfl⟩ := List.mem_map.1 hy
                    have hi9 := List.mem_range.1 hi
                    have hV := HKK.out.2 (ks.getD i 0) (by rw [List.getD, List.getElem?_eq_getElem (by omega)]; exact List.getElem_mem _)
                    exact ⟨by unfold in64; simp only []; omega, (numW_ok _ _).1, (numW_ok _ _).2⟩
                  obtain ⟨av, cv, hav, hrd⟩ := HTW.out.bs.rd hok
                  subst hav
                  have hco := implCok_any ⟨some ⟨kb, ko, none⟩, c1, ks, a2, c2, ys⟩ av cv rows.length rows wr (HZ4.out.later HBQ.out) hrd rfl
                  simp only [Gz.val] at hco
                  rw [HTW.out.ct, show wct ks τ n = wct ks τ ks.length by rw [hn], col_false HG.out h2 (fun i hi => HTY.out i (by omega)), hll, hn, hn2] at hco
                  have HCO := kide hco
                  rw [hll]
                  clear hco hok hrd
                  go_wp2_with fail
                  refine HCO.out.mono ?_
                  rintro e w5 ⟨rfl, hb5⟩
                  have HB5 := kide (HBQ.out.trans (hb5.mono HBQ.out.size))
                  clear hb5 HCO
                  go_wp2_with fail
                  go_roundw
                  case rel => exact ⟨N + 1, by omega, by go_num, HB5.out⟩
                  case measure => simp [intOf]; omega
            · have e : N = M := by omega
              have j0 : ¬ (N : Int) < IntKind.i64.wrap (2 ^ S.toNat) := by rw [hM2]; omega
              go_wp2_with fail
              go_ret
              exact ⟨rfl, HB4.out.trans (HBN.out.mono HB4.out.size)⟩
        · obtain ⟨T, hT⟩ := shl_big S (by omega)
          by_cases hT0 : (0 : Int) < T
          · go_loop [13] (fun q => q = .int .i64 0) (fun _ => 0)
            case atStart => rfl
            case round =>
              obtain rfl := hrel
              go_wp2_with fail
              go_ret
              exact ⟨rfl, HB4.out⟩
          · go_loop [13] (fun q => q = .int .i64 0) (fun _ => 0)
            case atStart => rfl
            case round =>
              obtain rfl := hrel
              go_wp2_with fail
              go_ret
              exact ⟨rfl, HB4.out⟩

end Go.Proofs.Ythoiajpbpoglfaa
