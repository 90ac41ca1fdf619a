/- Plain facts on words as lists of bits: parts joined, turned and back, repeated, widened, the next one, their ones. No program in sight. -/
import Derived.Test.YtobkemdffhhlfaaT2
import Derived.Test.YtobkemdffhhlfaaC1
import Derived.Test.YtobkemdffhhlfaaW
namespace Go.Proofs.Ytobkemdffhhlfaa
set_option linter.unusedVariables false
set_option linter.unusedSimpArgs false
open Go.RowKit

theorem bits_getD (xs : List Nat) (V i : Nat) (h : i < V) : (bitsTo xs V).getD i 0 = (tb xs i).toNat := by
  simp [bitsTo, List.getD, h]

theorem unpack {V : Nat} {xs : List Nat} (hok : rightB V xs = true) (hx : ∀ x ∈ xs, x < 18446744073709551616) : pack (bitsTo xs V) = xs := by
  have h := right_W hok
  refine (eq_pack (bitsTo_le xs V) (by rw [bitsTo_len]; omega) hx fun i hi => ?_).symm
  by_cases hi' : i < V
  · rw [bits_getD xs V i hi']
    cases tb xs i <;> rfl
  · rw [tb_out hok i (by omega)]
    simp [List.getD, List.getElem?_eq_none (show (bitsTo xs V).length ≤ i by rw [bitsTo_len]; omega)]

theorem ones_sum (xs : List Nat) (k : Nat) : ones xs k = (bitsTo xs k).sum := by
  induction k with
  | zero => rfl
  | succ k ih => rw [bitsTo_succ, List.sum_append, ← ih]; simp [ones, cnt]

theorem onesI_pack (l : List Nat) (hl : ∀ x ∈ l, x ≤ 1) (h1 : 1 ≤ l.length) (h2 : l.length ≤ 4096) : onesI (l.length : Int) (pack l) = (l.sum : Nat) := by
  rw [onesI, if_pos (pack_right l hl h1 h2), Int.toNat_natCast, ones_sum, bitsTo_pack l hl]

theorem onesI_right {V : Nat} {xs : List Nat} (hok : rightB V xs = true) : onesI V xs = ((bitsTo xs V).sum : Nat) := by
  rw [onesI, if_pos hok, Int.toNat_natCast, ones_sum]

/-- The parts at a place p. -/
theorem cut_high {V : Nat} {xs : List Nat} (hok : rightB V xs = true) (p : Nat) (h0 : 0 < p) (h1 : p < V) : partR V xs ((V : Int) - 1) p = (((V - p : Nat) : Int), pack ((bitsTo xs V).drop p), true) := by
  have h := part_high hok (V - p) (by omega) (by omega)
  rw [show (V : Int) - ((V - p : Nat) : Int) = (p : Int) by omega, show V - (V - p) = p by omega] at h
  exact h

theorem cut_low {V : Nat} {xs : List Nat} (hok : rightB V xs = true) (p : Nat) (h0 : 0 < p) (h1 : p < V) : partR V xs ((p : Int) - 1) 0 = ((p : Int), pack ((bitsTo xs V).take p), true) := by
  have h := part_low hok (V - p) (by omega)
  rw [show (V : Int) - 1 - ((V - p : Nat) : Int) = (p : Int) - 1 by omega, show V - (V - p) = p by omega] at h
  exact h

theorem cut_lens (xs : List Nat) {V : Nat} (p : Nat) (h1 : p < V) : ((bitsTo xs V).take p).length = p ∧ ((bitsTo xs V).drop p).length = V - p := by
  rw [List.length_take, List.length_drop, bitsTo_len]; omega

theorem cut_join {V : Nat} {xs : List Nat} (hok : rightB V xs = true) (hx : ∀ x ∈ xs, x < 18446744073709551616) (p : Nat) (h0 : 0 < p) (h1 : p < V) :
    joinR ((V - p : Nat) : Int) (pack ((bitsTo xs V).drop p)) (p : Int) (pack ((bitsTo xs V).take p)) = ((V : Int), xs, true) := by
  have hV := right_W hok
  have hle := bitsTo_le xs V
  have hl := bitsTo_len xs V
  have ha : ∀ x ∈ (bitsTo xs V).take p, x ≤ 1 := fun x hx => hle x (List.mem_of_mem_take hx)
  have hb : ∀ x ∈ (bitsTo xs V).drop p, x ≤ 1 := fun x hx => hle x (List.mem_of_mem_drop hx)
  obtain ⟨hal, hbl⟩ := cut_lens xs p h1
  have ra := pack_right _ ha (by omega) (by omega)
  have rb := pack_right _ hb (by omega) (by omega)
  rw [hal] at ra
  rw [hbl] at rb
  have ea := bitsTo_pack _ ha
  have eb := bitsTo_pack _ hb
  rw [hal] at ea
  rw [hbl] at eb
  rw [joinR, if_pos ⟨rb, ra⟩, joinL, Int.toNat_natCast, Int.toNat_natCast, ea, eb, List.take_append_drop, fromR, hl, if_pos ⟨by omega, by omega⟩, unpack hok hx]

theorem cut_n1 {V : Nat} {xs : List Nat} (hok : rightB V xs = true) (p : Nat) (h0 : 0 < p) (h1 : p < V) : onesI ((V - p : Nat) : Int) (pack ((bitsTo xs V).drop p)) = (((bitsTo xs V).drop p).sum : Nat) := by
  have hV := right_W hok
  obtain ⟨hal, hbl⟩ := cut_lens xs p h1
  have b := onesI_pack ((bitsTo xs V).drop p) (fun x hx => bitsTo_le xs V x (List.mem_of_mem_drop hx)) (by omega) (by omega)
  rwa [hbl] at b

theorem cut_n2 {V : Nat} {xs : List Nat} (hok : rightB V xs = true) (p : Nat) (h0 : 0 < p) (h1 : p < V) : onesI (p : Int) (pack ((bitsTo xs V).take p)) = (((bitsTo xs V).take p).sum : Nat) := by
  have hV := right_W hok
  obtain ⟨hal, hbl⟩ := cut_lens xs p h1
  have b := onesI_pack ((bitsTo xs V).take p) (fun x hx => bitsTo_le xs V x (List.mem_of_mem_take hx)) (by omega) (by omega)
  rwa [hal] at b

theorem cut_n3 {V : Nat} {xs : List Nat} (hok : rightB V xs = true) (p : Nat) : onesI V xs = (((bitsTo xs V).drop p).sum : Nat) + (((bitsTo xs V).take p).sum : Nat) := by
  rw [onesI_right hok]
  have e : ((bitsTo xs V).take p).sum + ((bitsTo xs V).drop p).sum = (bitsTo xs V).sum := by rw [← List.sum_append, List.take_append_drop]
  omega

theorem ones_small {V : Nat} {xs : List Nat} (hok : rightB V xs = true) : (bitsTo xs V).sum ≤ 4096 := by
  have hV := right_W hok
  rw [← ones_sum]
  have := ones_le xs V
  omega

theorem cut_n4 {V : Nat} {xs : List Nat} (hok : rightB V xs = true) (p : Nat) : ((bitsTo xs V).drop p).sum + ((bitsTo xs V).take p).sum ≤ 4096 := by
  have h := ones_small hok
  have e : ((bitsTo xs V).take p).sum + ((bitsTo xs V).drop p).sum = (bitsTo xs V).sum := by rw [← List.sum_append, List.take_append_drop]
  omega

theorem cut_facts {V : Nat} {xs : List Nat} (hok : rightB V xs = true) (hx : ∀ x ∈ xs, x < 18446744073709551616) (p : Nat) (h0 : 0 < p) (h1 : p < V) :
    ∃ hs ls : List Nat, hs.length ≤ 64 ∧ ls.length ≤ 64 ∧ (∀ x ∈ hs, x < 18446744073709551616) ∧ (∀ x ∈ ls, x < 18446744073709551616) ∧
      partR V xs ((V : Int) - 1) p = (((V - p : Nat) : Int), hs, true) ∧ partR V xs ((p : Int) - 1) 0 = ((p : Int), ls, true) ∧
      joinR ((V - p : Nat) : Int) hs (p : Int) ls = ((V : Int), xs, true) ∧ ∃ n1 n2 : Nat, onesI ((V - p : Nat) : Int) hs = n1 ∧ onesI (p : Int) ls = n2 ∧ onesI V xs = (n1 : Int) + n2 ∧ n1 + n2 ≤ 4096 := by
  have hV := right_W hok
  obtain ⟨hal, hbl⟩ := cut_lens xs p h1
  exact ⟨_, _, by rw [pack_len, hbl]; omega, by rw [pack_len, hal]; omega, pack_lt _, pack_lt _, cut_high hok p h0 h1, cut_low hok p h0 h1, cut_join hok hx p h0 h1, _, _, cut_n1 hok p h0 h1, cut_n2 hok p h0 h1, cut_n3 hok p, cut_n4 hok p⟩

/-- Turned, and turned by what lacks to the width: what it was. -/
theorem turnL_back (L : List Nat) (r : Nat) (h : r < L.length) : turnL (turnL L r) ((L.length - r) % L.length) = L := by
  by_cases h0 : r = 0
  · subst h0
    simp [turnL]
  · rw [Nat.mod_eq_of_lt (by omega)]
    unfold turnL
    have e : (L.drop (L.length - r)).length = r := by rw [List.length_drop]; omega
    rw [show (L.drop (L.length - r) ++ L.take (L.length - r)).length = L.length by simp]
    rw [show L.length - (L.length - r) = (L.drop (L.length - r)).length by rw [e]; omega]
    rw [List.drop_left, List.take_left, List.take_append_drop]

theorem turnL_sum (L : List Nat) (r : Nat) : (turnL L r).sum = L.sum := by
  unfold turnL
  rw [List.sum_append, Nat.add_comm, ← List.sum_append, List.take_append_drop]

theorem turnL_le {L : List Nat} (h : ∀ x ∈ L, x ≤ 1) (r : Nat) : ∀ x ∈ turnL L r, x ≤ 1 := fun x hx => h x (turnL_mem L r x hx)

theorem turn_one {V : Nat} {xs : List Nat} (hok : rightB V xs = true) (n : Nat) (hn : n ≤ 4096) : turnR V xs n = ((V : Int), pack (turnL (bitsTo xs V) (n % V)), true) := by
  rw [turnR, if_pos ⟨hok, by omega, by omega⟩, Int.toNat_natCast, Int.toNat_natCast]

theorem turn_right {V : Nat} {xs : List Nat} (hok : rightB V xs = true) (r : Nat) : rightB V (pack (turnL (bitsTo xs V) r)) = true := by
  have hV := right_W hok
  have h := pack_right (turnL (bitsTo xs V) r) (turnL_le (bitsTo_le xs V) r) (by rw [turnL_len, bitsTo_len]; omega) (by rw [turnL_len, bitsTo_len]; omega)
  rwa [turnL_len, bitsTo_len] at h

theorem turn_back {V : Nat} {xs : List Nat} (hok : rightB V xs = true) (hx : ∀ x ∈ xs, x < 18446744073709551616) (n : Nat) :
    turnR V (pack (turnL (bitsTo xs V) (n % V))) (((V - n % V) % V : Nat) : Int) = ((V : Int), xs, true) := by
  have hV := right_W hok
  have hm : n % V < V := Nat.mod_lt _ (by omega)
  have hm2 : (V - n % V) % V < V := Nat.mod_lt _ (by omega)
  rw [turn_one (turn_right hok _) _ (by omega)]
  have e := bitsTo_pack (turnL (bitsTo xs V) (n % V)) (turnL_le (bitsTo_le xs V) _)
  rw [turnL_len, bitsTo_len] at e
  have b := turnL_back (bitsTo xs V) (n % V) (by rw [bitsTo_len]; exact hm)
  rw [bitsTo_len] at b
  rw [e, Nat.mod_mod, b, unpack hok hx]

theorem turn_ones {V : Nat} {xs : List Nat} (hok : rightB V xs = true) (r : Nat) : onesI V (pack (turnL (bitsTo xs V) r)) = onesI V xs := by
  rw [onesI_right (turn_right hok r), onesI_right hok]
  have e := bitsTo_pack (turnL (bitsTo xs V) r) (turnL_le (bitsTo_le xs V) _)
  rw [turnL_len, bitsTo_len] at e
  rw [e, turnL_sum]

theorem turn_facts {V : Nat} {xs : List Nat} (hok : rightB V xs = true) (hx : ∀ x ∈ xs, x < 18446744073709551616) (n : Nat) (hn : n ≤ 4096) :
    ∃ (cs : List Nat) (k : Nat), cs.length ≤ 64 ∧ (∀ x ∈ cs, x < 18446744073709551616) ∧ turnR V xs n = ((V : Int), cs, true) ∧ turnR V cs (((V - n % V) % V : Nat) : Int) = ((V : Int), xs, true) ∧
      onesI V xs = k ∧ onesI V cs = k ∧ k ≤ 4096 := by
  have hV := right_W hok
  refine ⟨_, (bitsTo xs V).sum, ?_, pack_lt _, turn_one hok n hn, turn_back hok hx n, onesI_right hok, ?_, ones_small hok⟩
  · rw [pack_len, turnL_len, bitsTo_len]; omega
  · rw [turn_ones hok, onesI_right hok]

theorem turn_no {W : Int} {xs : List Nat} {n : Int} (h : ¬ (rightB W xs = true ∧ 0 ≤ n ∧ n ≤ 4096)) : turnR W xs n = noR := by rw [turnR, if_neg h]

theorem rep_facts {V : Nat} {xs : List Nat} (hok : rightB V xs = true) (h3 : 3 * V ≤ 4096) (k : Nat) (hk : onesI V xs = k) :
    ∃ ys : List Nat, ys.length ≤ 64 ∧ (∀ x ∈ ys, x < 18446744073709551616) ∧ repR V xs 3 = ((V : Int) * 3, ys, true) ∧ onesI ((V : Int) * 3) ys = 3 * (k : Int) := by
  have hV := right_W hok
  have e : repR V xs 3 = ((V : Int) * 3, pack (repList (bitsTo xs V) 3), true) := by
    rw [repR, if_pos ⟨hok, by omega, by omega, by omega⟩]
    rfl
  have hl : (repList (bitsTo xs V) 3).length = 3 * V := by rw [repList_len, bitsTo_len]
  refine ⟨_, by rw [pack_len, hl]; omega, pack_lt _, e, ?_⟩
  have hle : ∀ x ∈ repList (bitsTo xs V) 3, x ≤ 1 := fun x hx => by
    simp [repList, List.replicate] at hx
    exact bitsTo_le xs V x hx
  have h := onesI_pack (repList (bitsTo xs V) 3) hle (by omega) (by omega)
  rw [hl] at h
  rw [onesI_right hok] at hk
  rw [show ((V : Int) * 3) = ((3 * V : Nat) : Int) by omega, h]
  have e : (repList (bitsTo xs V) 3).sum = 3 * (bitsTo xs V).sum := by
    simp [repList, List.replicate]; omega
  omega

theorem wid_facts {V : Nat} {xs : List Nat} (hok : rightB V xs = true) (h1 : V < 4096) (k : Nat) (hk : onesI V xs = k) :
    ∃ ys : List Nat, ys.length ≤ 64 ∧ (∀ x ∈ ys, x < 18446744073709551616) ∧ widR V xs 1 false = ((V : Int) + 1, ys, true) ∧ onesI ((V : Int) + 1) ys = (k : Int) := by
  have hV := right_W hok
  have e : widR V xs 1 false = ((V : Int) + 1, pack (bitsTo xs V ++ [0]), true) := by
    rw [widR, if_pos ⟨hok, by omega, by omega, by omega⟩]
    rfl
  have hl : (bitsTo xs V ++ [0]).length = V + 1 := by simp [bitsTo_len]
  have hle : ∀ x ∈ bitsTo xs V ++ [0], x ≤ 1 := fun x hx => by
    rcases List.mem_append.1 hx with h | h
    · exact bitsTo_le xs V x h
    · simp at h; omega
  have h := onesI_pack _ hle (by omega) (by omega)
  rw [hl] at h
  refine ⟨_, by rw [pack_len, hl]; omega, pack_lt _, e, ?_⟩
  rw [show ((V : Int) + 1) = ((V + 1 : Nat) : Int) by omega, h]
  rw [onesI_right hok] at hk
  simpa using hk

theorem rep_three {V : Nat} {xs : List Nat} (hok : rightB V xs = true) (h3 : 3 * V ≤ 4096) : ∃ ys, repR V xs 3 = ((V : Int) * 3, ys, true) ∧ onesI ((V : Int) * 3) ys = 3 * onesI V xs := by
  have hV := right_W hok
  refine ⟨_, by rw [repR, if_pos ⟨hok, by omega, by omega, by omega⟩], ?_⟩
  rw [Int.toNat_natCast]
  have hl : (repList (bitsTo xs V) 3).length = 3 * V := by rw [repList_len, bitsTo_len]
  have hle : ∀ x ∈ repList (bitsTo xs V) 3, x ≤ 1 := fun x hx => by
    simp [repList, List.replicate] at hx
    exact bitsTo_le xs V x hx
  have h := onesI_pack (repList (bitsTo xs V) 3) hle (by omega) (by omega)
  rw [hl] at h
  rw [show ((V : Int) * 3) = ((3 * V : Nat) : Int) by omega]
  rw [show Int.toNat 3 = 3 from rfl, h, onesI_right hok]
  have e : (repList (bitsTo xs V) 3).sum = 3 * (bitsTo xs V).sum := by
    simp [repList, List.replicate]; omega
  rw [e]; omega

theorem wid_one {V : Nat} {xs : List Nat} (hok : rightB V xs = true) (h : V + 1 ≤ 4096) : ∃ ys, widR V xs 1 false = ((V : Int) + 1, ys, true) ∧ onesI ((V : Int) + 1) ys = onesI V xs := by
  have hV := right_W hok
  refine ⟨_, by rw [widR, if_pos ⟨hok, by omega, by omega, by omega⟩], ?_⟩
  have et : topOf (V : Int).toNat xs false = 0 := by simp [topOf]
  rw [et, Int.toNat_natCast, show Int.toNat 1 = 1 from rfl]
  have hl : (bitsTo xs V ++ List.replicate 1 0).length = V + 1 := by simp [bitsTo_len]
  have hle : ∀ x ∈ bitsTo xs V ++ List.replicate 1 0, x ≤ 1 := fun x hx => by
    rcases List.mem_append.1 hx with h | h
    · exact bitsTo_le xs V x h
    · simp at h; omega
  have h := onesI_pack _ hle (by omega) (by omega)
  rw [hl] at h
  rw [show ((V : Int) + 1) = ((V + 1 : Nat) : Int) by omega, h, onesI_right hok]
  simp

theorem cmpB_flip (xs ys : List Nat) (k : Nat) : cmpB ys xs k = - cmpB xs ys k := by
  induction k with
  | zero => rfl
  | succ k ih =>
    rw [cmpB, cmpB, ih]
    by_cases h1 : (tb xs k).toNat < (tb ys k).toNat
    · rw [if_pos h1, if_neg (by omega), if_pos h1]; rfl
    · rw [if_neg h1]
      by_cases h2 : (tb ys k).toNat < (tb xs k).toNat
      · rw [if_pos h2, if_neg h1, if_pos h2]
      · rw [if_neg h2, if_neg h2, if_neg h1]

theorem cmpI_flip (W : Int) (xs : List Nat) (V : Int) (ys : List Nat) (h : cmpI W xs V ys ≠ -2) : cmpI V ys W xs = - cmpI W xs V ys := by
  unfold cmpI at h ⊢
  by_cases hc : rightB W xs = true ∧ rightB V ys = true ∧ W = V
  · obtain ⟨h1, h2, rfl⟩ := hc
    rw [if_pos ⟨h2, h1, rfl⟩, if_pos ⟨h1, h2, rfl⟩, cmpB_flip]
  · rw [if_neg hc] at h; exact absurd rfl h

theorem cmpI_range (W : Int) (xs : List Nat) (V : Int) (ys : List Nat) : -2 ≤ cmpI W xs V ys ∧ cmpI W xs V ys ≤ 1 := by
  unfold cmpI
  split
  · rcases cmpB_range xs ys W.toNat with h | h | h <;> omega
  · omega

theorem cmpB_lt (xs ys : List Nat) (p : Nat) (h1 : tb xs p = false) (h2 : tb ys p = true) (k : Nat) (hk : p < k) (h : ∀ i, p < i → i < k → tb xs i = tb ys i) : cmpB xs ys k = -1 := by
  induction k with
  | zero => omega
  | succ k ih =>
    rw [cmpB]
    by_cases e : p = k
    · subst e; rw [h1, h2]; rfl
    · rw [h k (by omega) (by omega), if_neg (Nat.lt_irrefl _), if_neg (Nat.lt_irrefl _)]
      exact ih (by omega) fun i a b => h i a (by omega)

theorem next_yes {V : Nat} {xs : List Nat} (hok : rightB V xs = true) (hf : fz xs V < V) : ∃ ys, nextR V xs = ((V : Int), ys, true) ∧ cmpI V xs V ys = -1 ∧ ys.length ≤ 64 ∧ ∀ x ∈ ys, x < 18446744073709551616 := by
  have hV := right_W hok
  refine ⟨_, by rw [nextR, if_pos ⟨hok, by rw [Int.toNat_natCast]; exact hf⟩], ?_⟩
  rw [Int.toNat_natCast]
  obtain ⟨f1, f2⟩ := fzFrom_lt xs V 0 (by simpa [fz] using hf)
  change tb xs (fz xs V) = false at f1
  generalize fz xs V = p at *
  have hl : (nxtList (bitsTo xs V) p).length = V := by simp [nxtList, bitsTo_len]; omega
  have hle : ∀ x ∈ nxtList (bitsTo xs V) p, x ≤ 1 := fun x hx => by
    simp only [nxtList, List.mem_append, List.mem_replicate, List.mem_cons] at hx
    rcases hx with h | h | h
    · omega
    · omega
    · exact bitsTo_le xs V x (List.mem_of_mem_drop h)
  have hr := pack_right _ hle (by omega) (by omega)
  rw [hl] at hr
  refine ⟨?_, by rw [pack_len, hl]; omega, pack_lt _⟩
  rw [cmpI, if_pos ⟨hok, hr, rfl⟩, Int.toNat_natCast]
  refine cmpB_lt _ _ p f1 ?_ V hf fun i a b => ?_
  · rw [tb_pack _ hle]
    simp [nxtList, List.getD]
  · rw [tb_pack _ hle]
    have e : (nxtList (bitsTo xs V) p).getD i 0 = (tb xs i).toNat := by
      rw [← bits_getD xs V i b]
      simp only [nxtList, List.getD]
      rw [List.getElem?_append_right (by simp; omega), List.length_replicate]
      obtain ⟨j, rfl⟩ : ∃ j, i = p + 1 + j := ⟨i - (p + 1), by omega⟩
      rw [show p + 1 + j - p = j + 1 by omega, List.getElem?_cons_succ, List.getElem?_drop]
    rw [e]; cases tb xs i <;> rfl

theorem next_no {V : Nat} {xs : List Nat} (hok : rightB V xs = true) (hf : ¬ fz xs V < V) : nextR V xs = noR ∧ onesI V xs = V := by
  have hV := right_W hok
  refine ⟨by rw [nextR, if_neg (by rw [Int.toNat_natCast]; exact fun h => hf h.2)], ?_⟩
  have hall : ∀ n i, i + n ≤ fzFrom xs i n → ∀ j, i ≤ j → j < i + n → tb xs j = true := by
    intro n
    induction n with
    | zero => intro i _ j h1 h2; omega
    | succ n ih =>
      intro i h j h1 h2
      rw [fzFrom] at h
      by_cases hb : tb xs i = true
      · rw [if_pos hb] at h
        by_cases e : j = i
        · rw [e]; exact hb
        · exact ih (i + 1) (by omega) j (by omega) (by omega)
      · rw [if_neg hb] at h; omega
  have ha := hall V 0 (by unfold fz at hf; omega)
  rw [onesI, if_pos hok, Int.toNat_natCast]
  have : ∀ k, k ≤ V → ones xs k = k := by
    intro k
    induction k with
    | zero => intro _; rfl
    | succ k ih =>
      intro hk
      have := ih (by omega)
      unfold ones at this ⊢
      rw [cnt, this, ha k (by omega) (by omega)]; rfl
  rw [this V (Nat.le_refl _)]

end Go.Proofs.Ytobkemdffhhlfaa
