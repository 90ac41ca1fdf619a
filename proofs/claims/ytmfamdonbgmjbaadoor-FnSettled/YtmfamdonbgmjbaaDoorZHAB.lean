/- Several texts in one. -/
import Derived.Test.YtmfamdonbgmjbaaDoorZGAG
import Derived.Test.YtmfamdonbgmjbaaDoorCP
import Derived.Test.YtmfamdonbgmjbaaDoorZGAB
import Derived.Test.YtmfamdonbgmjbaaDoorZGAD
import Derived.Test.YtmfamdonbgmjbaaDoorZGAC

/- What both Meets answer. -/
namespace Go.Proofs.YtmfamdonbgmjbaaDoor
set_option linter.unusedVariables false
set_option linter.unusedSimpArgs false
open Go.RowKit

/-- Is a number so by flags? -/
def soR (on : List Bool) (n : Int) : Bool := on.getD (absI n - 1).toNat false == decide (0 < n)
def meetR (S : Int) (cs : List (List Int)) (on : List Bool) : Bool := cnfR S cs && decide ((on.length : Int) = S) && cs.all fun c => c.any (soR on)

theorem soR_place {S n : Int} (hn : n ≠ 0 ∧ -S ≤ n ∧ n ≤ S) : ∃ j : Nat, absI n = (j : Int) + 1 ∧ (j : Int) < S ∧ (absI n - 1).toNat = j := by
  refine ⟨(absI n - 1).toNat, ?_, ?_, rfl⟩ <;> rw [absI_def] <;> split <;> omega


end Go.Proofs.YtmfamdonbgmjbaaDoor

/- What follows holds by all flags that meet the clauses: maths; rows of flags; laws.stand, laws.sameInts. -/
namespace Go.Proofs.YtmfamdonbgmjbaaDoor
set_option linter.unusedVariables false
set_option linter.unusedSimpArgs false
open Go.RowKit

/-- All of these are so by flags. -/
def sdR (on : List Bool) (T : List Int) : Bool := T.all (soR on)
theorem sdR_snoc {on : List Bool} {T : List Int} {x : Int} : sdR on (T ++ [x]) = (sdR on T && soR on x) := by simp [sdR]
theorem soR_neg {on : List Bool} {n : Int} (hn : n ≠ 0) (h : soR on n = true) : soR on (-n) = false := by
  unfold soR at *
  rw [absI_neg]
  rw [beq_iff_eq] at h
  rw [h]
  rcases (show n < 0 ∨ 0 < n by omega) with h1 | h1
  · rw [decide_eq_false (by omega), decide_eq_true (by omega)]; rfl
  · rw [decide_eq_true h1, decide_eq_false (by omega)]; rfl
theorem unF_sound {S : Nat} {cs : List (List Int)} {on : List Bool} (hc : ∀ cl ∈ cs, cl.any (soR on) = true) (hn : ∀ cl ∈ cs, ∀ x ∈ cl, x ≠ 0) : ∀ (f : Nat) (T : List Int), Tk S T → S < f + T.length → (∀ cl ∈ cs, ∀ x ∈ cl, x ≠ 0 ∧ -(S : Int) ≤ x ∧ x ≤ (S : Int)) → sdR on T = true → (unF f cs T).2 = true ∧ sdR on (unF f cs T).1 = true
  | 0, T, ht, hf, _, hs => ⟨rfl, hs⟩
  | f + 1, T, ht, hf, hb, hs => by
    rw [unF]
    cases hq : cs.find? (dueB T) with
    | none => exact ⟨rfl, hs⟩
    | some cl =>
      simp only []
      have hmem := List.mem_of_find?_eq_some hq
      have hdue := List.find?_some hq
      unfold dueB at hdue
      rw [Bool.and_eq_true, Bool.not_eq_true', decide_eq_true_eq] at hdue
      obtain ⟨hm, hl⟩ := hdue
      obtain ⟨k, hk, hso⟩ := List.any_eq_true.1 (hc cl hmem)
      have hk0 := hn cl hmem k hk
      have hkT : k ∉ T := fun h => by
        have := metB_iff.2 ⟨k, hk, h⟩
        rw [hm] at this
        cases this
      have hnT : -k ∉ T := fun h => by
        have h1 := List.all_eq_true.1 hs (-k) h
        rw [soR_neg hk0 hso] at h1
        cases h1
      have hko : k ∈ opn T cl := opn_mem.2 ⟨hk, hkT, hnT⟩
      cases ho : opn T cl with
      | nil => rw [ho] at hko; cases hko
      | cons x t =>
        simp only []
        have hxk : x = k := by
          rw [ho] at hl hko
          cases t with
          | nil => exact (List.mem_singleton.1 hko).symm
          | cons y t => simp at hl
        subst hxk
        have ht2 := ht.snoc (hb cl hmem x hk) hkT hnT
        exact unF_sound hc hn f (T ++ [x]) ht2 (by rw [List.length_append, List.length_singleton]; omega) hb (by rw [sdR_snoc, hs, hso]; rfl)
theorem unF_end {S : Nat} {cs : List (List Int)} (hb : ∀ cl ∈ cs, ∀ x ∈ cl, x ≠ 0 ∧ -(S : Int) ≤ x ∧ x ≤ (S : Int)) : ∀ (f : Nat) (T : List Int), Tk S T → S < f + T.length → (unF f cs T).2 = true → Tk S (unF f cs T).1 ∧ cs.find? (dueB (unF f cs T).1) = none
  | 0, T, ht, hf, _ => by have := ht.len; omega
  | f + 1, T, ht, hf, hr => by
    rw [unF] at hr ⊢
    cases hq : cs.find? (dueB T) with
    | none => simp only []; exact ⟨ht, hq⟩
    | some cl =>
      rw [hq] at hr
      simp only [] at hr ⊢
      cases ho : opn T cl with
      | nil => rw [ho] at hr; cases hr
      | cons x t =>
        rw [ho] at hr
        simp only [] at hr ⊢
        have hx : x ∈ opn T cl := by rw [ho]; simp
        obtain ⟨h1, h2, h3⟩ := opn_mem.1 hx
        exact unF_end hb f _ (ht.snoc (hb cl (List.mem_of_find?_eq_some hq) x h1) h2 h3) (by rw [List.length_append, List.length_singleton]; omega) hr
theorem cnfR_parts2 {S : Int} {cs : List (List Int)} (h : cnfR S cs = true) : 0 ≤ S ∧ S ≤ 400 ∧ ∀ cl ∈ cs, ∀ x ∈ cl, x ≠ 0 ∧ -S ≤ x ∧ x ≤ S := by
  have hnum : ∀ (l : Int) (ks : List Int), clR S l ks = true → ∀ n ∈ ks, numR S n = true := fun l ks => by
    induction ks generalizing l with
    | nil => intro _ n hn; cases hn
    | cons k t ih =>
      intro hc n hn
      rw [clR] at hc
      simp only [Bool.and_eq_true] at hc
      rcases List.mem_cons.1 hn with rfl | hn
      · exact hc.1.1
      · exact ih _ hc.2 n hn
  unfold cnfR at h
  rw [Bool.and_eq_true, Bool.and_eq_true, decide_eq_true_eq, decide_eq_true_eq, List.all_eq_true] at h
  obtain ⟨⟨⟨h1, h2⟩, h3⟩, h4⟩ := h
  refine ⟨h1, h2, fun cl hcl x hx => ?_⟩
  have h5 := h4 cl hcl
  unfold claR at h5
  rw [Bool.and_eq_true, decide_eq_true_eq] at h5
  exact numR_iff.1 (hnum _ _ h5.2 x hx)
/-- Asked of what follows nothing more follows. -/
theorem unit_again {S : Int} {cs : List (List Int)} {set : List Int} (h : (unitR S cs set).2 = true) : unitR S cs (unitR S cs set).1 = ((unitR S cs set).1, true) := by
  have hg : cnfR S cs = true ∧ setR S set = true := Classical.byContradiction fun hn => by
    unfold unitR at h
    rw [if_neg hn] at h
    cases h
  obtain ⟨h1, h2, h3⟩ := cnfR_parts2 hg.1
  obtain ⟨S, rfl⟩ : ∃ S' : Nat, S = (S' : Int) := ⟨S.toNat, by omega⟩
  have e : unitR (S : Int) cs set = unF (S + 1) cs set := by unfold unitR; rw [if_pos hg]; rfl
  rw [e] at h ⊢
  obtain ⟨h5, h6⟩ := unF_end h3 (S + 1) set (setR_tk.1 hg.2) (by omega) h
  unfold unitR
  rw [if_pos ⟨hg.1, setR_tk.2 h5⟩]
  show unF (S + 1) cs _ = _
  rw [unF, h6]
theorem unit_sound {S : Int} {cs : List (List Int)} {set : List Int} {on : List Bool} (hg : cnfR S cs = true ∧ setR S set = true) (hm : meetR S cs on = true) (hs : sdR on set = true) : (unitR S cs set).2 = true ∧ sdR on (unitR S cs set).1 = true := by
  obtain ⟨h1, h2, h3⟩ := cnfR_parts2 hg.1
  obtain ⟨S, rfl⟩ : ∃ S' : Nat, S = (S' : Int) := ⟨S.toNat, by omega⟩
  unfold meetR at hm
  rw [Bool.and_eq_true, Bool.and_eq_true, List.all_eq_true] at hm
  have e : unitR (S : Int) cs set = unF (S + 1) cs set := by unfold unitR; rw [if_pos hg]; rfl
  rw [e]
  exact unF_sound hm.2 (fun cl hcl x hx => (h3 cl hcl x hx).1) (S + 1) set (setR_tk.1 hg.2) (by omega) h3 hs
theorem unit_in {S : Nat} {cs : List (List Int)} {set : List Int} (hg : cnfR (S : Int) cs = true ∧ setR (S : Int) set = true) : ∀ (f : Nat) (T : List Int), Tk S T → Tk S (unF f cs T).1
  | 0, T, h => h
  | f + 1, T, h => by
    rw [unF]
    cases hf : cs.find? (dueB T) with
    | none => exact h
    | some cl =>
      simp only []
      cases ho : opn T cl with
      | nil => exact h
      | cons x t =>
        have hx : x ∈ opn T cl := by rw [ho]; simp
        obtain ⟨h1, h2, h3⟩ := opn_mem.1 hx
        exact unit_in hg f _ (h.snoc ((cnfR_parts2 hg.1).2.2 cl (List.mem_of_find?_eq_some hf) x h1) h2 h3)

def fls (bs : List Bool) : List Value := bs.map fun (b : Bool) => Value.bool b

/-- The slice v of flags holds bs, in a row from block number 'base' on that the call itself has made. -/
def OwF (w : World) (base : Nat) (v : Value) (bs : List Bool) : Prop := w.ownsRow base 4 1 v bs.length (fls bs)

theorem OwF.shape {w : World} {base : Nat} {v : Value} {bs : List Bool} (h : OwF w base v bs) (hl : bs.length ≤ 1048576) :
    ∃ a c, v = .slice a bs.length c ∧ RdFl w a bs ∧ bs.length ≤ c ∧ c ≤ maxLen := by
  obtain ⟨h1, ⟨rfl, h2⟩ | ⟨g, cap, cur, rfl, hg, hh, hc1, hc2, hsz, hcur⟩⟩ := h
  · have e := List.eq_nil_of_length_eq_zero h2
    subst e
    exact ⟨none, 0, rfl, ⟨hl, .inl rfl⟩, Nat.le_refl _, Nat.zero_le _⟩
  · refine ⟨some ⟨g, 0, none⟩, cap, rfl, ⟨hl, .inr ⟨g, 0, rfl, fun i hi => ?_⟩⟩, hc1, hc2⟩
    rw [Nat.zero_add, cell_of_row w g i cur _ _ hh]
    have h3 : (cur.toList.take (bs.length * 1))[i]? = (fls bs)[i]? := by rw [hcur]
    rw [List.getElem?_take, if_pos (by omega)] at h3
    simp only [Array.getElem?_toList] at h3
    rw [h3]
    simp [fls, List.getD, hi]

theorem OwF.nil (w : World) (base g : Nat) (hg : g = w.heap.size) (h : base ≤ g) : OwF (w.alloc (.cells #[] 4)) base (.slice (some ⟨g, 0, none⟩) 0 0) [] := by
  subst hg
  exact World.ownsRow_made w #[] 0 h (Nat.zero_le _) (by simp)

theorem OwF.alloc {w : World} {base : Nat} {v : Value} {bs : List Bool} (h : OwF w base v bs) (o : Obj) : OwF (w.alloc o) base v bs := World.ownsRow.alloc h o

theorem OwF.kept {w w' : World} {base : Nat} {v : Value} {bs : List Bool} (h : OwF w base v bs) (hb : Below w.heap.size w w') : OwF w' base v bs := by
  obtain ⟨h1, h2⟩ := h
  refine ⟨h1, ?_⟩
  rcases h2 with h2 | ⟨g, cap, cur, rfl, hg, hh, r⟩
  · exact .inl h2
  · exact .inr ⟨g, cap, cur, rfl, hg, by rw [hb.block g (lt_of_block hh)]; exact hh, r⟩

theorem OwF.own {w : World} {base : Nat} {v : Value} {bs : List Bool} (h : OwF w base v bs) : ∀ k, v.ownBlock = some k → base ≤ k := fun k hk => (World.ownsRow.lt h k hk).1

/-- 'append(out, y)', out the call's own. -/
theorem wpList_appF (w : World) {ops : Array Oper} {rest : List Oper} {o : Oper} {a : Act} {Q : Exit → Act → World → Prop} (hgd : o.guard = none) (s x : Operand)
    (ho : o.op = .call { callee := .builtin .append, args := #[s, x], argTypes := #[37, 37] })
    (base : Nat) (v : Value) (bs : List Bool) (y : Bool) (hs : a.eval s = v) (hown : OwF w base v bs) (g : Nat) (hx : a.eval x = .slice (some ⟨g, 0, none⟩) 1 1)
    (hnew : w.cell? ⟨g, 0, none⟩ = some (.bool y)) (hl : bs.length ≤ 4194304) (hbase : base ≤ w.heap.size)
    (h : ∀ v' w', OwF w' base v' (bs ++ [y]) → w.grownBy w' v.ownBlock → wpList Tryd.prog ops Q rest (a.put o.dst v') w') : wpList Tryd.prog ops Q (o :: rest) a w := by
  obtain ⟨i0, hi, hz0, hz1, hz2⟩ := info_parts Tryd.infoFlag
  refine wpList_append_own w hgd s x 37 ho base 4 i0 (.bool false) 1 1 Tryd.underlying37 hi hz0 hz1 hz2 rfl (by decide) v bs.length (fls bs) hs hown ⟨g, 0, none⟩ 1 1 [.bool y] hx rfl ?_ ?_ ?_ ?_ hbase ?_
  · intro j u hj
    match j, hj with
    | 0, hj => simp at hj; subst hj; simpa [Addr.add] using hnew
  · intro u hu; simp at hu; subst hu; rfl
  · unfold maxLen; omega
  · omega
  · intro v' w' h1 h2 _
    refine h v' w' ?_ h2
    unfold OwF
    simpa [fls] using h1

theorem sameInts_same (a b : Option Addr) (c d : Nat) (ks : List Int) (w : World) (hr : RdI w a ks) (hs : RdI w b ks) :
    Calls Tryd.prog 24 #[.slice a ks.length c, .slice b ks.length d] w fun e w' => e = .returned (.bool true) ∧ Below w.heap.size w w' := by
  have hl1 := hr.1
  go_enter Tryd.func24, Tryd.ntmps24
  go_wp2
  go_loopw [5] (fun i wr => ∃ k : Nat, k ≤ ks.length ∧ i = .int .i64 k ∧ Below w.heap.size w wr) (fun i _ => ks.length - (intOf i).toNat)
  case atStart => exact ⟨0, Nat.zero_le _, rfl, Below.refl _ _⟩
  case round =>
    obtain ⟨k, hk, rfl, hbel⟩ := hrel
    by_cases hlt : k < ks.length
    · obtain ⟨-, -, h | ⟨b1, o1, rfl, hc1⟩⟩ := hr
      · subst h; simp at hlt
      obtain ⟨-, -, h | ⟨b2, o2, rfl, hc2⟩⟩ := hs
      · subst h; simp at hlt
      have e1 := hc1 k hlt
      have e2 := hc2 k hlt
      have f1 : wr.cell? ⟨b1, o1 + k, none⟩ = some (.int .i64 (ks.getD k 0)) := by rw [hbel.cell (by exact block_lt_of_cell e1)]; exact e1
      have f2 : wr.cell? ⟨b2, o2 + k, none⟩ = some (.int .i64 (ks.getD k 0)) := by rw [hbel.cell (by exact block_lt_of_cell e2)]; exact e2
      have HB := kide hbel
      clear hc1 hc2 hbel e1 e2
      have i0 : (k : Int) < (ks.length : Int) := by omega
      generalize ks.getD k 0 = x1 at *
      go_wp2_with fail
      go_quiet (fail)
      go_wp2
      go_roundw
      case rel => exact ⟨k + 1, by omega, by go_num, below_drewN HB.out _⟩
      case measure => simp [intOf]; omega
    · go_wp2
      go_ret
      exact ⟨rfl, hbel⟩

set_option maxHeartbeats 1000000 in
set_option maxHeartbeats 1000000 in
theorem stand_any (a b : Option Addr) (c d m n : Nat) (on : List Bool) (T : List Int) (w : World) (ho : RdFl w a on) (hm : on.length = m) (hr : RdI w b T) (hn : T.length = n) (hb : ∀ x ∈ T, x ≠ 0 ∧ -(m : Int) ≤ x ∧ x ≤ (m : Int)) (hm9 : m ≤ 400) :
    Calls Tryd.prog 27 #[.slice a m c, .slice b n d] w fun e w' => e = .returned (.bool (sdR on T)) ∧ Below w.heap.size w w' := by
  have hl1 := hr.1
  rw [hn] at hl1
  have HO := kide ho
  have HR := kide hr
  have HM := kide hm
  have HN := kide hn
  have HBD := kide hb
  generalize hzz : sdR on T = Z
  have HZ : Hid ((T.drop 0).all (soR on) = Z) := by show _ = _; rw [List.drop_zero]; exact hzz
  clear ho hr hm hn hb hzz
  go_enter Tryd.func27, Tryd.ntmps27
  go_wp2_with fail
  go_loopw [5] (fun i wr => ∃ k : Nat, k ≤ n ∧ i = .int .i64 (k : Int) ∧ (T.drop k).all (soR on) = Z ∧ Below w.heap.size w wr) (fun i _ => n - (intOf i).toNat)
  case atStart => exact ⟨0, Nat.zero_le _, rfl, HZ.out, Below.refl _ _⟩
  case round =>
    obtain ⟨k, hk, rfl, hz, hbel⟩ := hrel
    have HB := kide hbel
    by_cases hlt : k < n
    · have hltx : k < T.length := by rw [HN.out]; exact hlt
      obtain ⟨x, hx⟩ : ∃ x, T[k]? = some x := ⟨_, List.getElem?_eq_getElem hltx⟩
      rw [all_step hx] at hz
      obtain ⟨-, -, h | ⟨b2, o2, rfl, hc2⟩⟩ := HR.out
      · subst h; simp at hltx
      have p0 := hc2 k hltx
      rw [show T.getD k 0 = x by rw [List.getD_eq_getElem?_getD, hx]; rfl] at p0
      rw [← kcell hbel _ _ (block_lt_of_cell p0)] at p0
      have hxb := HBD.out x (List.mem_of_getElem? hx)
      obtain ⟨q, hq1, hq2, hq3⟩ := soR_place hxb
      have hqm : q < m := by omega
      obtain ⟨-, h | ⟨b4, o4, rfl, hc4⟩⟩ := HO.out
      · subst h; have := HM.out; simp at this; omega
      have e4 := hc4 q (by rw [HM.out]; exact hqm)
      rw [← kcell hbel _ _ (block_lt_of_cell e4)] at e4
      have hso : soR on x = (on.getD q false == decide (0 < x)) := by unfold soR; rw [hq3]
      rw [hso] at hz
      generalize on.getD q false = y at *
      have HZ1 := kide hz
      have i0 : (k : Int) < (n : Int) := by omega
      have i1 : (q : Int) < (m : Int) := by omega
      have hw1 : IntKind.i64.wrap (q : Int) = (q : Int) := by rw [IntKind.wrap_i64]; omega
      obtain ⟨hx0, hx1, hx2⟩ := hxb
      rw [absI_def] at hq1
      clear hc2 hc4 hq3 hso hz hx hbel hltx
      by_cases hp : 0 ≤ x
      · rw [if_pos hp] at hq1
        subst hq1
        have hgt : (q : Int) + 1 > 0 := by omega
        have hmx : max ((q : Int) + 1) (-((q : Int) + 1)) = (q : Int) + 1 := by omega
        have hw2 : IntKind.i64.wrap ((q : Int) + 1 - 1) = (q : Int) := by rw [IntKind.wrap_i64]; omega
        have hgt2 : (0 : Int) < (q : Int) + 1 := by omega
        rw [decide_eq_true hgt2] at HZ1
        cases y with
        | true =>
          go_wp2_with fail
          go_quiet (fail)
          go_wp2_with fail
          go_quiet (fail)
          go_wp2_with fail
          go_roundw
          case rel => exact ⟨k + 1, by omega, by go_num, by simpa using HZ1.out, below_drewN HB.out _⟩
          case measure => simp [intOf]; omega
        | false =>
          go_wp2_with fail
          go_quiet (fail)
          go_wp2_with fail
          go_quiet (fail)
          go_wp2_with fail
          go_ret
          exact ⟨ret_bool (by simpa using HZ1.out), below_drewN (below_drewN HB.out _) _⟩
      · rw [if_neg hp] at hq1
        obtain rfl : x = -((q : Int) + 1) := by omega
        have hgt : ¬ -((q : Int) + 1) > 0 := by omega
        have hmx : max (-((q : Int) + 1)) ((q : Int) + 1) = (q : Int) + 1 := by omega
        have hmx2 : max (-((q : Int) + 1)) (- -((q : Int) + 1)) = (q : Int) + 1 := by omega
        have hw2 : IntKind.i64.wrap ((q : Int) + 1 - 1) = (q : Int) := by rw [IntKind.wrap_i64]; omega
        have hgt2 : ¬ (0 : Int) < -((q : Int) + 1) := by omega
        rw [decide_eq_false hgt2] at HZ1
        cases y with
        | true =>
          go_wp2_with fail
          go_quiet (fail)
          go_wp2_with fail
          go_quiet (fail)
          go_wp2_with fail
          go_ret
          exact ⟨ret_bool (by simpa using HZ1.out), below_drewN (below_drewN HB.out _) _⟩
        | false =>
          go_wp2_with fail
          go_quiet (fail)
          go_wp2_with fail
          go_quiet (fail)
          go_wp2_with fail
          go_roundw
          case rel => exact ⟨k + 1, by omega, by go_num, by simpa using HZ1.out, below_drewN HB.out _⟩
          case measure => simp [intOf]; omega
    · have HZ1 : Hid (Z = true) := by
        show _ = _
        rw [← hz, List.drop_eq_nil_of_le (by have := HN.out; omega)]; rfl
      clear hz hbel
      go_wp2_with fail
      go_ret
      exact ⟨ret_bool HZ1.out.symm, HB.out⟩
end Go.Proofs.YtmfamdonbgmjbaaDoor
