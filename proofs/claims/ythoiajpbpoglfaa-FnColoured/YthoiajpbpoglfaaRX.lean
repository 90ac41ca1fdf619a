/- A region that draws its order: loads of cells that the region itself writes in the end. What the loads read holds till one operation (the store) has come up; another condition holds behind it. -/
import Derived.OrdersHeld
import Derived.RegionTactic
namespace Go.Proofs.Ythoiajpbpoglfaa
set_option linter.unusedVariables false
set_option linter.unusedSimpArgs false
open Go

section
variable {P : Program} {ops : Array Oper} {Q : Exit → Act → World → Prop} {md : Region.Mode} {SA SB : World → Prop} {k : Nat}

/-- What holds of the world while these are listed. -/
def Sx (SA SB : World → Prop) (k : Nat) (listed : Array Bool) (w : World) : Prop := if listed.getD k true = true then SB w else SA w

theorem Sx.before {listed : Array Bool} {w : World} (hk : listed.getD k true = false) (h : SA w) : Sx SA SB k listed w := by
  unfold Sx; rw [hk]; simpa using h
theorem Sx.behind {listed : Array Bool} {w : World} (hk : listed.getD k true = true) (h : SB w) : Sx SA SB k listed w := by
  unfold Sx; rw [hk]; simpa using h
theorem Sx.same {listed listed' : Array Bool} {w : World} (hk : listed'.getD k true = listed.getD k true) (h : Sx SA SB k listed w) : Sx SA SB k listed' w := by
  unfold Sx at *; rw [hk]; exact h

def wpAnyX (P : Program) (md : Region.Mode) (ops : Array Oper) (Q : Exit → Act → World → Prop) (SA SB : World → Prop) (k : Nat) : Nat → Array Bool → Act → World → Prop
  | 0, listed, a, w => Region.ready md ops listed = [] ∧ Q .normal a w
  | fuel + 1, listed, a, w =>
    (Region.ready md ops listed = [] → Q .normal a w) ∧
    ∀ i ∈ Region.ready md ops listed, wpOp P ops Q i (fun a' w' => Sx SA SB k (listed.setIfInBounds i true) w' ∧ wpAnyX P md ops Q SA SB k fuel (listed.setIfInBounds i true) a' w') a w

theorem wpAny_of_x : ∀ (fuel : Nat) (listed : Array Bool) (a : Act) (w : World), wpAnyX P md ops Q SA SB k fuel listed a w → wpAny P md ops Q fuel listed a w
  | 0, _, _, _, h => h
  | fuel + 1, _, _, _, h => ⟨h.1, fun i hi => wpOp_mono (fun a' w' h' => wpAny_of_x fuel _ a' w' h'.2) (h.2 i hi)⟩

/-- Number k waits for number i. -/
def waitsB (md : Region.Mode) (ops : Array Oper) (k i : Nat) : Bool := match ops[k]? with
  | some o => o.after.any (fun e => Region.binds md e && e.on == i)
  | none => false

theorem waits_not_ready {i : Nat} {listed : Array Bool} (hw : waitsB md ops k i = true) (hi : i ∈ Region.ready md ops listed) : ¬ k ∈ Region.ready md ops listed := by
  intro hk
  obtain ⟨-, o, ho, hall⟩ := mem_ready.1 hk
  unfold waitsB at hw
  rw [ho] at hw
  obtain ⟨e, he, h2⟩ := Array.any_eq_true'.1 hw
  simp only [Bool.and_eq_true, beq_iff_eq] at h2
  have h1 := hall e he h2.1
  have h0 := (mem_ready.1 hi).1
  rw [h2.2] at h1
  rcases Nat.lt_or_ge i listed.size with h' | h'
  · simp [h'] at h0 h1; rw [h0] at h1; cases h1
  · simp [Array.getElem?_eq_none h'] at h1

theorem wpAnyX_first {i : Nat} {oi : Oper} {v : Value} {T : World → Prop} (hi : ops[i]? = some oi) (hsel : ∀ (j : Nat) (o : Oper) cs b, ops[j]? = some o → o.op ≠ .select cs b)
    (hQ : ∀ c a w, Q (.panic c) (a.put oi.dst v) w → Q (.panic c) a w) (hik : i ≠ k) (hA : ∀ w, SA w → T w) :
    ∀ (fuel : Nat) (listed : Array Bool) (a : Act) (w : World),
      (∀ j oj, ops[j]? = some oj → j ≠ i → listed.getD j true = false → (∀ e ∈ oj.after, Region.binds md e = true → e.on ≠ i) → oi.apart ops oj = true) →
      i ∈ Region.ready md ops listed → YieldsIf P ops T oi v a → Sx SA SB k listed w → ((∀ w, SB w → T w) ∨ listed.getD k true = false ∧ waitsB md ops k i = true) →
      wpAnyX P md ops Q SA SB k fuel (listed.setIfInBounds i true) (a.put oi.dst v) w → wpAnyX P md ops Q SA SB k (fuel + 1) listed a w := by
  have tw : ∀ (listed : Array Bool) (w : World), Sx SA SB k listed w → ((∀ w, SB w → T w) ∨ listed.getD k true = false ∧ waitsB md ops k i = true) → T w := by
    intro listed w hS hB
    unfold Sx at hS
    rcases hB with hB | ⟨hB, -⟩
    · split at hS
      · exact hB w hS
      · exact hA w hS
    · rw [hB] at hS
      exact hA w (by simpa using hS)
  intro fuel
  induction fuel with
  | zero =>
    intro listed a w _ hr hy hS hB H
    refine ⟨fun h => (by rw [h] at hr; cases hr), fun j hj => ?_⟩
    by_cases hji : j = i
    · subst hji; exact hy.wpOp hi (tw _ _ hS hB) ⟨hS.same (getD_set_ne true hik), H⟩
    · have := ready_mono hj hji
      rw [H.1] at this
      cases this
  | succ fuel ih =>
    intro listed a w hfree hr hy hS hB H
    refine ⟨fun h => (by rw [h] at hr; cases hr), fun j hj => ?_⟩
    by_cases hji : j = i
    · subst hji; exact hy.wpOp hi (tw _ _ hS hB) ⟨hS.same (getD_set_ne true hik), H⟩
    · have h1 := H.2 j (ready_mono hj hji)
      obtain ⟨hjun, oj, hoj, hall⟩ := mem_ready.1 hj
      have hnot : ∀ e ∈ oj.after, Region.binds md e = true → e.on ≠ i := fun e he hb heq => by
        have h1 := hall e he hb
        have h0 := (mem_ready.1 hr).1
        rw [heq] at h1
        rcases Nat.lt_or_ge i listed.size with h' | h'
        · simp [h'] at h0 h1; rw [h0] at h1; cases h1
        · simp [Array.getElem?_eq_none h'] at h1
      have h2 := wpOp_putIf hoj (hfree j oj hoj hji hjun hnot) (fun cs b => hsel i oi cs b hi) (fun cs b => hsel j oj cs b hoj) hQ hy h1
      have hfree' : ∀ q oq, ops[q]? = some oq → q ≠ i → (listed.setIfInBounds j true).getD q true = false →
          (∀ e ∈ oq.after, Region.binds md e = true → e.on ≠ i) → oi.apart ops oq = true := fun q oq hq hqi hun hno => by
        refine hfree q oq hq hqi ?_ hno
        by_cases hjq : j = q
        · subst hjq; exact hjun
        · rw [getD_set_ne true hjq] at hun; exact hun
      have hB' : (∀ w, SB w → T w) ∨ (listed.setIfInBounds j true).getD k true = false ∧ waitsB md ops k i = true := by
        rcases hB with hB | ⟨hB1, hB2⟩
        · exact .inl hB
        · refine .inr ⟨?_, hB2⟩
          have hjk : j ≠ k := by
            rintro rfl
            exact waits_not_ready hB2 hr hj
          rw [getD_set_ne true hjk]; exact hB1
      have hS' : ∀ w', Sx SA SB k ((listed.setIfInBounds i true).setIfInBounds j true) w' → Sx SA SB k (listed.setIfInBounds j true) w' := fun w' h => by
        rw [Array.setIfInBounds_comm _ _ (Ne.symm hji)] at h
        exact h.same (getD_set_ne true hik).symm
      refine wpOp_mono (fun a' w' h3 => ⟨hS' w' h3.2.1, ih (listed.setIfInBounds j true) a' w' hfree' (ready_mono hr (Ne.symm hji)) h3.1 (hS' w' h3.2.1) hB' ?_⟩) h2
      rw [Array.setIfInBounds_comm _ _ hji]
      exact h3.2.2

/-- Take number i first, a load (or what looks at nothing): ahead of number k. -/
theorem wpAnyX_take {i : Nat} {oi : Oper} {v : Value} {fuel : Nat} {listed : Array Bool} {a : Act} {w : World} (hi : ops[i]? = some oi)
    (hs : Region.noSelect ops = true) (hf : Region.free md ops listed i = true) (hr : (Region.ready md ops listed).contains i = true)
    (hQ : ∀ c a w, Q (.panic c) (a.put oi.dst v) w → Q (.panic c) a w) (hik : i ≠ k) (hkl : listed.getD k true = false) (hw : waitsB md ops k i = true)
    (hS : SA w) (hy : YieldsIf P ops SA oi v a)
    (h : wpAnyX P md ops Q SA SB k fuel (listed.setIfInBounds i true) (a.put oi.dst v) w) : wpAnyX P md ops Q SA SB k (fuel + 1) listed a w :=
  wpAnyX_first (T := SA) hi (Region.noSelect_spec hs) hQ hik (fun _ h => h) fuel listed a w (Region.free_spec hi hf) (by simpa using hr) hy (Sx.before hkl hS) (.inr ⟨hkl, hw⟩) h

/-- .. what yields by either condition. -/
theorem wpAnyX_both {i : Nat} {oi : Oper} {v : Value} {T : World → Prop} {fuel : Nat} {listed : Array Bool} {a : Act} {w : World} (hi : ops[i]? = some oi)
    (hs : Region.noSelect ops = true) (hf : Region.free md ops listed i = true) (hr : (Region.ready md ops listed).contains i = true)
    (hQ : ∀ c a w, Q (.panic c) (a.put oi.dst v) w → Q (.panic c) a w) (hik : i ≠ k) (hA : ∀ w, SA w → T w) (hB : ∀ w, SB w → T w)
    (hS : Sx SA SB k listed w) (hy : YieldsIf P ops T oi v a)
    (h : wpAnyX P md ops Q SA SB k fuel (listed.setIfInBounds i true) (a.put oi.dst v) w) : wpAnyX P md ops Q SA SB k (fuel + 1) listed a w :=
  wpAnyX_first hi (Region.noSelect_spec hs) hQ hik hA fuel listed a w (Region.free_spec hi hf) (by simpa using hr) hy hS (.inl hB) h

def AllX (P : Program) (md : Region.Mode) (ops : Array Oper) (Q : Exit → Act → World → Prop) (SA SB : World → Prop) (k : Nat) (fuel : Nat) (listed : Array Bool) (a : Act) (w : World) (rs : List Nat) : Prop :=
  ∀ i ∈ rs, wpOp P ops Q i (fun a' w' => Sx SA SB k (listed.setIfInBounds i true) w' ∧ wpAnyX P md ops Q SA SB k fuel (listed.setIfInBounds i true) a' w') a w

theorem AllX.nil {fuel : Nat} {listed : Array Bool} {a : Act} {w : World} : AllX P md ops Q SA SB k fuel listed a w [] := fun _ h => by cases h

theorem AllX.cons {fuel : Nat} {listed : Array Bool} {a : Act} {w : World} {i : Nat} {o : Oper} {rs : List Nat} (ho : ops[i]? = some o)
    (h : ∀ K' : Act → World → Prop, (∀ a w, Sx SA SB k (listed.setIfInBounds i true) w → wpAnyX P md ops Q SA SB k fuel (listed.setIfInBounds i true) a w → K' a w) → if Region.wanted o (yielded ops a.tmps) = true then Oper.wp P o a w K' Q else K' (a.put o.dst undef) w)
    (hs : AllX P md ops Q SA SB k fuel listed a w rs) : AllX P md ops Q SA SB k fuel listed a w (i :: rs) := fun j hj => by
  rcases List.mem_cons.1 hj with rfl | hj
  · exact wpOp_step ho (fun K' hK => h K' (fun a w h1 h2 => hK a w ⟨h1, h2⟩))
  · exact hs j hj

theorem wpAnyX_ready {rs : List Nat} {fuel : Nat} {listed : Array Bool} {a : Act} {w : World} (hr : Region.ready md ops listed = rs) (hne : rs ≠ [])
    (h : AllX P md ops Q SA SB k fuel listed a w rs) : wpAnyX P md ops Q SA SB k (fuel + 1) listed a w :=
  ⟨fun h0 => absurd (hr ▸ h0) hne, hr ▸ h⟩

theorem wpAnyX_done {listed : Array Bool} {a : Act} {w : World} (hr : Region.ready md ops listed = []) (h : Q .normal a w) :
    ∀ fuel, wpAnyX P md ops Q SA SB k fuel listed a w
  | 0 => ⟨hr, h⟩
  | _ + 1 => ⟨fun _ => h, by rw [hr]; simp⟩

theorem wp_region_x {id : Nat} {a : Act} {w : World} (hm : P.follows .mixedOrders = true)
    (h : wpAnyX P .any ops Q SA SB k ops.size (Array.replicate ops.size false) a w.drew) : (Code.region id ops true).wp P Q a w :=
  wp_region_any hm (wpAny_of_x _ _ _ _ h)

/-- Shorter forms: one look for all that is asked of the lists. -/
theorem tkA {i : Nat} {oi : Oper} {v : Value} {fuel : Nat} {listed : Array Bool} {a : Act} {w : World} (hi : ops[i]? = some oi)
    (hb : (Region.noSelect ops && Region.free md ops listed i && (Region.ready md ops listed).contains i) = true)
    (hQ : ∀ c a w, Q (.panic c) (a.put oi.dst v) w → Q (.panic c) a w) (hy : Region.wanted oi (yielded ops a.tmps) = true) (hv : ∀ w, (execOp a.eval oi).run P w = .ok (.value v) w)
    (h : wpAny P md ops Q fuel (listed.setIfInBounds i true) (a.put oi.dst v) w) : wpAny P md ops Q (fuel + 1) listed a w := by
  simp only [Bool.and_eq_true] at hb
  exact wpAny_take hi hb.1.1 hb.1.2 hb.2 hQ (.inl ⟨hy, hv⟩) h
theorem tkN {i : Nat} {oi : Oper} {fuel : Nat} {listed : Array Bool} {a : Act} {w : World} (hi : ops[i]? = some oi)
    (hb : (Region.noSelect ops && Region.free md ops listed i && (Region.ready md ops listed).contains i) = true)
    (hQ : ∀ c a w, Q (.panic c) (a.put oi.dst undef) w → Q (.panic c) a w) (hy : Region.wanted oi (yielded ops a.tmps) = false)
    (h : wpAny P md ops Q fuel (listed.setIfInBounds i true) (a.put oi.dst undef) w) : wpAny P md ops Q (fuel + 1) listed a w := by
  simp only [Bool.and_eq_true] at hb
  exact wpAny_take hi hb.1.1 hb.1.2 hb.2 hQ (.inr ⟨hy, rfl⟩) h
theorem tkB {i : Nat} {oi : Oper} {v : Value} {T : World → Prop} {fuel : Nat} {listed : Array Bool} {a : Act} {w : World} (hi : ops[i]? = some oi)
    (hb : (Region.noSelect ops && Region.free md ops listed i && (Region.ready md ops listed).contains i && i != k) = true)
    (hQ : ∀ c a w, Q (.panic c) (a.put oi.dst v) w → Q (.panic c) a w) (hA : ∀ w, SA w → T w) (hB : ∀ w, SB w → T w)
    (hS : Sx SA SB k listed w) (hy : YieldsIf P ops T oi v a)
    (h : wpAnyX P md ops Q SA SB k fuel (listed.setIfInBounds i true) (a.put oi.dst v) w) : wpAnyX P md ops Q SA SB k (fuel + 1) listed a w := by
  simp only [Bool.and_eq_true] at hb
  exact wpAnyX_both hi hb.1.1.1 hb.1.1.2 hb.1.2 hQ (by simpa using hb.2) hA hB hS hy h
theorem tkT {i : Nat} {oi : Oper} {v : Value} {fuel : Nat} {listed : Array Bool} {a : Act} {w : World} (hi : ops[i]? = some oi)
    (hb : (Region.noSelect ops && Region.free md ops listed i && (Region.ready md ops listed).contains i && i != k) = true)
    (hQ : ∀ c a w, Q (.panic c) (a.put oi.dst v) w → Q (.panic c) a w)
    (hS : Sx SA SB k listed w) (hy : YieldsIf P ops (fun _ => True) oi v a)
    (h : wpAnyX P md ops Q SA SB k fuel (listed.setIfInBounds i true) (a.put oi.dst v) w) : wpAnyX P md ops Q SA SB k (fuel + 1) listed a w :=
  tkB hi hb hQ (fun _ _ => trivial) (fun _ _ => trivial) hS hy h
theorem tkX {i : Nat} {oi : Oper} {v : Value} {fuel : Nat} {listed : Array Bool} {a : Act} {w : World} (hi : ops[i]? = some oi)
    (hb : (Region.noSelect ops && Region.free md ops listed i && (Region.ready md ops listed).contains i && i != k && !listed.getD k true && waitsB md ops k i) = true)
    (hQ : ∀ c a w, Q (.panic c) (a.put oi.dst v) w → Q (.panic c) a w)
    (hS : SA w) (hy : YieldsIf P ops SA oi v a)
    (h : wpAnyX P md ops Q SA SB k fuel (listed.setIfInBounds i true) (a.put oi.dst v) w) : wpAnyX P md ops Q SA SB k (fuel + 1) listed a w := by
  simp only [Bool.and_eq_true] at hb
  exact wpAnyX_take hi hb.1.1.1.1.1 hb.1.1.1.1.2 hb.1.1.1.2 hQ (by simpa using hb.1.1.2) (by simpa using hb.1.2) hb.2 hS hy h

end
end Go.Proofs.Ythoiajpbpoglfaa
