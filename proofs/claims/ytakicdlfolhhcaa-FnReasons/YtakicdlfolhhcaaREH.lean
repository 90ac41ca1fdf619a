/- The way between two nodes, on the given side. -/
import Derived.Test.YtakicdlfolhhcaaREG
import Derived.Test.YtakicdlfolhhcaaGQ
namespace Go.Proofs.Ytakicdlfolhhcaa
set_option linter.unusedVariables false
set_option linter.unusedSimpArgs false
open Go.RowKit

def bls (us : List Bool) : Array Value := (us.map Value.bool).toArray
theorem bls_get {us : List Bool} {i : Nat} {x : Bool} (h : us[i]? = some x) : (bls us)[i]? = some (.bool x) := by simp [bls, h]
theorem bls_set (us : List Bool) (i : Nat) (x : Bool) : (bls us).setIfInBounds i (.bool x) = bls (us.set i x) := by
  unfold bls
  rw [List.setIfInBounds_toArray, List.map_set]

theorem wpList_appWs {w : World} {ops : Array Oper} {rest : List Oper} {o : Oper} {a : Act} {Q : Exit → Act → World → Prop} (hgd : o.guard = none) (s x : Operand)
    (ho : o.op = .call { callee := .builtin .append, args := #[s, x], argTypes := #[44, 44] })
    (B C : Nat) (v y : Value) (xs ys : List Int) (hs : a.eval s = v) (hown : OW w B v xs) (hx : a.eval x = y) (hy : OW w C y ys) (hl : xs.length + ys.length ≤ 1048576) (hB : B ≤ w.heap.size)
    (h : ∀ v' w', OW w' B v' (xs ++ ys) → w.grownBy w' v.ownBlock → wpList Try.prog ops Q rest (a.put o.dst v') w') : wpList Try.prog ops Q (o :: rest) a w := by
  obtain ⟨i0, hi, hz0, hz1, hz2⟩ := info_parts Try.infoI64
  refine wpList_plain hgd fun K hK => ?_
  have hcells := fun g hg => World.ownsRow.cells hy (g := g) hg
  rcases hy.2 with ⟨e, h0⟩ | ⟨g, cap, cur, e, -, hh, -⟩
  · have e0 : ys = [] := List.eq_nil_of_length_eq_zero h0
    subst e0
    subst e
    have hr9 := run_append_owned_none (P := Try.prog) (w := w) B 44 o.type 2 i0 1 Try.underlying44 hi v xs.length (xs.map (Value.int .i64)) hown
    unfold Oper.wp execOp
    simp only [ho, resolve, invoke, builtin, Sem.run_bind, Sem.run_pure, Result.andThen_ok, List.map_toArray, List.map_cons, List.map_nil, hs, hx, hr9]
    exact hK _ _ (h v w (by rw [List.append_nil]; exact hown) (World.grownBy.refl w _))
  · subst e
    refine wp_append_own w s x 44 ho B 2 i0 (.int .i64 0) 1 8 Try.underlying44 hi hz0 hz1 hz2 rfl (by decide) v xs.length (xs.map (Value.int .i64)) hs hown ⟨g, 0, none⟩ ys.length cap (ys.map (Value.int .i64)) hx (by simp) (fun j u hj => hcells g rfl j u hj) ?_ ?_ ?_ hB ?_
    · intro u hu
      simp at hu
      obtain ⟨_, _, rfl⟩ := hu
      rfl
    · unfold maxLen; omega
    · omega
    · intro v' w' h1 h2 _
      refine hK _ _ (h v' w' ?_ h2)
      unfold OW
      simpa using h1

/-- How many are not used. -/
def cf : List Bool → Nat
  | [] => 0
  | b :: t => (if b = true then 0 else 1) + cf t
theorem cf_set : ∀ {us : List Bool} {k : Nat}, us[k]? = some false → cf (us.set k true) + 1 = cf us
  | [], k, h => by simp at h
  | b :: t, 0, h => by
    have : b = false := by simpa using h
    subst this
    simp [cf]; omega
  | b :: t, k + 1, h => by
    have ih := cf_set (us := t) (k := k) (by simpa using h)
    simp only [List.set_cons_succ, cf]
    omega
theorem cf_le : ∀ us : List Bool, cf us ≤ us.length
  | [] => Nat.le_refl _
  | b :: t => by
    have := cf_le t
    simp only [cf, List.length_cons]
    split <;> omega
theorem set_getD (us : List Bool) (k : Nat) (h : k < us.length) (i : Nat) : (us.set k true).getD i false = if i = k then true else us.getD i false := by
  by_cases e : i = k
  · subst e
    simp [List.getD, h]
  · rw [if_neg e]
    simp only [List.getD]
    rw [List.getElem?_set_ne (Ne.symm e)]

def RetV (ls : List Lk) (us : List Bool) (g a b : Nat) (w : World) (e : Ending) (w' : World) : Prop := ∃ us' v, us'.length = us.length ∧ cf us' ≤ cf us ∧ w'.heap[g]? = some (.cells (bls us') 4 (0, 0)) ∧ Out g (g + 1) w w' ∧
  ((∃ p, e = .returned (.tuple #[v, .bool true]) ∧ OW w' w.heap.size v (whyL ls p) ∧ Wk ls a p b ∧ p.Nodup ∧ (∀ i ∈ p, us.getD i false = false) ∧ p.length ≤ cf us) ∨
   (∃ S, e = .returned (.tuple #[v, .bool false]) ∧ OW w' w.heap.size v [] ∧ Nf ls (fun i => us.getD i false) (fun i => us'.getD i false) a b S))

theorem RdK.outg {w w' : World} {a : Option Addr} {ls : List Lk} {g : Nat} (h : RdK w a ls) (hg : ls ≠ [] → ∀ p, a = some p → p.block ≠ g) (ho : Out g (g + 1) w w') : RdK w' a ls := by
  obtain ⟨h1, h2, h3⟩ := h
  refine ⟨h1, h2, ?_⟩
  rcases h3 with h3 | ⟨b, o, rfl, hc⟩
  · exact .inl h3
  · refine .inr ⟨b, o, rfl, fun i l hi => ?_⟩
    obtain ⟨q1, q2, q3⟩ := hc i l hi
    have hne := hg (fun e => by rw [e] at hi; simp at hi) _ rfl
    simp only [] at hne
    have hlt := block_lt_of_cell q1
    have hd : b < g ∨ g + 1 ≤ b := by omega
    exact ⟨by rw [ho.cell hlt hd]; exact q1, by rw [ho.cell hlt hd]; exact q2, by rw [ho.cell hlt hd]; exact q3⟩

set_option maxHeartbeats 1000000 in
set_option maxRecDepth 100000 in
theorem l7Way_any (ls : List Lk) (la : Option Addr) (lc uc n N g : Nat) (hn : ls.length = n) (hN : N ≤ 1000) (hn2 : n ≤ 1000) (hok : ∀ l ∈ ls, (0 ≤ l.1 ∧ l.1 < (N : Int)) ∧ (0 ≤ l.2.1 ∧ l.2.1 < (N : Int)) ∧ (0 ≤ l.2.2 ∧ l.2.2 ≤ 1000000)) (hg : ls ≠ [] → ∀ p, la = some p → p.block ≠ g) :
    ∀ (m : Nat) (us : List Bool), cf us < m → us.length = n → ∀ (a b : Nat), a < N → b < N → ∀ w : World, RdK w la ls → w.heap[g]? = some (.cells (bls us) 4 (0, 0)) →
      Calls Try.prog 57 #[.slice la n lc, .slice (some ⟨g, 0, none⟩) n uc, .int .i64 (a : Int), .int .i64 (b : Int)] w (RetV ls us g a b w) := by
  intro m
  induction m with
  | zero => intro us h; omega
  | succ m ih =>
    intro us hm hul a b ha hb w hr hu
    have IH := kide ih
    have HM := kide hm
    have HUL := kide hul
    have HR := kide hr
    have HU := kide hu
    have HOK := kide hok
    have HGG := kide hg
    have HN := kide hn
    have hgl := lt_of_block hu
    clear ih hm hul hr hu hok hg hn
    by_cases hab : a = b
    · subst hab
      have hba : Below w.heap.size w (w.alloc (Obj.cells #[] 2)) := (Below.refl _ _).alloc (Nat.le_refl _) _
      have O0 := kide (OW.fresh w w.heap.size (Nat.le_refl _))
      have U0 : Hid ((w.alloc (Obj.cells #[] 2)).heap[g]? = some (.cells (bls us) 4 (0, 0))) := by show _ = _; rw [hba.block _ hgl]; exact HU.out
      have B0 := kide hba
      clear hba
      go_enter Try.func57, Try.ntmps57
      go_wp2_with fail
      go_returns
      exact ⟨us, _, rfl, Nat.le_refl _, U0.out, Out.below B0.out, .inl ⟨[], rfl, O0.out, rfl, by simp, by simp, Nat.zero_le _⟩⟩
    · have hab2 : ((a : Int) == (b : Int)) = false := by simp; omega
      go_enter Try.func57, Try.ntmps57
      go_wp2_with fail
      obtain ⟨w0, hw0⟩ : ∃ w0, w0 = w := ⟨_, rfl⟩
      go_loopw [10] (fun q wr => ∃ (k : Nat) (us' : List Bool) (S : Nat → Bool), q = .int .i64 (k : Int) ∧ k ≤ n ∧ us'.length = n ∧ cf us' ≤ cf us ∧ wr.heap[g]? = some (.cells (bls us') 4 (0, 0)) ∧ Out g (g + 1) w wr ∧ Nk ls (fun i => us.getD i false) (fun i => us'.getD i false) a b k S) (fun q _ => n - (intOf q).toNat)
      case atStart => exact ⟨0, us, _, rfl, Nat.zero_le _, HUL.out, Nat.le_refl _, HU.out, Out.refl _ _ _, Nk.start _ _ hab⟩
      case round =>
        obtain ⟨k, us', S, rfl, hk, hul, hcf, hug, hou, hnk⟩ := hrel
        have HUL2 := kide hul
        have HCF := kide hcf
        have HUG := kide hug
        have HOU := kide hou
        have HNK := kide hnk
        clear hul hcf hug hou hnk hw0
        by_cases hlt : k < n
        · have i0 : (k : Int) < (n : Int) := by omega
          obtain ⟨⟨lA, lB, lY⟩, hl⟩ : ∃ l, ls[k]? = some l := ⟨_, List.getElem?_eq_getElem (show k < ls.length by rw [HN.out]; exact hlt)⟩
          obtain ⟨ub, hub⟩ : ∃ ub, us'[k]? = some ub := ⟨_, List.getElem?_eq_getElem (show k < us'.length by rw [HUL2.out]; exact hlt)⟩
          have HRW := kide (HR.out.outg HGG.out HOU.out)
          obtain ⟨-, -, h | ⟨b2, o2, rfl, hc⟩⟩ := HRW.out
          · rw [h] at hl; simp at hl
          obtain ⟨p0, p1, p2⟩ := hc k _ hl
          simp only [] at p0 p1 p2
          have u0 : wr.cell? ⟨g, k, none⟩ = some (.bool ub) := by rw [cell_of HUG.out]; exact bls_get hub
          have u1 : wr.frozen? ⟨g, k, none⟩ = false := frozen_of_row wr g k _ _ HUG.out
          obtain ⟨⟨q1, q2⟩, ⟨q3, q4⟩, q5, q6⟩ := HOK.out _ (List.mem_of_getElem? hl)
          simp only [] at q1 q2 q3 q4 q5 q6
          obtain ⟨nA, rfl⟩ : ∃ m : Nat, lA = (m : Int) := ⟨lA.toNat, by omega⟩
          obtain ⟨nB, rfl⟩ : ∃ m : Nat, lB = (m : Int) := ⟨lB.toNat, by omega⟩
          have HL := kide hl
          have HUB := kide hub
          clear hc hl hub
          cases ub with
          | true =>
            have SK := kide (HNK.out.skip HL.out (.inl (by simp [List.getD, HUB.out])))
            clear HNK
            go_wp2_with fail
            go_roundw
            case rel => exact ⟨k + 1, us', S, by go_num, by omega, HUL2.out, HCF.out, HUG.out, HOU.out, SK.out⟩
            case measure => simp [intOf]; omega
          | false =>
            by_cases hA : nA = a
            · obtain ⟨nx, hnxe⟩ : ∃ nx, nB = nx := ⟨_, rfl⟩
              have hnx : nx < N := by omega
              have c1 : ((nA : Int) != (a : Int)) = false := by simp [hA]
              have c2 : (nA : Int) + (nB : Int) - (a : Int) = (nx : Int) := by omega
              have HAE := kide hA
              have HXE := kide hnxe
              clear hA hnxe
              have ENX : Hid (Ends ls k a nx) := ⟨_, HL.out, (.inl ⟨by simp [HAE.out], by simp [HXE.out]⟩)⟩
              have U2 : Hid ((wr.setCell ⟨g, k, none⟩ (.bool true)).heap[g]? = some (.cells (bls (us'.set k true)) 4 (0, 0))) := by show _ = _; rw [heap_setCell_same wr g k _ _ _ HUG.out, bls_set]
              have OS : Out g (g + 1) wr (wr.setCell ⟨g, k, none⟩ (.bool true)) := ⟨rfl, rfl, rfl, by simp, fun j hj hd => heap_setCell_other _ _ _ _ (by simp; omega)⟩
              have O2 := kide (HOU.out.trans OS)
              have R2 := kide (HRW.out.outg HGG.out OS)
              have hcf2 := cf_set HUB.out
              have CF2 : Hid (cf (us'.set k true) < m) := by have h1 := HCF.out; have h2 := HM.out; show _ < _; omega
              have CF3 : Hid (cf (us'.set k true) + 1 ≤ cf us) := by have h1 := HCF.out; show _ ≤ _; omega
              have HW := kide (fun u hu1 hu2 => IH.out (us'.set k true) CF2.out (by rw [List.length_set]; exact HUL2.out) nx b hnx hb u hu1 hu2)
              have hq1 : IntKind.i64.wrap ((nA : Int) + (nB : Int)) = (nA : Int) + (nB : Int) := by rw [IntKind.wrap_i64]; omega
              have hq2 : IntKind.i64.wrap (nx : Int) = (nx : Int) := by rw [IntKind.wrap_i64]; omega
              clear hcf2 OS HUG HOU HRW
              go_wp2_with fail
              generalize wr.setCell ⟨g, k, none⟩ (.bool true) = wt at *
              have hr2 := R2.out
              obtain ⟨-, -, h | ⟨b3, o3, e3, hc⟩⟩ := hr2
              · have := HL.out; rw [h] at this; simp at this
              obtain ⟨rfl, rfl⟩ : b2 = b3 ∧ o2 = o3 := by injection e3 with e3; injection e3 with e4 e5; exact ⟨e4, e5⟩
              obtain ⟨r0, r1, -⟩ := hc k _ HL.out
              simp only [] at r0 r1
              clear hc e3
              go_quiet (fail)
              go_wp2_with fail
              have hdn : Below wt.heap.size wt (wt.drewN nq) := below_drewN (Below.refl _ _) nq
              replace U2 : Hid ((wt.drewN nq).heap[g]? = some (.cells (bls (us'.set k true)) 4 (0, 0))) := by show _ = _; rw [hdn.block g (lt_of_block U2.out)]; exact U2.out
              replace O2 := kide (O2.out.trans (Out.below hdn))
              replace R2 := kide (R2.out.later hdn)
              clear hdn r0 r1
              generalize wt.drewN nq = w2 at *
              refine Calls.mono (HW.out w2 R2.out U2.out) ?_
              rintro e w3 ⟨us3, v3, hl3, hc3, hu3, ho3, ⟨p, rfl, hw3, hwk, hnd, hpu, hpc⟩ | ⟨T, rfl, hw3, hnf⟩⟩
              · have hr3 := R2.out.outg HGG.out ho3
                obtain ⟨-, -, h | ⟨b3, o3, e3, hc⟩⟩ := hr3
                · have := HL.out; rw [h] at this; simp at this
                obtain ⟨rfl, rfl⟩ : b2 = b3 ∧ o2 = o3 := by injection e3 with e3; injection e3 with e4 e5; exact ⟨e4, e5⟩
                obtain ⟨-, -, r2⟩ := hc k _ HL.out
                simp only [] at r2
                have hkp : k ∉ p := fun hm => by
                  have := hpu k hm
                  rw [set_getD us' k (by rw [HUL2.out]; exact hlt), if_pos rfl] at this
                  cases this
                have WK : Hid (Wk ls a (k :: p) b) := by
                  obtain ⟨l, h1, h2⟩ := ENX.out
                  refine ⟨l, h1, ?_⟩
                  rcases h2 with ⟨h3, h4⟩ | ⟨h3, h4⟩
                  · exact .inl ⟨h3, by rw [h4]; exact hwk⟩
                  · exact .inr ⟨h3, by rw [h4]; exact hwk⟩
                have ND : Hid ((k :: p).Nodup) := List.nodup_cons.2 ⟨hkp, hnd⟩
                have PU : Hid (∀ i ∈ k :: p, us.getD i false = false) := fun i hi => by
                  have hup := HNK.out.up i
                  have hno : us'.getD i false = false := by
                    rcases List.mem_cons.1 hi with rfl | hi
                    · simp [List.getD, HUB.out]
                    · have := hpu i hi
                      rw [set_getD us' k (by rw [HUL2.out]; exact hlt)] at this
                      split at this
                      · cases this
                      · exact this
                  cases e : us.getD i false with
                  | false => rfl
                  | true => have h9 : us'.getD i false = true := hup e; rw [hno] at h9; cases h9
                have PC : Hid ((k :: p).length ≤ cf us) := by have h1 := CF3.out; show _ ≤ _; simp only [List.length_cons]; omega
                have hpl : p.length ≤ 1000 := by have h1 := CF2.out; have h2 := cf_le (us'.set k true); rw [List.length_set, HUL2.out] at h2; omega
                have OWW := kide hw3
                have HU3 := kide hu3
                have HL3 := kide hl3
                have HC3 := kide hc3
                have HO3 := kide (O2.out.trans ho3)
                have hz3 : w2.heap.size ≤ w3.heap.size := ho3.2.2.2.1
                have hz2 : w.heap.size ≤ w2.heap.size := O2.out.2.2.2.1
                have hba : Hid (Below w3.heap.size w3 (w3.alloc (Obj.cells #[Value.int .i64 lY] 2))) := (Below.refl _ _).alloc (Nat.le_refl _) _
                have O1 : Hid (OW (w3.alloc (Obj.cells #[Value.int .i64 lY] 2)) w3.heap.size (.slice (some ⟨w3.heap.size, 0, none⟩) 1 1) [lY]) := ⟨rfl, .inr ⟨w3.heap.size, 1, #[Value.int .i64 lY], rfl, Nat.le_refl _, heap_alloc_new _ _, Nat.le_refl _, by unfold maxLen; omega, rfl, rfl⟩⟩
                have O3 : Hid (OW (w3.alloc (Obj.cells #[Value.int .i64 lY] 2)) w2.heap.size v3 (whyL ls p)) := own_later OWW.out hba.out
                have hgl3 : g < w3.heap.size := lt_of_block hu3
                clear hw3 hwk hnd hpu hpc hu3 hl3 hc3 ho3 hc e3 hkp HNK
                go_wp2_with (at_builtin; refine wpList_appWs rfl _ _ rfl w3.heap.size w2.heap.size _ _ [lY] (whyL ls p) rfl O1.out rfl O3.out (by unfold whyL; rw [List.length_map]; simp; omega) (by simp) ?_)
                intro v4 w4 ho4 hg4
                have B4 : Hid (Below w3.heap.size w3 w4) := Below.grown hba.out hg4 (Nat.le_trans (Nat.le_refl _) hba.out.size) (fun j hj => (own_lt O1.out hj).1)
                have W4 : Hid (OW w4 w.heap.size v4 (whyL ls (k :: p))) := by
                  have e : whyL ls (k :: p) = [lY] ++ whyL ls p := by unfold whyL; simp [List.getD, HL.out]
                  rw [e]
                  exact own_low ho4 (by omega)
                have U4 : Hid (w4.heap[g]? = some (.cells (bls us3) 4 (0, 0))) := by show _ = _; rw [B4.out.block g hgl3]; exact HU3.out
                have X4 := kide (HO3.out.trans (Out.below B4.out))
                have C4 : Hid (cf us3 ≤ cf us) := by have h1 := HC3.out; have h2 := CF3.out; show _ ≤ _; omega
                have L4 : Hid (us3.length = us.length) := by show _ = _; rw [HL3.out, List.length_set, HUL2.out, HUL.out]
                clear ho4 hg4 O1 O3 hba
                go_wp2_with fail
                go_returns
                exact ⟨us3, v4, L4.out, C4.out, U4.out, X4.out, .inl ⟨k :: p, rfl, W4.out, WK.out, ND.out, PU.out, PC.out⟩⟩
              · have SK := kide (HNK.out.step (nx := nx) HL.out (.inl ⟨by simp [HAE.out], by simp [HXE.out]⟩) (fun i => set_getD us' k (by rw [HUL2.out]; exact hlt) i) hnf)
                have HU3 := kide hu3
                have X3 := kide (O2.out.trans ho3)
                have C3 : Hid (cf us3 ≤ cf us) := by have h2 := CF3.out; show _ ≤ _; omega
                have L3 : Hid (us3.length = n) := by show _ = _; rw [hl3, List.length_set, HUL2.out]
                clear hu3 ho3 hl3 hc3 hw3 hnf HNK
                go_wp2_with fail
                go_roundw
                case rel => exact ⟨k + 1, us3, _, by go_num, by omega, L3.out, C3.out, HU3.out, X3.out, SK.out⟩
                case measure => simp [intOf]; omega
            · have c1 : ((nA : Int) != (a : Int)) = true := by simp; omega
              by_cases hB : nB = a
              · obtain ⟨nx, hnxe⟩ : ∃ nx, nA = nx := ⟨_, rfl⟩
                have hnx : nx < N := by omega
                have c2 : ((nB : Int) != (a : Int)) = false := by simp [hB]
                have c3 : (nA : Int) + (nB : Int) - (a : Int) = (nx : Int) := by omega
                have HBE := kide hB
                have HXE := kide hnxe
                clear hB hnxe
                have ENX : Hid (Ends ls k a nx) := ⟨_, HL.out, (.inr ⟨by simp [HBE.out], by simp [HXE.out]⟩)⟩
                have U2 : Hid ((wr.setCell ⟨g, k, none⟩ (.bool true)).heap[g]? = some (.cells (bls (us'.set k true)) 4 (0, 0))) := by show _ = _; rw [heap_setCell_same wr g k _ _ _ HUG.out, bls_set]
                have OS : Out g (g + 1) wr (wr.setCell ⟨g, k, none⟩ (.bool true)) := ⟨rfl, rfl, rfl, by simp, fun j hj hd => heap_setCell_other _ _ _ _ (by simp; omega)⟩
                have O2 := kide (HOU.out.trans OS)
                have R2 := kide (HRW.out.outg HGG.out OS)
                have hcf2 := cf_set HUB.out
                have CF2 : Hid (cf (us'.set k true) < m) := by have h1 := HCF.out; have h2 := HM.out; show _ < _; omega
                have CF3 : Hid (cf (us'.set k true) + 1 ≤ cf us) := by have h1 := HCF.out; show _ ≤ _; omega
                have HW := kide (fun u hu1 hu2 => IH.out (us'.set k true) CF2.out (by rw [List.length_set]; exact HUL2.out) nx b hnx hb u hu1 hu2)
                have hq1 : IntKind.i64.wrap ((nA : Int) + (nB : Int)) = (nA : Int) + (nB : Int) := by rw [IntKind.wrap_i64]; omega
                have hq2 : IntKind.i64.wrap (nx : Int) = (nx : Int) := by rw [IntKind.wrap_i64]; omega
                clear hcf2 OS HUG HOU HRW
                go_wp2_with fail
                generalize wr.setCell ⟨g, k, none⟩ (.bool true) = wt at *
                have hr2 := R2.out
                obtain ⟨-, -, h | ⟨b3, o3, e3, hc⟩⟩ := hr2
                · have := HL.out; rw [h] at this; simp at this
                obtain ⟨rfl, rfl⟩ : b2 = b3 ∧ o2 = o3 := by injection e3 with e3; injection e3 with e4 e5; exact ⟨e4, e5⟩
                obtain ⟨r0, r1, -⟩ := hc k _ HL.out
                simp only [] at r0 r1
                clear hc e3
                go_quiet (fail)
                go_wp2_with fail
                have hdn : Below wt.heap.size wt (wt.drewN nq) := below_drewN (Below.refl _ _) nq
                replace U2 : Hid ((wt.drewN nq).heap[g]? = some (.cells (bls (us'.set k true)) 4 (0, 0))) := by show _ = _; rw [hdn.block g (lt_of_block U2.out)]; exact U2.out
                replace O2 := kide (O2.out.trans (Out.below hdn))
                replace R2 := kide (R2.out.later hdn)
                clear hdn r0 r1
                generalize wt.drewN nq = w2 at *
                refine Calls.mono (HW.out w2 R2.out U2.out) ?_
                rintro e w3 ⟨us3, v3, hl3, hc3, hu3, ho3, ⟨p, rfl, hw3, hwk, hnd, hpu, hpc⟩ | ⟨T, rfl, hw3, hnf⟩⟩
                · have hr3 := R2.out.outg HGG.out ho3
                  obtain ⟨-, -, h | ⟨b3, o3, e3, hc⟩⟩ := hr3
                  · have := HL.out; rw [h] at this; simp at this
                  obtain ⟨rfl, rfl⟩ : b2 = b3 ∧ o2 = o3 := by injection e3 with e3; injection e3 with e4 e5; exact ⟨e4, e5⟩
                  obtain ⟨-, -, r2⟩ := hc k _ HL.out
                  simp only [] at r2
                  have hkp : k ∉ p := fun hm => by
                    have := hpu k hm
                    rw [set_getD us' k (by rw [HUL2.out]; exact hlt), if_pos rfl] at this
                    cases this
                  have WK : Hid (Wk ls a (k :: p) b) := by
                    obtain ⟨l, h1, h2⟩ := ENX.out
                    refine ⟨l, h1, ?_⟩
                    rcases h2 with ⟨h3, h4⟩ | ⟨h3, h4⟩
                    · exact .inl ⟨h3, by rw [h4]; exact hwk⟩
                    · exact .inr ⟨h3, by rw [h4]; exact hwk⟩
                  have ND : Hid ((k :: p).Nodup) := List.nodup_cons.2 ⟨hkp, hnd⟩
                  have PU : Hid (∀ i ∈ k :: p, us.getD i false = false) := fun i hi => by
                    have hup := HNK.out.up i
                    have hno : us'.getD i false = false := by
                      rcases List.mem_cons.1 hi with rfl | hi
                      · simp [List.getD, HUB.out]
                      · have := hpu i hi
                        rw [set_getD us' k (by rw [HUL2.out]; exact hlt)] at this
                        split at this
                        · cases this
                        · exact this
                    cases e : us.getD i false with
                    | false => rfl
                    | true => have h9 : us'.getD i false = true := hup e; rw [hno] at h9; cases h9
                  have PC : Hid ((k :: p).length ≤ cf us) := by have h1 := CF3.out; show _ ≤ _; simp only [List.length_cons]; omega
                  have hpl : p.length ≤ 1000 := by have h1 := CF2.out; have h2 := cf_le (us'.set k true); rw [List.length_set, HUL2.out] at h2; omega
                  have OWW := kide hw3
                  have HU3 := kide hu3
                  have HL3 := kide hl3
                  have HC3 := kide hc3
                  have HO3 := kide (O2.out.trans ho3)
                  have hz3 : w2.heap.size ≤ w3.heap.size := ho3.2.2.2.1
                  have hz2 : w.heap.size ≤ w2.heap.size := O2.out.2.2.2.1
                  have hba : Hid (Below w3.heap.size w3 (w3.alloc (Obj.cells #[Value.int .i64 lY] 2))) := (Below.refl _ _).alloc (Nat.le_refl _) _
                  have O1 : Hid (OW (w3.alloc (Obj.cells #[Value.int .i64 lY] 2)) w3.heap.size (.slice (some ⟨w3.heap.size, 0, none⟩) 1 1) [lY]) := ⟨rfl, .inr ⟨w3.heap.size, 1, #[Value.int .i64 lY], rfl, Nat.le_refl _, heap_alloc_new _ _, Nat.le_refl _, by unfold maxLen; omega, rfl, rfl⟩⟩
                  have O3 : Hid (OW (w3.alloc (Obj.cells #[Value.int .i64 lY] 2)) w2.heap.size v3 (whyL ls p)) := own_later OWW.out hba.out
                  have hgl3 : g < w3.heap.size := lt_of_block hu3
                  clear hw3 hwk hnd hpu hpc hu3 hl3 hc3 ho3 hc e3 hkp HNK
                  go_wp2_with (at_builtin; refine wpList_appWs rfl _ _ rfl w3.heap.size w2.heap.size _ _ [lY] (whyL ls p) rfl O1.out rfl O3.out (by unfold whyL; rw [List.length_map]; simp; omega) (by simp) ?_)
                  intro v4 w4 ho4 hg4
                  have B4 : Hid (Below w3.heap.size w3 w4) := Below.grown hba.out hg4 (Nat.le_trans (Nat.le_refl _) hba.out.size) (fun j hj => (own_lt O1.out hj).1)
                  have W4 : Hid (OW w4 w.heap.size v4 (whyL ls (k :: p))) := by
                    have e : whyL ls (k :: p) = [lY] ++ whyL ls p := by unfold whyL; simp [List.getD, HL.out]
                    rw [e]
                    exact own_low ho4 (by omega)
                  have U4 : Hid (w4.heap[g]? = some (.cells (bls us3) 4 (0, 0))) := by show _ = _; rw [B4.out.block g hgl3]; exact HU3.out
                  have X4 := kide (HO3.out.trans (Out.below B4.out))
                  have C4 : Hid (cf us3 ≤ cf us) := by have h1 := HC3.out; have h2 := CF3.out; show _ ≤ _; omega
                  have L4 : Hid (us3.length = us.length) := by show _ = _; rw [HL3.out, List.length_set, HUL2.out, HUL.out]
                  clear ho4 hg4 O1 O3 hba
                  go_wp2_with fail
                  go_returns
                  exact ⟨us3, v4, L4.out, C4.out, U4.out, X4.out, .inl ⟨k :: p, rfl, W4.out, WK.out, ND.out, PU.out, PC.out⟩⟩
                · have SK := kide (HNK.out.step (nx := nx) HL.out (.inr ⟨by simp [HBE.out], by simp [HXE.out]⟩) (fun i => set_getD us' k (by rw [HUL2.out]; exact hlt) i) hnf)
                  have HU3 := kide hu3
                  have X3 := kide (O2.out.trans ho3)
                  have C3 : Hid (cf us3 ≤ cf us) := by have h2 := CF3.out; show _ ≤ _; omega
                  have L3 : Hid (us3.length = n) := by show _ = _; rw [hl3, List.length_set, HUL2.out]
                  clear hu3 ho3 hl3 hc3 hw3 hnf HNK
                  go_wp2_with fail
                  go_roundw
                  case rel => exact ⟨k + 1, us3, _, by go_num, by omega, L3.out, C3.out, HU3.out, X3.out, SK.out⟩
                  case measure => simp [intOf]; omega
              · have c2 : ((nB : Int) != (a : Int)) = true := by simp; omega
                have SK := kide (HNK.out.skip HL.out (.inr (by simp; omega)))
                clear HNK
                go_wp2_with fail
                go_roundw
                case rel => exact ⟨k + 1, us', S, by go_num, by omega, HUL2.out, HCF.out, HUG.out, HOU.out, SK.out⟩
                case measure => simp [intOf]; omega
        · have hke : k = n := by omega
          have hl2 : ¬ (k : Int) < (n : Int) := by omega
          have NF := kide (Nk.end (by rw [HN.out, ← hke]; exact HNK.out))
          have hz := HOU.out.2.2.2.1
          have hba : Below wr.heap.size wr (wr.alloc (Obj.cells #[] 2)) := (Below.refl _ _).alloc (Nat.le_refl _) _
          have O0 := kide (own_low (OW.fresh wr wr.heap.size (Nat.le_refl _)) hz)
          have U0 : Hid ((wr.alloc (Obj.cells #[] 2)).heap[g]? = some (.cells (bls us') 4 (0, 0))) := by show _ = _; rw [hba.block _ (lt_of_block HUG.out)]; exact HUG.out
          have B0 := kide (HOU.out.trans (Out.below hba))
          clear hba hlt hke HNK
          go_wp2_with fail
          go_returns
          exact ⟨us', _, by rw [HUL2.out, HUL.out], HCF.out, U0.out, B0.out, .inr ⟨S, rfl, O0.out, NF.out⟩⟩

end Go.Proofs.Ytakicdlfolhhcaa
