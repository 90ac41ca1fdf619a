/- What the given functions that walk a tree from its root down answer. -/
import Derived.Test.YteainbakfeedpaaTE
namespace Go.Proofs.Yteainbakfeedpaa
set_option linter.unusedVariables false
set_option linter.unusedSimpArgs false
open Go.RowKit

def codeW : Option (Nat × Nat) → Int
  | none => -1
  | some (e, _) => (e : Int)

theorem codeW_cons {len : Nat} {rec : Nat → Option (Nat × Nat)} {k : Int} {ks : List Int} {nx : Nat} (h : ¬ (k ≠ (nx : Int) ∨ len ≤ nx)) :
    codeW (WL len rec (k :: ks) nx) = match rec nx with | none => -1 | some (nx', _) => codeW (WL len rec ks nx') := by
  rw [WL, if_neg h]
  cases rec nx with
  | none => rfl
  | some q =>
    obtain ⟨nx', d⟩ := q
    simp only []
    cases WL len rec ks nx' with
    | none => rfl
    | some q2 => obtain ⟨e, d2⟩ := q2; rfl

theorem codeW_no {len : Nat} {rec : Nat → Option (Nat × Nat)} {k : Int} {ks : List Int} {nx : Nat} (h : k ≠ (nx : Int) ∨ len ≤ nx) : codeW (WL len rec (k :: ks) nx) = -1 := by
  rw [WL, if_pos h]; rfl

theorem W_stop {cs : List Ct} {f p deep : Nat} (h : 100 < deep ∨ okC (cs.getD p (.empty, [])) = false) : codeW (W cs (f + 1) p deep) = -1 := by
  rw [W, if_pos h]; rfl
theorem W_go {cs : List Ct} {f p deep : Nat} (h : ¬ (100 < deep ∨ okC (cs.getD p (.empty, [])) = false)) :
    codeW (W cs (f + 1) p deep) = codeW (WL cs.length (fun nx => W cs f nx (deep + 1)) (cs.getD p (.empty, [])).2 (p + 1)) := by
  rw [W, if_neg h]
  cases WL cs.length (fun nx => W cs f nx (deep + 1)) (cs.getD p (.empty, [])).2 (p + 1) with
  | none => rfl
  | some q => obtain ⟨e, d⟩ := q; rfl

theorem getD_ct {ns : List Nd} {p : Nat} {n : Nd} (h : ns[p]? = some n) : (ns.map Nd.ct).getD p (.empty, []) = n.ct := by
  simp [List.getD, h]

theorem emp_of {s : ByteArray} (h : s.size = 0) : s = ⟨#[]⟩ := ByteArray.ext (Array.eq_empty_of_size_eq_zero h)
theorem ne_emp {s : ByteArray} (h : s.size ≠ 0) : s.toList.isEmpty = false := by
  rw [ByteArray.toList_eq]
  cases hd : s.data.toList with
  | nil => exact absurd (by have := congrArg List.length hd; simpa using this) h
  | cons x y => rfl

/-- The two boxes of a call still stand. -/
def Bx (w : World) (x y z : Value) (t1 t2 : TypeId) (wr : World) : Prop := Below (w.heap.size + 1 + 1) ((w.alloc (Obj.cells #[x] t1)).alloc (Obj.cells #[y, z] t2)) wr

theorem Bx.cells {w wr : World} {x y z : Value} {t1 t2 : TypeId} (h : Bx w x y z t1 t2 wr) : wr.cell? ⟨w.heap.size, 0, none⟩ = some x ∧ wr.cell? ⟨w.heap.size + 1, 0, none⟩ = some y ∧ wr.cell? ⟨w.heap.size + 1, 1, none⟩ = some z := by
  refine ⟨?_, ?_, ?_⟩
  · rw [Below.cell h (by simp; omega)]; simp
  · rw [Below.cell h (by simp)]; simp
  · rw [Below.cell h (by simp)]; simp
theorem Bx.below {w wr : World} {x y z : Value} {t1 t2 : TypeId} (h : Bx w x y z t1 t2 wr) : Below w.heap.size w wr :=
  Below.trans (Below.alloc (Below.alloc (Below.refl _ _) (Nat.le_refl _) _) (by simp) _) (Below.mono h (by omega))
theorem Bx.size {w wr : World} {x y z : Value} {t1 t2 : TypeId} (h : Bx w x y z t1 t2 wr) : w.heap.size + 1 + 1 ≤ wr.heap.size := by
  have := Below.size h
  simpa using this
theorem Bx.next {w wr w1 : World} {x y z : Value} {t1 t2 : TypeId} (h : Bx w x y z t1 t2 wr) (hb : Below wr.heap.size wr w1) : Bx w x y z t1 t2 w1 := Below.trans h (hb.mono h.size)
theorem Bx.start (w : World) (x y z : Value) (t1 t2 : TypeId) : Bx w x y z t1 t2 ((w.alloc (Obj.cells #[x] t1)).alloc (Obj.cells #[y, z] t2)) := Below.refl _ _

set_option maxHeartbeats 1000000 in
theorem l2Walk_any (ns : List Nd) (hN : ns.length ≤ 2000) (f : Nat) : ∀ (p deep : Nat) (a : Option Addr) (c : Nat) (w : World), RdN w a ns → p < ns.length → ns.length - p ≤ f → deep ≤ 101 →
    Calls Try.prog 44 #[.agg #[.slice a ns.length c], .int .i64 (p : Int), .int .i64 (deep : Int)] w fun e w' => e = .returned (.int .i64 (codeW (W (ns.map Nd.ct) f p deep))) ∧ Below w.heap.size w w' := by
  induction f with
  | zero => intro p deep a c w hr hp hf; omega
  | succ f ih =>
    intro p deep a c w hr hp hf hdeep
    have hr0 := hr
    obtain ⟨-, h | ⟨b, o, rfl, hc⟩⟩ := hr
    · subst h; simp at hp
    obtain ⟨⟨s, ak, ck, ks⟩, hx⟩ : ∃ x, ns[p] = x := ⟨_, rfl⟩
    have gx : ns[p]? = some ⟨s, ak, ck, ks⟩ := by rw [List.getElem?_eq_getElem hp, hx]
    obtain ⟨p0, p1, p2, p3⟩ := hc p _ gx
    simp only [] at p0 p1 p2 p3
    have hlk := p2.1
    have hpi : (p : Int) < (ns.length : Int) := by omega
    have hbb : b < w.heap.size := block_lt_of_cell p0
    have g := getD_ct gx
    clear hc hx gx
    have B0 := (Bx.start w (.slice (some ⟨b, o, none⟩) ns.length c) (.string s) (.slice ak ks.length ck) 26 59).below
    by_cases hd : 100 < deep
    · have HR : Hid _ := W_stop (cs := ns.map Nd.ct) (f := f) (p := p) (deep := deep) (.inl hd)
      clear ih
      go_enter Try.func44, Try.ntmps44
      go_wp2_with fail
      go_ret
      exact ⟨ret_int HR.out.symm, B0⟩
    by_cases ho : okC ((ns.map Nd.ct).getD p (.empty, [])) = false
    · have HR : Hid _ := W_stop (cs := ns.map Nd.ct) (f := f) (p := p) (deep := deep) (.inr ho)
      rw [g] at ho
      simp only [okC, Nd.ct] at ho
      clear ih g
      have hz : s.size ≠ 0 := fun h => by simp [h] at ho
      have hz1 := ne_emp hz
      have hz2 : 0 < s.size := by omega
      have HA := fun u => l2Atom_any s (by omega) u
      simp only [hz, hz2, decide_false, decide_true, Bool.false_or, Bool.and_true] at ho HA
      generalize allAtom s = r at *
      have HA' : Hid _ := HA
      clear HA
      cases r with
      | false =>
        go_enter Try.func44, Try.ntmps44
        go_wp2_with (go_at_call 62; refine Calls.mono (HA'.out _) ?_; rintro e w1 ⟨rfl, rfl⟩)
        go_ret
        exact ⟨ret_int HR.out.symm, B0⟩
      | true =>
        simp at ho
        have hkp : 0 < ks.length := List.length_pos_iff.2 ho
        have hkp' : (0 : Int) < (ks.length : Int) := by omega
        clear ho
        go_enter Try.func44, Try.ntmps44
        go_wp2_with (go_at_call 62; refine Calls.mono (HA'.out _) ?_; rintro e w1 ⟨rfl, rfl⟩)
        go_ret
        exact ⟨ret_int HR.out.symm, B0⟩
    have HG := W_go (cs := ns.map Nd.ct) (f := f) (p := p) (deep := deep) (by rintro (h | h); exact hd h; exact ho h)
    rw [g, List.length_map] at HG
    simp only [Nd.ct] at HG
    rw [HG]
    rw [g] at ho
    simp only [okC, Nd.ct] at ho
    clear g HG
    by_cases hz : s.size = 0
    · have hse := emp_of hz
      subst hse
      generalize hZ : codeW (WL ns.length (fun nx => W (ns.map Nd.ct) f nx (deep + 1)) ks (p + 1)) = Z
      have HZ : Hid _ := hZ
      clear hZ ho hz p3
      go_enter Try.func44, Try.ntmps44
      go_wp2_with fail
      go_loopw [8, 9] (fun q i wr => ∃ (j nx : Nat), j ≤ ks.length ∧ i = .int .i64 (j : Int) ∧ q = .int .i64 (nx : Int) ∧ p < nx ∧ nx ≤ ns.length ∧ codeW (WL ns.length (fun nx => W (ns.map Nd.ct) f nx (deep + 1)) (ks.drop j) nx) = Z ∧
          Bx w (.slice (some ⟨b, o, none⟩) ns.length c) (.string ⟨#[]⟩) (.slice ak ks.length ck) 26 59 wr) (fun _ i _ => ks.length - (intOf i).toNat)
      case atStart => exact ⟨0, p + 1, Nat.zero_le _, rfl, by go_num, by omega, by omega, by rw [List.drop_zero]; exact HZ.out, Bx.start _ _ _ _ _ _⟩
      case round =>
        obtain ⟨j, nx, hj, rfl, rfl, hnx1, hnx2, hq, hbx⟩ := hrel
        obtain ⟨c0, c1, c2⟩ := hbx.cells
        have hsz := hbx.size
        have HX : Hid _ := hbx
        have HR0 := show Hid _ from hr0.later hbx.below
        have hk2 : RdI wr ak ks := p2.later hbx.below
        clear B0 hbx p0 p1
        by_cases hlt : j < ks.length
        · obtain ⟨hk0, -, hk | ⟨kb, ko, rfl, hkc⟩⟩ := hk2
          · subst hk; simp at hlt
          have e0 := hkc j hlt
          have hdr : ks.drop j = ks.getD j 0 :: ks.drop (j + 1) := by
            rw [List.drop_eq_getElem_cons hlt]; simp [List.getD, hlt]
          rw [hdr] at hq
          generalize ks.getD j 0 = kv at *
          have hji : (j : Int) < (ks.length : Int) := by omega
          clear hkc hdr
          by_cases hkv : kv = (nx : Int)
          · subst hkv
            by_cases hle : ns.length ≤ nx
            · rw [codeW_no (.inr hle)] at hq
              have HQ : Hid _ := hq
              have hne : ((nx : Int) != (nx : Int)) = false := by simp
              have hge : (ns.length : Int) ≤ (nx : Int) := by omega
              clear hq ih hle
              go_wp2_with fail
              go_ret
              exact ⟨ret_int HQ.out, Bx.below HX.out⟩
            · rw [codeW_cons (by rintro (h | h); exact h rfl; exact hle h)] at hq
              have hne : ((nx : Int) != (nx : Int)) = false := by simp
              have hcall := fun u hu => ih nx (deep + 1) (some ⟨b, o, none⟩) c u hu (by omega) (by omega) (by omega)
              have hWle := fun e d (h : W (ns.map Nd.ct) f nx (deep + 1) = some (e, d)) => W_le (by simpa using (by omega : nx < ns.length)) h
              generalize W (ns.map Nd.ct) f nx (deep + 1) = R at *
              have HQ : Hid _ := hq
              have HC : Hid _ := hcall
              have hlt2 : (nx : Int) < (ns.length : Int) := by omega
              cases R with
              | none =>
                clear hq hcall hWle ih hle
                go_wp2_with fail
                refine Calls.mono (HC.out wr HR0.out) ?_
                rintro e w1 ⟨rfl, hb1⟩
                simp only [codeW]
                go_wp2_with fail
                go_ret
                exact ⟨ret_int HQ.out, Bx.below (Bx.next HX.out hb1)⟩
              | some q =>
                obtain ⟨e1, d1⟩ := q
                have he := hWle e1 d1 rfl
                rw [List.length_map] at he
                obtain ⟨he1, he2⟩ := he
                clear hq hcall hWle ih hle
                go_wp2_with fail
                refine Calls.mono (HC.out wr HR0.out) ?_
                rintro e w1 ⟨rfl, hb1⟩
                simp only [codeW]
                obtain ⟨d0, d1', d2⟩ := Bx.cells (Bx.next HX.out hb1)
                go_wp2_with fail
                go_roundw
                case rel => exact ⟨j + 1, e1, by omega, by go_num, rfl, by omega, he2, HQ.out, Bx.next HX.out hb1⟩
                case measure => simp [intOf]; omega
          · rw [codeW_no (.inl hkv)] at hq
            have HQ : Hid _ := hq
            have hne : (kv != (nx : Int)) = true := by simpa using hkv
            clear hq ih hkv
            go_wp2_with fail
            go_ret
            exact ⟨ret_int HQ.out, Bx.below HX.out⟩
        · have e : j = ks.length := by omega
          rw [e, List.drop_length, WL, codeW] at hq
          have HQ : Hid _ := hq
          clear hq ih
          go_wp2_with fail
          go_ret
          exact ⟨ret_int HQ.out, Bx.below HX.out⟩
    · have hz1 := ne_emp hz
      have hz2 : 0 < s.size := by omega
      have HA := fun u => l2Atom_any s (by omega) u
      simp [hz] at ho
      obtain ⟨ha, rfl⟩ := ho
      simp only [ha, hz2, decide_true, Bool.and_true] at HA
      have HA' : Hid _ := HA
      have hW : codeW (WL ns.length (fun nx => W (ns.map Nd.ct) f nx (deep + 1)) [] (p + 1)) = (p : Int) + 1 := by simp [WL, codeW]
      rw [hW]
      clear HA hW ih ha
      go_enter Try.func44, Try.ntmps44
      go_wp2_with (go_at_call 62; refine Calls.mono (HA'.out _) ?_; rintro e w1 ⟨rfl, rfl⟩)
      refine wp_loop_rounds 1 ?_; rw [rounds_succ]
      go_wp2_with fail
      go_ret
      exact ⟨rfl, B0⟩

end Go.Proofs.Yteainbakfeedpaa
