/- What the given TreeOk and DepthOf answer. -/
import Derived.Test.YteainbakfeedpaaTF
namespace Go.Proofs.Yteainbakfeedpaa
set_option linter.unusedVariables false
set_option linter.unusedSimpArgs false
open Go.RowKit

theorem WL_some {len : Nat} {rec : Nat → Option (Nat × Nat)} {k : Int} {ks : List Int} {nx e d : Nat} (h : WL len rec (k :: ks) nx = some (e, d)) :
    k = (nx : Int) ∧ nx < len ∧ ∃ nx' d1 d2, rec nx = some (nx', d1) ∧ WL len rec ks nx' = some (e, d2) ∧ d = max d1 d2 := by
  rw [WL] at h
  split at h
  · cases h
  · rename_i hc
    cases hr : rec nx with
    | none => rw [hr] at h; cases h
    | some q =>
      obtain ⟨nx', d1⟩ := q
      rw [hr] at h
      cases hl : WL len rec ks nx' with
      | none => simp [hl] at h
      | some q2 =>
        obtain ⟨e2, d2⟩ := q2
        simp [hl] at h
        obtain ⟨rfl, rfl⟩ := h
        refine ⟨?_, by omega, nx', d1, d2, rfl, hl, rfl⟩
        by_cases hk : k = (nx : Int)
        · exact hk
        · exact absurd (.inl hk) hc

theorem W_some {cs : List Ct} {f p deep e d : Nat} (h : W cs (f + 1) p deep = some (e, d)) :
    okC (cs.getD p (.empty, [])) = true ∧ ∃ d', WL cs.length (fun nx => W cs f nx (deep + 1)) (cs.getD p (.empty, [])).2 (p + 1) = some (e, d') ∧ d = if (cs.getD p (.empty, [])).1.size = 0 then d' + 1 else 0 := by
  rw [W] at h
  split at h
  · cases h
  · rename_i hc
    cases hl : WL cs.length (fun nx => W cs f nx (deep + 1)) (cs.getD p (.empty, [])).2 (p + 1) with
    | none => rw [hl] at h; cases h
    | some q =>
      obtain ⟨e2, d2⟩ := q
      rw [hl] at h
      simp only [Option.some.injEq, Prod.mk.injEq] at h
      obtain ⟨rfl, rfl⟩ := h
      refine ⟨?_, d2, rfl, rfl⟩
      cases ho : okC (cs.getD p (.empty, [])) with
      | true => rfl
      | false => exact absurd (.inr ho) hc

theorem W_depth_le {cs : List Ct} {f p deep e d : Nat} (h : W cs f p deep = some (e, d)) : deep + d ≤ 101 := by
  induction f generalizing p deep e d with
  | zero => simp [W] at h
  | succ f ih =>
    have hd : deep ≤ 100 := by
      rw [W] at h
      split at h
      · cases h
      · rename_i hc; omega
    obtain ⟨-, d', hl, hd'⟩ := W_some h
    have key : ∀ (ks : List Int) (nx e d' : Nat), WL cs.length (fun nx => W cs f nx (deep + 1)) ks nx = some (e, d') → deep + 1 + d' ≤ 101 := by
      intro ks
      induction ks with
      | nil => intro nx e d' h; simp [WL] at h; omega
      | cons k ks ihk =>
        intro nx e d' h
        obtain ⟨-, -, nx', d1, d2, h1, h2, rfl⟩ := WL_some h
        have := ih h1
        have := ihk _ _ _ h2
        omega
    have := key _ _ _ _ hl
    split at hd' <;> omega

set_option maxHeartbeats 1000000 in
theorem l2Depth_any (ns : List Nd) (hN : ns.length ≤ 2000) (f : Nat) : ∀ (p deep e1 d1 : Nat) (a : Option Addr) (c : Nat) (w : World), RdN w a ns → p < ns.length → W (ns.map Nd.ct) f p deep = some (e1, d1) →
    Calls Try.prog 49 #[.agg #[.slice a ns.length c], .int .i64 (p : Int)] w fun e w' => e = .returned (.int .i64 (d1 : Int)) ∧ Below w.heap.size w w' := by
  induction f with
  | zero => intro p deep e1 d1 a c w hr hp hw; simp [W] at hw
  | succ f ih =>
    intro p deep e1 d1 a c w hr hp hw
    have hr0 := hr
    obtain ⟨-, h | ⟨b, o, rfl, hc⟩⟩ := hr
    · subst h; simp at hp
    obtain ⟨⟨s, ak, ck, ks⟩, hx⟩ : ∃ x, ns[p] = x := ⟨_, rfl⟩
    have gx : ns[p]? = some ⟨s, ak, ck, ks⟩ := by rw [List.getElem?_eq_getElem hp, hx]
    obtain ⟨p0, p1, p2, p3⟩ := hc p _ gx
    simp only [] at p0 p1 p2 p3
    have hlk := p2.1
    have hpi : (p : Int) < (ns.length : Int) := by omega
    have hbb : b < w.heap.size := block_lt_of_cell p0
    have g := getD_ct gx
    have hd1 := W_depth_le hw
    obtain ⟨ho, d', hl, hd⟩ := W_some hw
    rw [g] at ho hl hd
    rw [List.length_map] at hl
    have hdy : s.size = 0 → d1 = d' + 1 := fun h => hd.trans (if_pos h)
    have hdn : s.size ≠ 0 → d1 = 0 := fun h => hd.trans (if_neg h)
    simp only [Nd.ct] at ho hl
    clear hc hx gx g hw hd
    have B0 := (Bx.start w (.slice (some ⟨b, o, none⟩) ns.length c) (.string s) (.slice ak ks.length ck) 26 59).below
    by_cases hz : s.size = 0
    · have hd := hdy hz
      clear hdy hdn
      subst hd
      have hse := emp_of hz
      subst hse
      have HL : Hid _ := hl
      clear ho hz p3 hl
      go_enter Try.func49, Try.ntmps49
      go_wp2_with fail
      go_loopw [6, 7] (fun q i wr => ∃ (j nx m d2 : Nat), j ≤ ks.length ∧ i = .int .i64 (j : Int) ∧ q = .int .i64 (m : Int) ∧ p < nx ∧ WL ns.length (fun nx => W (ns.map Nd.ct) f nx (deep + 1)) (ks.drop j) nx = some (e1, d2) ∧ max m d2 = d' ∧
          Bx w (.slice (some ⟨b, o, none⟩) ns.length c) (.string ⟨#[]⟩) (.slice ak ks.length ck) 26 59 wr) (fun _ i _ => ks.length - (intOf i).toNat)
      case atStart => exact ⟨0, p + 1, 0, d', Nat.zero_le _, rfl, rfl, by omega, by rw [List.drop_zero]; exact HL.out, by omega, Bx.start _ _ _ _ _ _⟩
      case round =>
        obtain ⟨j, nx, m, d2, hj, rfl, rfl, hnx1, hq, hmd, hbx⟩ := hrel
        obtain ⟨c0, c1, c2⟩ := hbx.cells
        have hsz := hbx.size
        have HX : Hid _ := hbx
        have HR0 := show Hid _ from hr0.later hbx.below
        have hk2 : RdI wr ak ks := p2.later hbx.below
        clear B0 hbx p0 p1
        by_cases hlt : j < ks.length
        · obtain ⟨hk0, -, hk | ⟨kb, ko, rfl, hkc⟩⟩ := hk2
          · subst hk; simp at hlt
          have e0 := hkc j hlt
          have hdr : ks.drop j = ks.getD j 0 :: ks.drop (j + 1) := by
            rw [List.drop_eq_getElem_cons hlt]; simp [List.getD, hlt]
          rw [hdr] at hq
          obtain ⟨hkv, hnl, nx', dk, dr, h1, h2, h3⟩ := WL_some hq
          rw [hkv] at e0
          have hji : (j : Int) < (ks.length : Int) := by omega
          have hdk := W_depth_le h1
          have hle := W_le (by simpa using hnl) h1
          have HC := show Hid _ from fun u hu => ih nx (deep + 1) nx' dk (some ⟨b, o, none⟩) c u hu (by omega) h1
          have HS : Hid (WL ns.length (fun nx => W (ns.map Nd.ct) f nx (deep + 1)) (ks.drop (j + 1)) nx' = some (e1, dr) ∧ max (max m dk) dr = d') := ⟨h2, by omega⟩
          have hm : m ≤ 101 := by omega
          have l0 : w.heap.size < wr.heap.size := by omega
          have l1 : w.heap.size + 1 < wr.heap.size := by omega
          have l2 := block_lt_of_cell e0
          clear hkc hdr ih hq h1 h2 h3 hkv
          go_wp2_with fail
          first
            | (go_region_held3 (fun u => u.cell? ⟨w.heap.size, 0, none⟩ = some (Value.slice (some ⟨b, o, none⟩) ns.length c) ∧ u.cell? ⟨w.heap.size + 1, 1, none⟩ = some (Value.slice (some ⟨kb, ko, none⟩) ks.length ck) ∧ u.cell? ⟨kb, ko + j, none⟩ = some (Value.int IntKind.i64 (nx : Int))) (simp [*])
              ((go_at_call 49; refine Calls.mono (HC.out _ ?_) ?_; exact RdN.later HR0.out ((Below.refl _ _).drew); rintro e w1 ⟨rfl, hb1⟩; replace hb1 := undrew hb1; have k0 := (bcell hb1).1 w.heap.size 0 l0; have k1 := (bcell hb1).1 (w.heap.size + 1) 1 l1; have k2 := (bcell hb1).1 kb (ko + j) l2)))
            | fail
          go_wp2_with fail
          go_roundw
          case rel =>
            refine ⟨j + 1, nx', max m dk, dr, by omega, by go_num, ?_, by omega, HS.out.1, HS.out.2, Bx.next HX.out hb1⟩
            first | go_num | (simp; done) | exact (0 : Nat)
          case measure => simp [intOf]; omega
        · have e : j = ks.length := by omega
          rw [e, List.drop_length, WL] at hq
          simp at hq
          have HQ : Hid (m = d') := by show _ = _; omega
          clear hq ih
          have hm : m ≤ 101 := by omega
          go_wp2_with fail
          go_ret
          exact ⟨ret_int (by rw [HQ.out]; omega), Bx.below HX.out⟩
    · have hd := hdn hz
      clear hdy hdn
      subst hd
      have hz1 := ne_emp hz
      clear ih hl ho
      go_enter Try.func49, Try.ntmps49
      go_wp2_with fail
      go_ret
      exact ⟨rfl, B0⟩

end Go.Proofs.Yteainbakfeedpaa
