/- Reasons: the given side. -/
import Derived.Test.YtakicdlfolhhcaaREH
import Derived.Test.YtakicdlfolhhcaaGR
namespace Go.Proofs.Ytakicdlfolhhcaa
set_option linter.unusedVariables false
set_option linter.unusedSimpArgs false
open Go.RowKit

theorem Try.infoFlagR : (Try.prog.info? 4).map (fun i => (i.zero, i.size, i.bytes)) = some (some (.bool false), 1, 1) := by kernel_rfl
theorem made_bls (n : Nat) : madeCells #[Value.bool false] n = bls (List.replicate n false) := by
  unfold madeCells bls
  apply Array.ext_getElem?
  intro i
  by_cases hi : i < n
  · simp [hi]
    rw [show i % 1 = 0 by omega]
    rfl
  · simp [hi]
theorem rep_getD (n i : Nat) : (List.replicate n false).getD i false = false := by
  simp only [List.getD, List.getElem?_replicate]
  split <;> rfl

theorem RetV.uni {ls : List Lk} {n N g na nb : Nat} {L : Nat → Nat} {Z : List Int × Bool} {u w' : World} {e : Ending} (h : RetV ls (List.replicate n false) g na nb u e w') (hgo : goF N id ls = some L) (hf : forR (N : Int) ls = some L) (hna : na < N) (hnb : nb < N) (hn : n ≤ 1000) (hok : ∀ l ∈ ls, (0 ≤ l.1 ∧ l.1 < (N : Int)) ∧ (0 ≤ l.2.1 ∧ l.2.1 < (N : Int)) ∧ (0 ≤ l.2.2 ∧ l.2.2 ≤ 1000000)) (hZ : ReaOk (N : Int) ls (na : Int) (nb : Int) Z) :
    ∃ v ks, e = .returned (.tuple #[v, .bool Z.2]) ∧ OW w' u.heap.size v ks ∧ risI [] ks = Z.1 ∧ ks.length ≤ 1000 ∧ (∀ x ∈ ks, in64 x) ∧ Out g (g + 1) u w' := by
  obtain ⟨us', v, -, -, -, ho, ⟨p, rfl, hw, hwk, hnd, -, hpc⟩ | ⟨S, rfl, hw, hnf⟩⟩ := h
  · obtain ⟨h1, h2⟩ := hZ.yes L hf ⟨by omega, by omega⟩ ⟨by omega, by omega⟩ (by simpa using hwk.joins hgo)
    refine ⟨v, whyL ls p, by rw [h1], hw, ?_, ?_, ?_, ho⟩
    · rw [ris_eq (ys := whyL ls p) (fun _ => Iff.rfl)]
      exact h2 p (.inl (by simpa using hwk)) hnd
    · have := cf_le (List.replicate n false)
      rw [List.length_replicate] at this
      unfold whyL
      rw [List.length_map]
      omega
    · intro x hx
      unfold whyL at hx
      obtain ⟨k, hk, rfl⟩ := List.mem_map.1 hx
      obtain ⟨l, hl⟩ := hwk.in k hk
      have := (hok l (List.mem_of_getElem? hl)).2.2
      simp only [List.getD, hl, Option.getD_some]
      unfold in64
      omega
  · have hne := hnf.apart hgo (fun i l _ => rep_getD n i)
    have hz : Z = ([], false) := hZ.no (fun L' h' _ _ => by
      rw [hf] at h'
      cases h'
      simpa using hne)
    subst hz
    exact ⟨v, [], rfl, hw, rfl, by simp, by simp, ho⟩

set_option maxHeartbeats 1000000 in
set_option maxRecDepth 100000 in
theorem specReasons_any (z : Int) (a : Option Addr) (n c : Nat) (ls : List Lk) (x y : Int) (Z : List Int × Bool) (w : World) (hr : RdK w a ls) (hn : ls.length = n) (hZ : ReaOk z ls x y Z) :
    Calls Try.prog 29 #[.agg #[.int .i64 z, .slice a n c], .int .i64 x, .int .i64 y] w (RetZ w Z) := by
  have s0 := St.start w (.cells #[.int .i64 z, .slice a n c] 29)
  have HC := kide (specForest_any z a n c ls _ (hr.later s0.below) hn)
  have HNX := kide (fun u (hz : 0 ≤ z ∧ z ≤ 1000) => l7Node_any z x a n c u hz)
  have HNY := kide (fun u (hz : 0 ≤ z ∧ z ≤ 1000) => l7Node_any z y a n c u hz)
  have HR := kide hr
  have HN := kide hn
  have HZ := kide hZ
  have S0 := kide s0
  have hn2 : n ≤ 1048576 := by rw [← hn]; exact hr.1
  clear hr hn s0 hZ
  have ZNO : Hid (∀ u : World, Below w.heap.size w u → RetZ w ([], false) (.returned (.tuple #[.slice (some ⟨u.heap.size, 0, none⟩) 0 0, .bool false])) (u.alloc (Obj.cells #[] 2))) := fun u hu => ⟨_, rfl, own_low (OW.fresh u u.heap.size (Nat.le_refl _)) hu.size, hu.trans ((Below.refl _ _).alloc hu.size _)⟩
  cases hf : forR z ls with
  | none =>
    have hres : Z = ([], false) := HZ.out.no (fun L h => by rw [hf] at h; cases h)
    subst hres
    rw [hf] at HC
    simp only [Option.isSome_none] at HC
    clear HNX HNY
    go_enter Try.func29, Try.ntmps29
    go_wp2_with (go_at_call 12; refine Calls.mono HC.out ?_; rintro e w1 ⟨rfl, hb1⟩; have s1 := kide (S0.out.next hb1); clear hb1)
    go_returns
    exact ZNO.out _ s1.out.below
  | some L =>
    rw [hf] at HC
    simp only [Option.isSome_some] at HC
    have hz := (forR_len hf).1
    have hzl := (forR_len hf).2
    have HX2 := kide (fun u => HNX.out u hz)
    have HY2 := kide (fun u => HNY.out u hz)
    obtain ⟨N, rfl⟩ : ∃ N : Nat, z = (N : Int) := ⟨z.toNat, by omega⟩
    have hgo : goF N id ls = some L := by
      unfold forR at hf
      rw [if_pos hz, Int.toNat_natCast] at hf
      exact hf
    have HGO := kide hgo
    have HF := kide hf
    have HOK := kide (forR_ok hf)
    clear HNX HNY hgo hf
    by_cases hx : 0 ≤ x ∧ x ≤ (N : Int) - 1
    case neg =>
      simp only [decide_eq_false hx] at HX2
      have hres : Z = ([], false) := HZ.out.no (fun L _ h => absurd ⟨h.1, by omega⟩ hx)
      subst hres
      go_enter Try.func29, Try.ntmps29
      go_wp2_with (first
        | (go_at_call 12; refine Calls.mono HC.out ?_; rintro e w1 ⟨rfl, hb1⟩; have s1 := kide (S0.out.next hb1); have q0 := s1.out.cell 0; have q1 := s1.out.cell 1; simp at q0 q1; clear hb1)
        | (go_at_call 45; refine Calls.mono (HX2.out _) ?_; rintro e w2 ⟨rfl, hb2⟩; have s2 := kide (s1.out.next hb2); clear hb2))
      go_returns
      exact ZNO.out _ s2.out.below
    simp only [decide_eq_true hx] at HX2
    by_cases hy : 0 ≤ y ∧ y ≤ (N : Int) - 1
    case neg =>
      simp only [decide_eq_false hy] at HY2
      have hres : Z = ([], false) := HZ.out.no (fun L _ _ h => absurd ⟨h.1, by omega⟩ hy)
      subst hres
      go_enter Try.func29, Try.ntmps29
      go_wp2_with (first
        | (go_at_call 12; refine Calls.mono HC.out ?_; rintro e w1 ⟨rfl, hb1⟩; have s1 := kide (S0.out.next hb1); have q0 := s1.out.cell 0; have q1 := s1.out.cell 1; simp at q0 q1; clear hb1)
        | (go_at_call 45; with_reducible refine Calls.mono (HY2.out _) ?_; rintro e w3 ⟨rfl, hb3⟩; have s3 := kide (s2.out.next hb3); clear hb3)
        | (go_at_call 45; with_reducible refine Calls.mono (HX2.out _) ?_; rintro e w2 ⟨rfl, hb2⟩; have s2 := kide (s1.out.next hb2); have r0 := s2.out.cell 0; have r1 := s2.out.cell 1; simp at r0 r1; clear hb2))
      go_returns
      exact ZNO.out _ s3.out.below
    simp only [decide_eq_true hy] at HY2
    obtain ⟨na, rfl⟩ : ∃ m : Nat, x = (m : Int) := ⟨x.toNat, by omega⟩
    obtain ⟨nb, rfl⟩ : ∃ m : Nat, y = (m : Int) := ⟨y.toNat, by omega⟩
    have hna : na < N := by omega
    have hnb : nb < N := by omega
    have hn3 : n ≤ 1000 := by have := HN.out; omega
    have hmk := fun kl kc w => run_make_row' (P := Try.prog) 87 4 (.bool false) 1 Try.underlying87 Try.infoFlagR rfl kl kc n (by omega) (by omega) w
    go_enter Try.func29, Try.ntmps29
    go_wp2_with (first
      | (go_at_call 12; refine Calls.mono HC.out ?_; rintro e w1 ⟨rfl, hb1⟩; have s1 := kide (S0.out.next hb1); have q0 := s1.out.cell 0; have q1 := s1.out.cell 1; simp at q0 q1; clear hb1)
      | (go_at_call 45; with_reducible refine Calls.mono (HY2.out _) ?_; rintro e w3 ⟨rfl, hb3⟩; have s3 := kide (s2.out.next hb3); have t0 := s3.out.cell 0; have t1 := s3.out.cell 1; simp at t0 t1; clear hb3)
      | (go_at_call 45; with_reducible refine Calls.mono (HX2.out _) ?_; rintro e w2 ⟨rfl, hb2⟩; have s2 := kide (s1.out.next hb2); have r0 := s2.out.cell 0; have r1 := s2.out.cell 1; simp at r0 r1; clear hb2))
    have z3 := s3.out.size
    have hR3 := kide (HR.out.later s3.out.below)
    have hba : Hid (Below w3.heap.size w3 (w3.alloc (Obj.cells (madeCells #[Value.bool false] n) 4))) := (Below.refl _ _).alloc (Nat.le_refl _) _
    have HWY := kide (fun (u : World) (hu : RdK u a ls) (hg : u.heap[w3.heap.size]? = some (.cells (bls (List.replicate n false)) 4 (0, 0))) => l7Way_any ls a c n n N w3.heap.size HN.out (by omega) hn3 HOK.out (fun hne p hp => by
      obtain ⟨-, -, h | ⟨b2, o2, e2, hc⟩⟩ := hR3.out
      · exact absurd h hne
      · rw [hp] at e2
        cases e2
        obtain ⟨l, hl⟩ : ∃ l, ls[0]? = some l := ⟨_, List.getElem?_eq_getElem (List.length_pos_iff.2 hne)⟩
        have := block_lt_of_cell (hc 0 l hl).1
        simp only [] at this ⊢
        omega) (cf (List.replicate n false) + 1) (List.replicate n false) (by omega) (by simp) na nb hna hnb u hu hg)
    have t1a : (w3.alloc (Obj.cells (madeCells #[Value.bool false] n) 4)).drew.cell? ⟨w.heap.size, 1, none⟩ = some (Value.slice a n c) := (hba.out.cell (p := ⟨w.heap.size, 1, none⟩) (by simp only []; omega)).trans t1
    go_region_held3 (fun u => u.cell? ⟨w.heap.size, 1, none⟩ = some (Value.slice a n c)) (first | assumption | simp [*])
      ((go_at_call 57; refine Calls.mono (HWY.out _ ((hR3.out.later hba.out).later (Below.refl _ _).drew) (by rw [← made_bls]; exact heap_alloc_new _ _)) ?_; rintro e w4 h4; obtain ⟨v4, ks, rfl, ho4, hks, hkl, hkx, hou⟩ := h4.uni HGO.out HF.out hna hnb hn3 HOK.out HZ.out; have t4 : w4.cell? ⟨w.heap.size, 1, none⟩ = some (Value.slice a n c) := (hou.cell (b := w.heap.size) (o := 1) (by show _ < (w3.alloc (Obj.cells (madeCells #[Value.bool false] n) 4)).heap.size; simp; omega) (by omega)).trans t1a))
    have z3' : w.heap.size ≤ w3.heap.size := by omega
    have B3 := s3.out.below
    have B4 : Hid (Below w.heap.size w w4) := by
      have h1 : Below w.heap.size w (w3.alloc (Obj.cells (madeCells #[Value.bool false] n) 4)) := B3.trans (hba.out.mono z3')
      refine ⟨hou.1.trans h1.os, hou.2.1.trans h1.tape, hou.2.2.1.trans h1.output, Nat.le_trans h1.size hou.2.2.2.1, fun k hk => ?_⟩
      rw [← h1.block k hk]
      exact hou.2.2.2.2 k (Nat.lt_of_lt_of_le hk h1.size) (by omega)
    obtain ⟨a5, c5, rfl⟩ := OI1.form (show OI1 w4 _ v4 ks from ho4)
    have R5 := OI1.rd (show OI1 w4 _ _ ks from ho4) (by omega) hkx
    have HRI := kide (l7Rising_any a5 c5 ks.length ks w4 R5 rfl)
    rw [hks] at HRI
    obtain ⟨kn, hkn⟩ : ∃ kn, ks.length = kn := ⟨_, rfl⟩
    rw [hkn] at HRI ⊢
    clear ho4 hks hkl hkx hou R5 hkn t4 t1a
    go_wp2_with fail
    refine Calls.mono HRI.out ?_
    rintro e w5 ⟨v5, rfl, ho5, hb5⟩
    have O5 : Hid (OW w5 w.heap.size v5 Z.1) := own_low ho5 B4.out.size
    have B5 := kide (B4.out.trans (hb5.mono B4.out.size))
    clear ho5 hb5
    go_wp2_with fail
    go_returns
    exact ⟨v5, rfl, O5.out, B5.out⟩

end Go.Proofs.Ytakicdlfolhhcaa
