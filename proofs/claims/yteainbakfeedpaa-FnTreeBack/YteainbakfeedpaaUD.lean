/- What the given WriteTree answers. -/
import Derived.Test.YteainbakfeedpaaUC
import Derived.Test.YteainbakfeedpaaTH
namespace Go.Proofs.Yteainbakfeedpaa
set_option linter.unusedVariables false
set_option linter.unusedSimpArgs false
open Go.RowKit

theorem back_txt (w : World) (g o c : Nat) (l : List Nat) (hx : ∀ x ∈ l, x < 256) (hc : ∀ i, i < l.length → w.cell? ⟨g, o + i, none⟩ = some (.int .u8 ((l.getD i 0 : Nat) : Int))) :
    (convert 22 9 (.slice (some ⟨g, o, none⟩) l.length c)).run Try.prog w = .ok (.string (txt l)) w := by
  have h := run_convert_bytes_back (P := Try.prog) w 22 9 5 ⟨g, o, none⟩ c (l.map UInt8.ofNat) Try.underlying22 Try.underlying5 Try.underlying9 (fun j hj => by
    have hj' : j < l.length := by simpa using hj
    rw [Addr.add_lit, hc j hj']
    have e : l.getD j 0 = l[j] := by simp [List.getD, hj']
    have hb := hx l[j] (List.getElem_mem _)
    rw [e]
    simp [Nat.mod_eq_of_lt hb])
  rw [List.length_map] at h
  exact h

theorem OwB.back {w : World} {B : Nat} {v : Value} {l : List Nat} (h : OwB w B v l) (hx : ∀ x ∈ l, x < 256) (hp : 0 < l.length) : ∃ g cap, v = .slice (some ⟨g, 0, none⟩) l.length cap ∧ (convert 22 9 v).run Try.prog w = .ok (.string (txt l)) w := by
  rcases h.2 with ⟨-, h'⟩ | ⟨g, cap, cur, rfl, hg, hh, h1, h2, h3, h4⟩
  · omega
  · refine ⟨g, cap, rfl, back_txt w g 0 cap l hx fun i hi => ?_⟩
    have := World.ownsRow.cellAt h i (by omega)
    rw [Nat.zero_add, this]
    simp [u8s, List.getD, hi]

theorem Tx_pos {cs : List Ct} {f p deep e d : Nat} (h : W cs f p deep = some (e, d)) : 0 < (Tx cs f p).length := by
  cases f with
  | zero => simp [W] at h
  | succ f =>
    rw [Tx]
    split
    · simp
    · rename_i hz
      rw [bl_len]
      omega

theorem RdN.fit {w : World} {a : Option Addr} {ns : List Nd} (h : RdN w a ns) : ∀ n ∈ ns.map Nd.ct, n.1.size ≤ 1048576 ∧ n.2.length ≤ 1048576 := by
  intro n hn
  obtain ⟨x, hx, rfl⟩ := List.mem_map.1 hn
  obtain ⟨-, h | ⟨b, o, -, hc⟩⟩ := h
  · subst h; simp at hx
  · obtain ⟨i, hi⟩ := List.getElem?_of_mem hx
    obtain ⟨-, -, h2, h3⟩ := hc i x hi
    exact ⟨h3, h2.1⟩

theorem Tx_fit {w : World} {a : Option Addr} {ns : List Nd} (h : RdN w a ns) {d : Nat} (hN : ns.length ≤ 2000) (h1 : 1 ≤ ns.length) (hw : W (ns.map Nd.ct) ns.length 0 0 = some (ns.length, d)) : (Tx (ns.map Nd.ct) ns.length 0).length ≤ 2097156000 := by
  have h1 := Tx_len (p := 0) (by simp; omega) hw
  have h2 := sumTo_le _ h.fit ns.length
  have h3 : ns.length * 1048578 ≤ 2000 * 1048578 := Nat.mul_le_mul_right _ hN
  rw [sumTo] at h1
  omega

set_option maxHeartbeats 1000000 in
set_option maxRecDepth 100000 in
theorem specWrite_any (a : Option Addr) (c : Nat) (ns : List Nd) (w : World) (hr : RdN w a ns) :
    Calls Try.prog 11 #[.agg #[.slice a ns.length c]] w fun e w' => e = .returned (.string (txt (writeT (ns.map Nd.ct)))) ∧ Below w.heap.size w w' := by
  have hlen := hr.1
  have hb0 : Below w.heap.size w (w.alloc (Obj.cells #[Value.slice a ns.length c] 26)) := (Below.refl _ _).alloc (Nat.le_refl _) _
  have HC := hid (fun u hu => specTreeOk_any a c ns u hu)
  have HR0 := hid (hr.later hb0)
  have l0 : w.heap.size < (w.alloc (Obj.cells #[Value.slice a ns.length c] 26)).heap.size := by simp
  by_cases h : 0 ≤ depR (ns.map Nd.ct)
  · obtain ⟨h1, h2, d, hw, -⟩ := depR_get h
    rw [List.length_map] at h1 h2 hw
    have hD : decide (0 ≤ depR (ns.map Nd.ct)) = true := decide_eq_true h
    rw [hD] at HC
    have hfit := Tx_fit hr h2 h1 hw
    have hpos := Tx_pos hw
    have HT : Hid (writeT (ns.map Nd.ct) = if (Tx (ns.map Nd.ct) ns.length 0).length ≤ 20000 then Tx (ns.map Nd.ct) ns.length 0 else []) := by
      show _ = _
      rw [writeT, List.length_map]
      by_cases hc : (Tx (ns.map Nd.ct) ns.length 0).length ≤ 20000
      · rw [if_pos ⟨h, hc⟩, if_pos hc]
      · rw [if_neg (fun hh => hc hh.2), if_neg hc]
    have HTX := hid (fun (u : World) (B : Nat) (hB : w.heap.size ≤ B) (v : Value) (hb : Below w.heap.size w u) (ho : OwB u B v []) (hBu : B ≤ u.heap.size) => l2Text_any ns h2 w a c B hr hB ns.length 0 0 ns.length d u v [] hb (by omega) hw ho hBu (by simp) (by simp; omega))
    clear hr h hD hw
    generalize Tx (ns.map Nd.ct) ns.length 0 = tot at *
    generalize writeT (ns.map Nd.ct) = res at *
    go_enter Try.func11, Try.ntmps11
    go_wp2_with fail
    refine Calls.mono (HC.out _ HR0.out) ?_
    rintro e w1 ⟨rfl, hb1⟩
    have k0 := (bcell hb1).1 w.heap.size 0 l0
    have c0 : w1.cell? ⟨w.heap.size, 0, none⟩ = some (Value.slice a ns.length c) := by rw [k0]; simp
    have B1 : Below w.heap.size w w1 := hb0.trans (hb1.mono (Nat.le_of_lt l0))
    have hw1 := B1.size
    clear k0
    go_wp2_with fail
    refine Calls.mono (HTX.out _ w1.heap.size hw1 _ (B1.alloc hw1 _) (OwB.nil w1 _ (Nat.le_refl _)) (by simp)) ?_
    rintro e w2 ⟨v2, R, rfl, ho2, hk2, ht2⟩
    have B2 : Below w.heap.size w w2 := KeptU.below (B1.alloc hw1 _) hk2 hw1 (fun _ _ h => h)
    obtain ⟨t1, -, t3, t4⟩ := ht2
    simp only [List.length_nil, Nat.zero_add, List.nil_append] at t1 t4
    have HT := HT
    by_cases hlong : 20000 < R.length
    · have hres : res = [] := by
        have h := HT.out
        rw [if_neg] at h
        · exact h
        · rcases t4 with rfl | ⟨-, h⟩ <;> omega
      subst hres
      obtain ⟨a2, c2, rfl, -, -⟩ := ho2.shape
      have i5 : (20000 : Int) < (R.length : Int) := by omega
      clear ho2 hk2
      go_wp2_with fail
      go_ret
      exact ⟨rfl, B2⟩
    · have hR : R = tot := by
        rcases t4 with rfl | ⟨h, -⟩
        · rfl
        · omega
      subst hR
      have hres : res = R := by
        have h := HT.out
        rw [if_pos (by omega)] at h
        exact h
      subst hres
      obtain ⟨g2, c2, rfl, hcv⟩ := ho2.back t3 hpos
      have i5 : (res.length : Int) ≤ 20000 := by omega
      clear ho2 hk2
      go_wp2_with fail
      go_ret
      exact ⟨rfl, B2⟩
  · have hD : decide (0 ≤ depR (ns.map Nd.ct)) = false := decide_eq_false h
    rw [hD] at HC
    have hres : writeT (ns.map Nd.ct) = [] := by rw [writeT, if_neg (fun hh => h hh.1)]
    rw [hres]
    clear hr h hD hres
    go_enter Try.func11, Try.ntmps11
    go_wp2_with fail
    refine Calls.mono (HC.out _ HR0.out) ?_
    rintro e w1 ⟨rfl, hb1⟩
    go_wp2_with fail
    go_ret
    exact ⟨rfl, hb0.trans (hb1.mono (by omega))⟩

end Go.Proofs.Yteainbakfeedpaa
