/- The program's scanner: what it holds, why a node may not begin, why a text may not end, where a remark ends. -/
import Derived.Test.YteainbakfeedpaaVC
import Derived.Test.YteainbakfeedpaaTE
namespace Go.Proofs.Yteainbakfeedpaa
set_option linter.unusedVariables false
set_option linter.unusedSimpArgs false
open Go.RowKit

/-- A stack of places as it lies, its top the last one. -/
def oi (op : List Nat) : List Int := op.reverse.map fun (u : Nat) => (u : Int)
theorem oi_cons (u : Nat) (r : List Nat) : oi (u :: r) = oi r ++ [(u : Int)] := by simp [oi]
theorem oi_len (op : List Nat) : (oi op).length = op.length := by simp [oi]

/-- The open lists' row is no row of kids. -/
def OpA (v : Value) (ns : List Nd) : Prop := ∀ (i : Nat) (n : Nd) (k : Nat), ns[i]? = some n → n.v.ownBlock = some k → v.ownBlock ≠ some k

/-- A scanner at block S: its text, its nodes, its open lists. -/
structure Sc (w : World) (B S : Nat) (s : ByteArray) (vN vO : Value) (ns : List Nd) (op : List Nat) : Prop where
  le : B ≤ S
  size : B ≤ w.heap.size
  blk : w.heap[S]? = some (.cells #[.string s, vN, vO] 55 (0, 0))
  nodes : ONs w B vN ns
  row : RowI w B vO (oi op)
  apart : OpA vO ns

theorem Sc.cells {w : World} {B S : Nat} {s : ByteArray} {vN vO : Value} {ns : List Nd} {op : List Nat} (h : Sc w B S s vN vO ns op) :
    w.cell? ⟨S, 0, none⟩ = some (.string s) ∧ w.cell? ⟨S, 1, none⟩ = some vN ∧ w.cell? ⟨S, 2, none⟩ = some vO ∧ ∀ j, w.frozen? ⟨S, j, none⟩ = false :=
  ⟨by rw [cell_of_row w S 0 _ _ _ h.blk]; rfl, by rw [cell_of_row w S 1 _ _ _ h.blk]; rfl, by rw [cell_of_row w S 2 _ _ _ h.blk]; rfl, fun j => frozen_of_row w S j _ _ h.blk⟩
theorem Sc.lt {w : World} {B S : Nat} {s : ByteArray} {vN vO : Value} {ns : List Nd} {op : List Nat} (h : Sc w B S s vN vO ns op) : S < w.heap.size := lt_of_block h.blk
theorem Sc.later {w w' : World} {B S : Nat} {s : ByteArray} {vN vO : Value} {ns : List Nd} {op : List Nat} (h : Sc w B S s vN vO ns op) (hb : Below w.heap.size w w') : Sc w' B S s vN vO ns op :=
  ⟨h.le, Nat.le_trans h.size hb.size, by rw [hb.block S h.lt]; exact h.blk, h.nodes.later hb, h.row.later hb, h.apart⟩

theorem commentEnd_any (s : ByteArray) (p : Nat) (hp : p ≤ s.size) (hs : s.size ≤ 9223372036854775807) (w : World) :
    Calls Try.prog 54 #[.string s, .int .i64 (p : Int)] w fun e w' => e = .returned (.int .i64 ((runE remB s (s.size - p) p : Nat) : Int)) ∧ w' = w := by
  have HB := hidI (get_bn s)
  generalize hR : runE remB s (s.size - p) p = R
  have HR : Hid (runE remB s (s.size - p) p = R) := hR
  clear hR
  go_enter Try.func54, Try.ntmps54
  go_wp2_with fail
  go_loop [1] (fun q => ∃ k : Nat, p ≤ k ∧ k ≤ s.size ∧ q = .int .i64 (k : Int) ∧ runE remB s (s.size - k) k = R) (fun q => s.size - (intOf q).toNat)
  case atStart => exact ⟨p, Nat.le_refl _, hp, rfl, HR.out⟩
  case round =>
    obtain ⟨k, hk1, hk2, rfl, hr⟩ := hrel
    have HK : Hid _ := hr
    clear hr
    by_cases hlt : k < s.size
    · have hb := bn_lt s k
      have e1 := HB.out k hlt
      have HST : Hid (runE remB s (s.size - k) k = if remB (bn s k) = true then runE remB s (s.size - (k + 1)) (k + 1) else k) := by
        show _ = _
        rw [show s.size - k = (s.size - (k + 1)) + 1 by omega, runE]
      have hrb : remB (bn s k) = (decide (32 ≤ (s[k]'hlt).toNat) && decide ((s[k]'hlt).toNat ≤ 126)) := by rw [e1]; rfl
      by_cases h32 : 32 ≤ (s[k]'hlt).toNat
      · by_cases h126 : (s[k]'hlt).toNat ≤ 126
        · have hyes : Hid (remB (bn s k) = true) := by show _ = _; rw [hrb]; simp [h32, h126]
          clear e1 hrb hb
          go_wp2_with fail
          go_round
          case rel => exact ⟨k + 1, by omega, by omega, by go_num, by have h := HK.out; rw [HST.out, if_pos hyes.out] at h; exact h⟩
          case measure => simp [intOf]; omega
        · have hno : Hid (remB (bn s k) = false) := by show _ = _; rw [hrb]; simp [h126]
          have h127 : 126 < (s[k]'hlt).toNat := by omega
          clear e1 hrb hb h126
          go_wp2_with fail
          go_ret
          exact ⟨ret_int (by have h := HK.out; rw [HST.out, if_neg (by rw [hno.out]; simp)] at h; rw [h]), rfl⟩
      · have hno : Hid (remB (bn s k) = false) := by show _ = _; rw [hrb]; simp [h32]
        have h31 : (s[k]'hlt).toNat < 32 := by omega
        clear e1 hrb hb h32
        go_wp2_with fail
        go_ret
        exact ⟨ret_int (by have h := HK.out; rw [HST.out, if_neg (by rw [hno.out]; simp)] at h; rw [h]), rfl⟩
    · go_wp2_with fail
      go_ret
      refine ⟨ret_int ?_, rfl⟩
      have h := HK.out
      rw [show s.size - k = 0 by omega, runE] at h
      rw [h]

theorem begF_cases (ns : List Nd) (op : List Nat) : (op = [] ∧ 0 < ns.length ∧ begF (ns.map Nd.ct) op = 4) ∨ (op = [] ∧ ns = [] ∧ begF (ns.map Nd.ct) op = 0) ∨ (0 < op.length ∧ 100 < op.length ∧ begF (ns.map Nd.ct) op = 5) ∨ (0 < op.length ∧ op.length ≤ 100 ∧ ns.length = 2000 ∧ begF (ns.map Nd.ct) op = 6) ∨ (0 < op.length ∧ op.length ≤ 100 ∧ ns.length ≠ 2000 ∧ begF (ns.map Nd.ct) op = 0) := by
  unfold begF
  cases op with
  | nil =>
    cases ns with
    | nil => exact .inr (.inl ⟨rfl, rfl, rfl⟩)
    | cons x r => exact .inl ⟨rfl, by simp, by simp⟩
  | cons u r =>
    have h0 : ¬ (u :: r = [] ∧ ns.map Nd.ct ≠ []) := fun h => by simp at h
    rw [if_neg h0]
    have hcl : (ns.map Nd.ct).length = ns.length := by simp
    rw [hcl]
    by_cases h1 : 100 < (u :: r).length
    · exact .inr (.inr (.inl ⟨by simp, h1, if_pos h1⟩))
    · rw [if_neg h1]
      by_cases h2 : ns.length = 2000
      · exact .inr (.inr (.inr (.inl ⟨by simp, by omega, h2, if_pos h2⟩)))
      · exact .inr (.inr (.inr (.inr ⟨by simp, by omega, h2, if_neg h2⟩)))

theorem beginFault_any (w : World) (B S : Nat) (s : ByteArray) (vN vO : Value) (ns : List Nd) (op : List Nat) (h : Sc w B S s vN vO ns op) (hop : op.length ≤ 1000) :
    Calls Try.prog 58 #[.pointer (some ⟨S, 0, none⟩)] w fun e w' => e = .returned (.int .i64 ((begF (ns.map Nd.ct) op : Nat) : Int)) ∧ w' = w := by
  obtain ⟨c0, c1, c2, -⟩ := h.cells
  obtain ⟨aN, kN, rfl, -, -⟩ := h.nodes.shape
  obtain ⟨aO, kO, rfl, -, -⟩ := h.row.shape
  have hnl := h.nodes.len
  rw [oi_len] at c2
  have HZ0 := hidI (iSize w S 2 op.length kO aO c2 (by omega))
  clear h
  rcases begF_cases ns op with ⟨rfl, h1, hF⟩ | ⟨rfl, rfl, hF⟩ | ⟨h1, h2, hF⟩ | ⟨h1, h2, h3, hF⟩ | ⟨h1, h2, h3, hF⟩
  · rw [hF]
    have i1 : (0 : Int) < (ns.length : Int) := by omega
    clear hF
    go_enter Try.func58, Try.ntmps58
    go_wp2_with (go_at_call 55; refine Calls.mono HZ0.out ?_; rintro e w1 ⟨rfl, rfl⟩)
    go_ret
    exact ⟨rfl, rfl⟩
  · rw [hF]
    clear hF
    go_enter Try.func58, Try.ntmps58
    go_wp2_with (go_at_call 55; refine Calls.mono HZ0.out ?_; rintro e w1 ⟨rfl, rfl⟩)
    go_ret
    exact ⟨rfl, rfl⟩
  · rw [hF]
    have i1 : ((op.length : Int) == 0) = false := beq_eq_false_iff_ne.2 (by omega)
    have i2 : (100 : Int) < (op.length : Int) := by omega
    clear hF h1
    go_enter Try.func58, Try.ntmps58
    go_wp2_with (go_at_call 55; refine Calls.mono HZ0.out ?_; rintro e w1 ⟨rfl, rfl⟩)
    go_ret
    exact ⟨rfl, rfl⟩
  · rw [hF]
    have i1 : ((op.length : Int) == 0) = false := beq_eq_false_iff_ne.2 (by omega)
    have i2 : (op.length : Int) ≤ 100 := by omega
    have i3 : ((ns.length : Int) == 2000) = true := beq_iff_eq.2 (by omega)
    clear hF h1 h3
    go_enter Try.func58, Try.ntmps58
    go_wp2_with (go_at_call 55; refine Calls.mono HZ0.out ?_; rintro e w1 ⟨rfl, rfl⟩)
    go_ret
    exact ⟨rfl, rfl⟩
  · rw [hF]
    have i1 : ((op.length : Int) == 0) = false := beq_eq_false_iff_ne.2 (by omega)
    have i2 : (op.length : Int) ≤ 100 := by omega
    have i3 : ((ns.length : Int) == 2000) = false := beq_eq_false_iff_ne.2 (by omega)
    clear hF h1 h3
    go_enter Try.func58, Try.ntmps58
    go_wp2_with (go_at_call 55; refine Calls.mono HZ0.out ?_; rintro e w1 ⟨rfl, rfl⟩)
    go_ret
    exact ⟨rfl, rfl⟩

/-- Why a text may not end. -/
def endF (n : Nat) (op : List Nat) : Nat := if op ≠ [] then 7 else if n = 0 then 8 else 0

theorem endFault_any (w : World) (B S : Nat) (s : ByteArray) (vN vO : Value) (ns : List Nd) (op : List Nat) (h : Sc w B S s vN vO ns op) (hop : op.length ≤ 1000) :
    Calls Try.prog 60 #[.pointer (some ⟨S, 0, none⟩)] w fun e w' => e = .returned (.int .i64 ((endF ns.length op : Nat) : Int)) ∧ w' = w := by
  obtain ⟨c0, c1, c2, -⟩ := h.cells
  obtain ⟨aN, kN, rfl, -, -⟩ := h.nodes.shape
  obtain ⟨aO, kO, rfl, -, -⟩ := h.row.shape
  have hnl := h.nodes.len
  rw [oi_len] at c2
  have HZ0 := hidI (iSize w S 2 op.length kO aO c2 (by omega))
  clear h
  unfold endF
  by_cases h1 : op ≠ []
  · rw [if_pos h1]
    have h1' : 0 < op.length := List.length_pos_iff.2 h1
    have i1 : (0 : Int) < (op.length : Int) := by omega
    clear h1 h1'
    go_enter Try.func60, Try.ntmps60
    go_wp2_with (go_at_call 55; refine Calls.mono HZ0.out ?_; rintro e w1 ⟨rfl, rfl⟩)
    go_ret
    exact ⟨rfl, rfl⟩
  · rw [if_neg h1]
    have h1' : op = [] := by simpa using h1
    subst h1'
    clear h1
    by_cases h2 : ns.length = 0
    · rw [if_pos h2]
      have i2 : ((ns.length : Int) == 0) = true := beq_iff_eq.2 (by omega)
      clear h2
      go_enter Try.func60, Try.ntmps60
      go_wp2_with (go_at_call 55; refine Calls.mono HZ0.out ?_; rintro e w1 ⟨rfl, rfl⟩)
      go_ret
      exact ⟨rfl, rfl⟩
    · rw [if_neg h2]
      have i2 : ((ns.length : Int) == 0) = false := beq_eq_false_iff_ne.2 (by omega)
      clear h2
      go_enter Try.func60, Try.ntmps60
      go_wp2_with (go_at_call 55; refine Calls.mono HZ0.out ?_; rintro e w1 ⟨rfl, rfl⟩)
      go_ret
      exact ⟨rfl, rfl⟩

end Go.Proofs.Yteainbakfeedpaa
