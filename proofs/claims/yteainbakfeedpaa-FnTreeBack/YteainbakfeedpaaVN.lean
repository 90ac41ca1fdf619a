/- Contracts of the laws' own small functions that mark the nodes of an answer, and look at the marks. -/
import Derived.Test.YteainbakfeedpaaVL
import Derived.Test.YteainbakfeedpaaVM
import Derived.Deep.RegionHeld3
namespace Go.Proofs.Yteainbakfeedpaa
set_option linter.unusedVariables false
set_option linter.unusedSimpArgs false
open Go.RowKit

theorem set_key {ns : List Nd} {u : Nat} {n m : Nd} (hu : ns[u]? = some n) : ∀ (i : Nat) (x : Nd), (ns.set u m)[i]? = some x → (i = u ∧ x = m) ∨ (i ≠ u ∧ ns[i]? = some x) := by
  have hul := (List.getElem?_eq_some_iff.1 hu).1
  intro i x hi
  by_cases e : u = i
  · subst e
    rw [List.getElem?_set_self hul] at hi
    cases hi
    exact .inl ⟨rfl, rfl⟩
  · rw [List.getElem?_set_ne e] at hi
    exact .inr ⟨fun e' => e e'.symm, hi⟩

/-- A node's kids keep their place. -/
theorem Apart.set {ns : List Nd} {u : Nat} {n m : Nd} (h : Apart ns) (hu : ns[u]? = some n) (hm : m.v = n.v) : Apart (ns.set u m) := by
  have same : ∀ (i : Nat) (x : Nd), (ns.set u m)[i]? = some x → ∃ y, ns[i]? = some y ∧ y.v = x.v := by
    intro i x hi
    rcases set_key hu i x hi with ⟨rfl, rfl⟩ | ⟨-, hi⟩
    · exact ⟨n, hu, hm.symm⟩
    · exact ⟨x, hi, rfl⟩
  intro i j x y k hi hj hk hk'
  obtain ⟨x', hx, ex⟩ := same i x hi
  obtain ⟨y', hy, ey⟩ := same j y hj
  rw [← ex] at hk
  rw [← ey] at hk'
  exact h i j x' y' k hx hy hk hk'

theorem nc_set_txt {ns : List Nd} {i : Nat} {n m : Nd} (h : ns[i]? = some n) (hv : m.v = n.v) : (nc ns).set (i * 2) (.string m.txt) = nc (ns.set i m) := by
  rw [← nc_set h, hv]
  apply List.ext_getElem?
  intro j
  by_cases e : i * 2 + 1 = j
  · subst e
    have := (nc_get h).2
    have hl := (List.getElem?_eq_some_iff.1 this).1
    rw [List.getElem?_set_self (by simpa using hl), List.getElem?_set_ne (by omega)]
    exact this
  · rw [List.getElem?_set_ne e]

theorem ONs.lenEq {w : World} {B g N cap : Nat} {ns : List Nd} (h : ONs w B (.slice (some ⟨g, 0, none⟩) N cap) ns) : N = ns.length := by
  rcases h.row.2 with ⟨h', -⟩ | ⟨g', cap', cur, h', -⟩
  · cases h'
  · cases h'; rfl

theorem ONs.setTxt {w : World} {B gN N capN u : Nat} {ns : List Nd} {n : Nd} {t : ByteArray} (h : ONs w B (.slice (some ⟨gN, 0, none⟩) N capN) ns) (hu : ns[u]? = some n) (ht : t.size ≤ 1048576) :
    ONs (w.setCell ⟨gN, u * 2, none⟩ (.string t)) B (.slice (some ⟨gN, 0, none⟩) N capN) (ns.set u ⟨t, n.a, n.c, n.ks⟩) := by
  have hN := h.lenEq
  subst hN
  obtain ⟨-, -, csN, frN, hbN⟩ := owns_typed h.row (k := gN) rfl
  refine ⟨by simpa using h.len, ?_, ?_, h.apart.set hu rfl, ?_⟩
  · have := (h.row.stored (u * 2) (.string t)).1
    rw [List.length_set, ← nc_set_txt hu (m := ⟨t, n.a, n.c, n.ks⟩) rfl]
    exact this
  · intro i x hi
    rcases set_key hu i x hi with ⟨rfl, rfl⟩ | ⟨-, hi⟩
    · exact owns_keep (h.kid i n hu) grown_set (fun k hk e => by cases e; exact owns_ne (h.kid i n hu) hbN (by decide) hk)
    · exact owns_keep (h.kid i x hi) grown_set (fun k hk e => by cases e; exact owns_ne (h.kid i x hi) hbN (by decide) hk)
  · intro i x hi
    rcases set_key hu i x hi with ⟨rfl, rfl⟩ | ⟨-, hi⟩
    · have := h.fit i n hu
      exact ⟨ht, this.len, this.fit⟩
    · exact h.fit i x hi

theorem ONs.setKs {w w1 : World} {B gN N capN u : Nat} {ns : List Nd} {n : Nd} {ks : List Int} (h : ONs w B (.slice (some ⟨gN, 0, none⟩) N capN) ns) (hu : ns[u]? = some n) (hg : w.grownBy w1 n.v.ownBlock) (ho : RowI w1 B n.v ks) (hl : ks.length = n.ks.length) (hf : ∀ k ∈ ks, in64 k) :
    ONs w1 B (.slice (some ⟨gN, 0, none⟩) N capN) (ns.set u ⟨n.txt, n.a, n.c, ks⟩) := by
  have hN := h.lenEq
  subst hN
  have hv : (⟨n.txt, n.a, n.c, ks⟩ : Nd).v = n.v := by simp [Nd.v, hl]
  obtain ⟨-, -, csN, frN, hbN⟩ := owns_typed h.row (k := gN) rfl
  have hrow1 : w1.ownsRow B 59 2 (.slice (some ⟨gN, 0, none⟩) ns.length capN) ns.length (nc ns) := owns_keep h.row hg (fun k hk e => by
    cases hk
    exact owns_ne (h.kid u n hu) hbN (by decide) e.symm)
  refine ⟨by simpa using h.len, ?_, ?_, h.apart.set hu hv, ?_⟩
  · rw [List.length_set, ← nc_set_v hu (m := ⟨n.txt, n.a, n.c, ks⟩) rfl, hv]
    have e : (nc ns).set (u * 2 + 1) n.v = nc ns := by
      apply List.ext_getElem?
      intro j
      by_cases e : u * 2 + 1 = j
      · subst e
        have := (nc_get hu).2
        rw [List.getElem?_set_self (List.getElem?_eq_some_iff.1 this).1, this]
      · rw [List.getElem?_set_ne e]
    rw [e]
    exact hrow1
  · intro i x hi
    rcases set_key hu i x hi with ⟨rfl, rfl⟩ | ⟨hne, hi⟩
    · rw [hv]; exact ho
    · exact owns_keep (h.kid i x hi) hg (fun k hk e => hne (h.apart i u x n k hi hu hk e.symm))
  · intro i x hi
    rcases set_key hu i x hi with ⟨rfl, rfl⟩ | ⟨-, hi⟩
    · have := h.fit i n hu
      exact ⟨this.txt, by rw [hl]; exact this.len, hf⟩
    · exact h.fit i x hi

/-- Nodes with their marks, from k on; and the mark behind them. -/
def mkL : Nat → List Nd → List Nd
  | _, [] => []
  | k, n :: ns => ⟨mkT k, n.a, n.c, mks (k + 1) n.ks.length⟩ :: mkL (k + 1 + n.ks.length) ns
def mkE : Nat → List Nd → Nat
  | k, [] => k
  | k, n :: ns => mkE (k + 1 + n.ks.length) ns

theorem mkE_le (k : Nat) (ns : List Nd) : k ≤ mkE k ns := by
  induction ns generalizing k with
  | nil => exact Nat.le_refl _
  | cons n ns ih => have := ih (k + 1 + n.ks.length); rw [mkE]; omega
theorem mkL_len (k : Nat) (ns : List Nd) : (mkL k ns).length = ns.length := by
  induction ns generalizing k with
  | nil => rfl
  | cons n ns ih => simp [mkL, ih]
theorem mkE_bound (k : Nat) (ns : List Nd) (h : ∀ n ∈ ns, n.ks.length ≤ 2000) : mkE k ns ≤ k + ns.length * 2001 := by
  induction ns generalizing k with
  | nil => simp [mkE]
  | cons n ns ih =>
    have h1 := ih (k + 1 + n.ks.length) (fun m hm => h m (List.mem_cons_of_mem _ hm))
    have h2 := h n (List.mem_cons_self ..)
    rw [mkE]
    simp only [List.length_cons]
    omega

/-- Blocks of other kinds are as they were. -/
def Kt (w w' : World) : Prop := ∀ (b : Nat) (cs : Array Value) (t : TypeId) (fr : Nat × Nat), w.heap[b]? = some (.cells cs t fr) → t ≠ 59 → t ≠ 2 → w'.heap[b]? = some (.cells cs t fr)
theorem Kt.refl (w : World) : Kt w w := fun _ _ _ _ h _ _ => h
theorem Kt.trans {w w1 w2 : World} (h : Kt w w1) (k : Kt w1 w2) : Kt w w2 := fun b cs t fr hb h1 h2 => k b cs t fr (h b cs t fr hb h1 h2) h1 h2
theorem Kt.of {w w1 : World} (h : Below w.heap.size w w1) : Kt w w1 := fun b cs t fr hb _ _ => by rw [h.block b (lt_of_block hb)]; exact hb
theorem Kt.grown {w w1 : World} {B e size n : Nat} {v : Value} {xs : List Value} (hg : w.grownBy w1 v.ownBlock) (ho : w.ownsRow B e size v n xs) (he : e = 59 ∨ e = 2) : Kt w w1 := fun b cs t fr hb h1 h2 => by
  rw [hg.block b (lt_of_block hb) (fun e' => owns_ne ho hb (by rcases he with rfl | rfl <;> assumption) e'.symm)]
  exact hb

set_option maxHeartbeats 1000000 in
set_option maxRecDepth 100000 in
theorem markNodeS_any (w : World) (B : Nat) (v : Value) (ns : List Nd) (h : ONs w B v ns) (hB : B ≤ w.heap.size) :
    Calls Try.prog 47 #[v, .int .i64 1] w fun e w' => e = .returned (.int .i64 ((mkE 1 ns : Nat) : Int)) ∧ ONs w' B v (mkL 1 ns) ∧ Below B w w' ∧ Kt w w' := by
  obtain ⟨ao, c, hv, -, -⟩ := h.shape
  subst hv
  have hlen := h.len
  have hbd : mkE 1 ns ≤ 1 + ns.length * 2001 := mkE_bound 1 ns (fun n hn => by obtain ⟨i, hi⟩ := List.getElem?_of_mem hn; exact (h.fit i n hi).len)
  have hbd2 : ns.length * 2001 ≤ 2000 * 2001 := Nat.mul_le_mul_right _ hlen
  have HH := hidL h
  generalize hE : mkE 1 ns = E at *
  generalize hL : mkL 1 ns = L at *
  have HE := hidL hE
  have HLL := hidL hL
  clear h hE hL
  go_enter Try.func47, Try.ntmps47
  go_wp2_with fail
  go_loopw [1, 5] (fun q i wr => ∃ (k : Nat) (dn td : List Nd), i = .int .i64 (dn.length : Int) ∧ q = .int .i64 (k : Int) ∧ dn.length + td.length = ns.length ∧ ONs wr B (.slice ao ns.length c) (dn ++ td) ∧ dn ++ mkL k td = L ∧ mkE k td = E ∧ Below B w wr ∧ Kt w wr) (fun _ i _ => ns.length - (intOf i).toNat)
  case atStart => exact ⟨1, [], ns, rfl, rfl, by simp, HH.out, HLL.out, HE.out, Below.refl _ _, Kt.refl _⟩
  case round =>
    obtain ⟨k, dn, td, rfl, rfl, hdl, hon, hml, hme, hbel, hkt⟩ := hrel
    cases td with
    | nil =>
      simp only [List.length_nil, Nat.add_zero] at hdl
      rw [mkL, List.append_nil] at hml
      rw [mkE] at hme
      rw [List.append_nil] at hon
      subst hml
      subst hme
      have HON := hidL hon
      have HBL := hidL hbel
      have HKT := hidL hkt
      have i0 : (ns.length : Int) ≤ (dn.length : Int) := by omega
      clear hon hbel hkt HE HLL
      go_wp2_with fail
      go_ret
      exact ⟨rfl, HON.out, HBL.out, HKT.out⟩
    | cons n td =>
      simp only [List.length_cons] at hdl
      have hu : (dn ++ n :: td)[dn.length]? = some n := by simp
      obtain ⟨g, c', hv, hBg, hgl, -⟩ := hon.form (by simp; omega)
      have hln : (dn ++ n :: td).length = ns.length := by simp; omega
      rw [hln] at hv
      cases hv
      obtain ⟨q0, q1, qf⟩ := hon.cells hu
      have hkn := (hon.fit _ _ hu).len
      rw [mkL] at hml
      rw [mkE] at hme
      have hle := mkE_le (k + 1 + n.ks.length) td
      have hk1 : k + 1 + n.ks.length ≤ 4002001 := by omega
      have HMT := hidL (fun (u : World) => markText_any k u (by omega))
      have hms := mkT_size k (by omega)
      have HML := hidL hml
      have HME := hidL hme
      have HON := hidL hon
      have HBL := hidL hbel
      have HKT := hidL hkt
      clear hkt
      have i0 : (dn.length : Int) < (ns.length : Int) := by omega
      have qf0 := qf (dn.length * 2)
      have hBr : B ≤ wr.heap.size := Nat.le_trans hB hbel.size
      simp only [Nd.v] at q1
      clear hml hme hon hbel hu qf hle
      generalize mkT k = mt at *
      go_wp2_with fail
      refine Calls.mono (HMT.out _) ?_
      rintro e w1 ⟨rfl, hb1⟩
      have hon1 := HON.out.later hb1
      have hu : (dn ++ n :: td)[dn.length]? = some n := by simp
      obtain ⟨q0', q1', qf'⟩ := hon1.cells hu
      have qf0' := qf' (dn.length * 2)
      have hon2 := hon1.setTxt hu hms
      have hu2 : ((dn ++ n :: td).set dn.length ⟨mt, n.a, n.c, n.ks⟩)[dn.length]? = some ⟨mt, n.a, n.c, n.ks⟩ := List.getElem?_set_self (by simp)
      have hK2 : Kt w (w1.setCell ⟨g, dn.length * 2, none⟩ (.string mt)) := (HKT.out.trans (Kt.of hb1)).trans (Kt.grown (v := .slice (some ⟨g, 0, none⟩) ns.length c) grown_set hon1.row (.inl rfl))
      have HK2 := hidL hK2
      clear hK2
      have hB2 : Below B w (w1.setCell ⟨g, dn.length * 2, none⟩ (.string mt)) := (HBL.out.trans (hb1.mono hBr)).setCell (p := ⟨g, dn.length * 2, none⟩) hBg _
      obtain ⟨x0, x1, xf⟩ := hon2.cells hu2
      have HMI := hidL (markInt64S_any _ B _ _ (k + 1) (hon2.kid _ _ hu2) hkn (by omega))
      simp only [Nd.v] at x1 q1'
      have HO2 := hidL hon2
      have HU2 := hidL hu2
      have HB2 := hidL hB2
      have hkc : ((k + 1 : Nat) : Int) = (k : Int) + 1 := by omega
      rw [hkc] at HMI
      clear hon1 hu qf' hon2 hu2 hB2 x0 xf hkc q0 q1 qf0 hb1
      go_wp2_with fail
      generalize hw2 : (w1.setCell ⟨g, dn.length * 2, none⟩ (.string mt)) = w2 at *
      refine Calls.mono HMI.out ?_
      rintro e w3 ⟨rfl, hr3, hg3⟩
      have hon3 := HO2.out.setKs HU2.out hg3 hr3 (mks_len _ _) (mks_mem _ _ (show k + 1 + n.ks.length ≤ 1000000000 by omega))
      have hB3 : Below B w2 w3 := ⟨hg3.os, hg3.tape, hg3.output, hg3.size, fun b hb => hg3.block b (by have := HB2.out.size; omega) (fun e => by have := (owns_typed (HO2.out.kid _ _ HU2.out) e.symm).1; omega)⟩
      have HO3 := hidL hon3
      have HB3 := hidL (HB2.out.trans hB3)
      have HK3 := hidL (HK2.out.trans (Kt.grown hg3 (HO2.out.kid _ _ HU2.out) (.inr rfl)))
      clear hon3 hB3 hr3 hg3
      go_wp2_with fail
      go_roundw
      case rel =>
        refine ⟨k + 1 + n.ks.length, dn ++ [⟨mt, n.a, n.c, mks (k + 1) n.ks.length⟩], td, by simp <;> go_num, by simp <;> go_num, by simp; omega, ?_, ?_, HME.out, HB3.out, HK3.out⟩
        · have h := HO3.out
          have e : ((dn ++ n :: td).set dn.length ⟨mt, n.a, n.c, n.ks⟩).set dn.length ⟨mt, n.a, n.c, mks (k + 1) n.ks.length⟩ = dn ++ [⟨mt, n.a, n.c, mks (k + 1) n.ks.length⟩] ++ td := by
            rw [List.set_set]
            simp
          rw [e] at h
          exact h
        · rw [← HML.out]
          simp
      case measure => simp [intOf]; omega

theorem mkL_drop (k : Nat) (ns : List Nd) : ∀ j, j ≤ ns.length → ∃ k', (mkL k ns).drop j = mkL k' (ns.drop j) ∧ mkE k' (ns.drop j) = mkE k ns ∧ k ≤ k' := by
  induction ns generalizing k with
  | nil => intro j hj; exact ⟨k, by simp at hj; subst hj; rfl, by simp, Nat.le_refl _⟩
  | cons n ns ih =>
    intro j hj
    cases j with
    | zero => exact ⟨k, rfl, rfl, Nat.le_refl _⟩
    | succ j =>
      obtain ⟨k', h1, h2, h3⟩ := ih (k + 1 + n.ks.length) j (by simpa using hj)
      exact ⟨k', by simpa [mkL] using h1, by simpa [mkE] using h2, by omega⟩

set_option maxHeartbeats 1000000 in
set_option maxRecDepth 100000 in
theorem heldNodeS_any (w : World) (a : Option Addr) (c : Nat) (ns : List Nd) (hfit : ∀ n ∈ ns, n.ks.length ≤ 2000) (hlen : ns.length ≤ 2000) (hr : RdN w a (mkL 1 ns)) :
    Calls Try.prog 48 #[.slice a ns.length c, .int .i64 1] w fun e w' => e = .returned (.int .i64 ((mkE 1 ns : Nat) : Int)) ∧ Below w.heap.size w w' := by
  have hbd : mkE 1 ns ≤ 1 + ns.length * 2001 := mkE_bound 1 ns hfit
  have hbd2 : ns.length * 2001 ≤ 2000 * 2001 := Nat.mul_le_mul_right _ hlen
  generalize hE : mkE 1 ns = E at *
  have HE := hidL hE
  have HD := hidL (mkL_drop 1 ns)
  rw [hE] at HD
  clear hE
  go_enter Try.func48, Try.ntmps48
  go_wp2_with fail
  go_loopw [1, 5] (fun q i wr => ∃ (k j : Nat), i = .int .i64 (j : Int) ∧ q = .int .i64 (k : Int) ∧ j ≤ ns.length ∧ (mkL 1 ns).drop j = mkL k (ns.drop j) ∧ mkE k (ns.drop j) = E ∧ Below w.heap.size w wr) (fun _ i _ => ns.length - (intOf i).toNat)
  case atStart => exact ⟨1, 0, rfl, rfl, Nat.zero_le _, rfl, HE.out, Below.refl _ _⟩
  case round =>
    obtain ⟨k, j, rfl, rfl, hj, hml, hme, hbel⟩ := hrel
    by_cases hlt : j < ns.length
    · obtain ⟨n, hn⟩ : ∃ n, ns[j] = n := ⟨_, rfl⟩
      have hdr : ns.drop j = n :: ns.drop (j + 1) := by rw [List.drop_eq_getElem_cons hlt, hn]
      rw [hdr, mkL] at hml
      rw [hdr, mkE] at hme
      have hkn : n.ks.length ≤ 2000 := by have := hfit ns[j] (List.getElem_mem hlt); rwa [hn] at this
      have hgx : (mkL 1 ns)[j]? = some ⟨mkT k, n.a, n.c, mks (k + 1) n.ks.length⟩ := by
        have := congrArg (fun l => l[0]?) hml
        simpa using this
      have hml2 : (mkL 1 ns).drop (j + 1) = mkL (k + 1 + n.ks.length) (ns.drop (j + 1)) := by
        have := congrArg (List.drop 1) hml
        simpa using this
      obtain ⟨-, h | ⟨b, o, rfl, hc⟩⟩ := hr
      · rw [h] at hgx; simp at hgx
      obtain ⟨p0, p1, p2, p3⟩ := (hc j _ hgx).later hbel
      simp only [mks_len] at p0 p1 p2 p3
      have hle := mkE_le (k + 1 + n.ks.length) (ns.drop (j + 1))
      have hk1 : k + 1 + n.ks.length ≤ 4002001 := by omega
      have HMT := hidL (fun (u : World) => markText_any k u (by omega))
      have HHI := hidL (fun (u : World) (hu : RdI u n.a (mks (k + 1) n.ks.length)) => heldInt64S_any u n.a n.c n.ks.length (k + 1) hu hkn (by omega))
      have HP2 := hidL p2
      have HML2 := hidL hml2
      have HME := hidL hme
      have HBL := hidL hbel
      have i0 : (j : Int) < (ns.length : Int) := by omega
      have l0 : b < wr.heap.size := block_lt_of_cell p0
      have hkc : ((k + 1 : Nat) : Int) = (k : Int) + 1 := by omega
      rw [hkc] at HHI
      clear hc hgx hml hme hml2 hdr hn p2 p3 hbel hle hkc
      generalize mkT k = mt at *
      have hbb : (mt.toList == mt.toList) = true := by simp
      go_wp2_with fail
      go_region_held3 (fun u => u.cell? ⟨b, o + j * 2, none⟩ = some (Value.string mt)) (first | assumption | exact p0)
        ((go_at_call 69; refine Calls.mono (HMT.out _) ?_; rintro e w1 ⟨rfl, hb1⟩; replace hb1 := undrew hb1; have k0 := ((bcell hb1).1 b (o + j * 2) l0).trans p0))
      have p1' := ((bcell hb1).1 b (o + j * 2 + 1) l0).trans p1
      have HB1 := hidL hb1
      clear hb1
      go_wp2_with fail
      refine Calls.mono (HHI.out _ (RdI.later HP2.out HB1.out)) ?_
      rintro e w2 ⟨rfl, hb2⟩
      have HB2 := hidL hb2
      clear hb2
      go_wp2_with fail
      go_roundw
      case rel => exact ⟨k + 1 + n.ks.length, j + 1, by go_num, rfl, by omega, HML2.out, HME.out, HBL.out.trans ((HB1.out.trans (HB2.out.mono HB1.out.size)).mono HBL.out.size)⟩
      case measure => simp [intOf]; omega
    · have e : j = ns.length := by omega
      subst e
      rw [List.drop_length, mkE] at hme
      subst hme
      clear hml HD
      go_wp2_with fail
      go_ret
      exact ⟨rfl, hbel⟩

theorem markTree_any (w : World) (B : Nat) (v : Value) (ns : List Nd) (h : ONs w B v ns) (hB : B ≤ w.heap.size) :
    Calls Try.prog 22 #[.agg #[v], .int .i64 1] w fun e w' => e = .returned (.int .i64 ((mkE 1 ns : Nat) : Int)) ∧ ONs w' B v (mkL 1 ns) ∧ Below B w w' ∧ Kt w w' := by
  have hb0 : Below w.heap.size w (w.alloc (Obj.cells #[v] 26)) := (Below.refl _ _).alloc (Nat.le_refl _) _
  obtain ⟨ao, c, hv, -, -⟩ := h.shape
  subst hv
  have HC := hidL (markNodeS_any _ B _ ns (h.later hb0) (Nat.le_trans hB hb0.size))
  have HB0 := hidL (hb0.mono hB)
  have HK0 := hidL (Kt.of hb0)
  clear h hb0
  go_enter Try.func22, Try.ntmps22
  go_wp2_with fail
  refine Calls.mono HC.out ?_
  rintro e w1 ⟨rfl, ho1, hb1, hk1⟩
  go_wp2_with fail
  go_ret
  exact ⟨rfl, ho1, HB0.out.trans hb1, HK0.out.trans hk1⟩

theorem heldTree_any (w : World) (a : Option Addr) (c : Nat) (ns : List Nd) (hfit : ∀ n ∈ ns, n.ks.length ≤ 2000) (hlen : ns.length ≤ 2000) (hr : RdN w a (mkL 1 ns)) :
    Calls Try.prog 23 #[.agg #[.slice a ns.length c], .int .i64 1] w fun e w' => e = .returned (.int .i64 ((mkE 1 ns : Nat) : Int)) ∧ Below w.heap.size w w' := by
  have hb0 : Below w.heap.size w (w.alloc (Obj.cells #[Value.slice a ns.length c] 26)) := (Below.refl _ _).alloc (Nat.le_refl _) _
  have HC := hidL (heldNodeS_any _ a c ns hfit hlen (hr.later hb0))
  have HB0 := hidL hb0
  have hsz := hb0.size
  clear hr hb0
  generalize mkE 1 ns = E at *
  have hE : (0 : Int) ≤ (E : Int) := by omega
  go_enter Try.func23, Try.ntmps23
  go_wp2_with fail
  refine Calls.mono HC.out ?_
  rintro e w1 ⟨rfl, hb1⟩
  go_wp2_with fail
  go_ret
  exact ⟨rfl, HB0.out.trans (hb1.mono hsz)⟩

end Go.Proofs.Yteainbakfeedpaa
