/- Several texts in one. -/
import Derived.Test.YtkkboaiablfdbaaGreatDoorRows
import Derived.Test.YtkkboaiablfdbaaGreatDoorZKX
import Derived.ProofKit
import Derived.OpenShut
import Derived.ShutString
import Derived.ChangeOld
import Derived.Below
import Derived.Lib.SmallJoins
import Derived.Deep.SlicePairs

/- How an argument that is a row of declared variables is opened. -/
namespace Go.Proofs.YtkkboaiablfdbaaGreatDoor
set_option linter.unusedVariables false
set_option linter.unusedSimpArgs false
open Go.ChangeShapes Go.WideShapes Go.ChangeAt Go.RowKit Go.Joins

theorem own : ownKnob Tryz.prog.godebug = none := by kernel_rfl
theorem laidOut : laidOutB Tryz.prog = true := by kernel_rfl

set_option maxRecDepth 100000 in
theorem open_decls {H : Type} {enc : TypeId × Value → H} {W : World} {r : Reach} {b0 base : Nat} {v : Value} {d : DataW H} {p : List MemPlace}
    (hv : Value.okWide Tryz.prog W r b0 22 v) (h : DataW.Trod enc Tryz.prog W base (fun _ => true) true 22 v d p) :
    ∃ (a : Option Addr) (n c : Nat), v = .slice a n c ∧ n ≤ 9223372036854775807 ∧ (n ≤ 1048576 → ∃ ds : List Dc, ds.length = n ∧ RdD W a ds) := by
  obtain ⟨a1, len1, cap1, rfl⟩ := okWide_slice Tryz.underlying22 hv
  obtain ⟨fuel, hf⟩ := h
  rcases Deep.open_slice_pairs Tryz.underlying22 Tryz.underlying43 (by kernel_rfl) rfl rfl (by kernel_rfl) (by kernel_rfl) hf with ⟨hcs, _⟩ | ⟨x, len, cap, m2, n2, V0, V1, D0, D1, P0, P1, hcs, _, hl, hm, hz, _, hcell⟩
  · simp [Value.cells] at hcs
    obtain ⟨rfl, rfl, rfl⟩ := hcs
    exact ⟨none, 0, 0, rfl, by omega, fun _ => ⟨[], rfl, by simp, by simp, .inl rfl⟩⟩
  · simp [Value.cells] at hcs
    obtain ⟨rfl, rfl, rfl⟩ := hcs
    refine ⟨some x, _, _, rfl, by unfold maxLen at hm; omega, fun hle => ?_⟩
    have each : ∀ i, i < len1 → ∃ d : Dc, W.cell? (x.add (i * 2)) = some (.string d.1) ∧ W.cell? (x.add (i * 2 + 1)) = some (.int .i64 d.2) ∧ in64 d.2 ∧ d.1.size ≤ 9223372036854775807 := by
      intro i hi
      simp at hz
      obtain ⟨h0, h1, h2, h3⟩ := hcell i (by omega)
      obtain ⟨s, e0, _, hs⟩ := DataW.trod_string Tryz.underlying9 h2
      obtain ⟨y, e1, _, hy⟩ := DataW.trod_int Tryz.underlying2 h3
      simp at e0 e1
      rw [e0] at h0
      rw [e1] at h1
      exact ⟨(s, y), h0, h1, bounds_i64 hy, by unfold maxLen at hs; omega⟩
    haveI : Inhabited Dc := ⟨(.empty, 0)⟩
    obtain ⟨q, hq⟩ := Deep.choose_lt each
    refine ⟨(List.range len1).map q, by simp, by simpa using hle, ?_, ?_⟩
    · intro d hd
      obtain ⟨i, hi, rfl⟩ := List.mem_map.1 hd
      exact (hq i (List.mem_range.1 hi)).2.2
    · by_cases h0 : len1 = 0
      · left; simp [h0]
      · right
        obtain ⟨b, off, spot⟩ := x
        have hc0 := (hq 0 (by omega)).1
        have hspot : spot = none := by simpa [Addr.add] using World.cell?_spot hc0
        subst hspot
        refine ⟨b, off, rfl, fun i h hi => ?_⟩
        have hil : i < len1 := by have := (List.getElem?_eq_some_iff.1 hi).1; simpa using this
        simp [hil] at hi
        subst hi
        obtain ⟨k0, k1, -⟩ := hq i hil
        rw [Addr.add_lit] at k0 k1
        exact ⟨k0, k1⟩

end Go.Proofs.YtkkboaiablfdbaaGreatDoor

/- Contracts of the laws' own small functions on rows of term nodes: compared, one copied. -/
namespace Go.Proofs.YtkkboaiablfdbaaGreatDoor
set_option linter.unusedVariables false
set_option linter.unusedSimpArgs false
open Go.RowKit

theorem eqTNode_same (s : Tc) (wa wb ka kb : Option Addr) (c1 d1 c2 d2 : Nat) (w : World) (hr1 : Rd w wa s.ws) (hs1 : Rd w wb s.ws) (hr2 : RdI w ka s.ks) (hs2 : RdI w kb s.ks) :
    Calls Tryz.prog 45 #[.agg #[.int .i64 s.op, .int .i64 s.vr, .int .i64 s.a, .int .i64 s.b, .int .i64 s.bw, .slice wa s.ws.length c1, .slice ka s.ks.length c2], .agg #[.int .i64 s.op, .int .i64 s.vr, .int .i64 s.a, .int .i64 s.b, .int .i64 s.bw, .slice wb s.ws.length d1, .slice kb s.ks.length d2]] w fun e w' => e = .returned (.bool true) ∧ Below w.heap.size w w' := by
  obtain ⟨op, vr, a, b, bw, ws, ks⟩ := s
  simp only [] at hr1 hs1 hr2 hs2 ⊢
  have h2 : Below w.heap.size w ((w.alloc (Obj.cells #[Value.int .i64 op, Value.int .i64 vr, Value.int .i64 a, Value.int .i64 b, Value.int .i64 bw, Value.slice wa ws.length c1, Value.slice ka ks.length c2] 53)).alloc (Obj.cells #[Value.int .i64 op, Value.int .i64 vr, Value.int .i64 a, Value.int .i64 b, Value.int .i64 bw, Value.slice wb ws.length d1, Value.slice kb ks.length d2] 53)) := ((Below.refl _ _).alloc (Nat.le_refl _) _).alloc (by simp) _
  have HI : Hid (∀ u, Below w.heap.size w u → Calls Tryz.prog 66 #[.slice ka ks.length c2, .slice kb ks.length d2] u fun e w' => e = .returned (.bool true) ∧ Below u.heap.size u w') := fun u hu => by
    have := eqInt64S_any ka kb c2 d2 ks ks u (hr2.later hu) (hs2.later hu)
    simpa using this
  have HE : Hid (∀ u, Below w.heap.size w u → Calls Tryz.prog 65 #[.agg #[.int .i64 bw, .slice wa ws.length c1], .agg #[.int .i64 bw, .slice wb ws.length d1]] u fun e w' => e = .returned (.bool true) ∧ Below u.heap.size u w') := fun u hu => by
    have := eqBits_any bw bw wa wb c1 d1 ws ws u (hr1.later hu) (hs1.later hu)
    simpa using this
  have B2 := kide h2
  have e0 : (op != op) = false := by simp
  have e1 : (vr != vr) = false := by simp
  have e2 : (a != a) = false := by simp
  have e3 : (b != b) = false := by simp
  clear hr1 hs1 hr2 hs2 h2
  go_enter Tryz.func45, Tryz.ntmps45
  go_wp2_with fail
  refine Calls.mono (HE.out _ B2.out) ?_
  rintro e w1 ⟨rfl, hb1⟩
  have k0 := kcell hb1 w.heap.size 6 (by simp; omega)
  have j0 := kcell hb1 (w.heap.size + 1) 6 (by simp)
  have B3 := kide (B2.out.trans (hb1.mono B2.out.size))
  simp at k0 j0
  clear hb1
  go_wp2_with fail
  refine Calls.mono (HI.out _ B3.out) ?_
  rintro e w2 ⟨rfl, hb2⟩
  go_wp2_with fail
  go_ret
  exact ⟨rfl, B3.out.trans (hb2.mono B3.out.size)⟩

set_option maxHeartbeats 1000000 in
theorem eqTNodeS_same (a b : Option Addr) (c d : Nat) (xs ys : List Tg) (w : World) (hr : RdT w a xs) (hs : RdT w b ys) (he : xs.map Tg.ct = ys.map Tg.ct) (n : Nat) (h1 : xs.length = n) (h2 : ys.length = n) :
    Calls Tryz.prog 30 #[.slice a n c, .slice b n d] w fun e w' => e = .returned (.bool true) ∧ Below w.heap.size w w' := by
  have hl1 := hr.1
  rw [h1] at hl1
  have hne : ((n : Int) != (n : Int)) = false := by simp
  have H1 := kide h1
  have H2 := kide h2
  have HE := kide he
  clear h1 h2 he
  go_enter Tryz.func30, Tryz.ntmps30
  go_wp2_with fail
  clear hne
  go_loopw [5] (fun i wr => ∃ k : Nat, k ≤ n ∧ i = .int .i64 k ∧ Below w.heap.size w wr) (fun i _ => n - (intOf i).toNat)
  case atStart => exact ⟨0, Nat.zero_le _, rfl, Below.refl _ _⟩
  case round =>
    obtain ⟨k, hk, rfl, hbel⟩ := hrel
    have HB := kide hbel
    by_cases hlt : k < n
    · obtain ⟨-, h | ⟨b1, o1, rfl, hc1⟩⟩ := hr
      · have := H1.out; subst h; simp at this; omega
      obtain ⟨-, h | ⟨b2, o2, rfl, hc2⟩⟩ := hs
      · have := H2.out; subst h; simp at this; omega
      obtain ⟨⟨s1, sa, sc, wa, wc⟩, hx⟩ : ∃ x, xs[k]? = some x := ⟨xs[k]'(by rw [H1.out]; exact hlt), List.getElem?_eq_getElem _⟩
      obtain ⟨⟨s2, sa', sc', wa', wc'⟩, hy⟩ : ∃ y, ys[k]? = some y := ⟨ys[k]'(by rw [H2.out]; exact hlt), List.getElem?_eq_getElem _⟩
      have hxy : s1 = s2 := by
        have h := congrArg (fun l => l[k]?) HE.out
        simp [hx, hy] at h
        exact h
      subst hxy
      obtain ⟨⟨p0, p1, p2, p3, p4, p5, p6⟩, pi, pr, -⟩ := (hc1 k _ hx).later hbel
      obtain ⟨⟨q0, q1, q2, q3, q4, q5, q6⟩, qi, qr, -⟩ := (hc2 k _ hy).later hbel
      simp only [Tg.hd] at p0 p1 p2 p3 p4 p5 p6 pi pr q0 q1 q2 q3 q4 q5 q6 qi qr
      have l1 := block_lt_of_cell p0
      have l2 := block_lt_of_cell q0
      have i0 : (k : Int) < (n : Int) := by omega
      have HEQ := kide (fun u (hu : Below wr.heap.size wr u) => eqTNode_same s1 sa sa' wa wa' sc sc' wc wc' u (pi.later hu) (qi.later hu) (pr.later hu) (qr.later hu))
      obtain ⟨op, vr, aa, bb, bw, ws, ks⟩ := s1
      simp only [] at p0 p1 p2 p3 p4 p5 p6 q0 q1 q2 q3 q4 q5 q6 HEQ
      clear hc1 hc2 hbel hx hy pr qr pi qi
      go_wp2_with fail
      go_region_held3 (fun u => (u.cell? ⟨b1, o1 + k * 7, none⟩ = some (Value.int .i64 op) ∧ u.cell? ⟨b1, o1 + k * 7 + 1, none⟩ = some (Value.int .i64 vr) ∧ u.cell? ⟨b1, o1 + k * 7 + 2, none⟩ = some (Value.int .i64 aa) ∧ u.cell? ⟨b1, o1 + k * 7 + 3, none⟩ = some (Value.int .i64 bb) ∧ u.cell? ⟨b1, o1 + k * 7 + 4, none⟩ = some (Value.int .i64 bw) ∧ u.cell? ⟨b1, o1 + k * 7 + 5, none⟩ = some (Value.slice sa ws.length sc) ∧ u.cell? ⟨b1, o1 + k * 7 + 6, none⟩ = some (Value.slice wa ks.length wc)) ∧ (u.cell? ⟨b2, o2 + k * 7, none⟩ = some (Value.int .i64 op) ∧ u.cell? ⟨b2, o2 + k * 7 + 1, none⟩ = some (Value.int .i64 vr) ∧ u.cell? ⟨b2, o2 + k * 7 + 2, none⟩ = some (Value.int .i64 aa) ∧ u.cell? ⟨b2, o2 + k * 7 + 3, none⟩ = some (Value.int .i64 bb) ∧ u.cell? ⟨b2, o2 + k * 7 + 4, none⟩ = some (Value.int .i64 bw) ∧ u.cell? ⟨b2, o2 + k * 7 + 5, none⟩ = some (Value.slice sa' ws.length sc') ∧ u.cell? ⟨b2, o2 + k * 7 + 6, none⟩ = some (Value.slice wa' ks.length wc'))) (simp [*])
        ((go_at_call 45; refine Calls.mono (HEQ.out _ ?_) ?_; exact (Below.refl _ _).drew; rintro e w1 ⟨rfl, hb1⟩; replace hb1 := kundrew hb1; have k0 := kcell hb1 b1 (o1 + k * 7) l1; have k1 := kcell hb1 b1 (o1 + k * 7 + 1) l1; have k2 := kcell hb1 b1 (o1 + k * 7 + 2) l1; have k3 := kcell hb1 b1 (o1 + k * 7 + 3) l1; have k4 := kcell hb1 b1 (o1 + k * 7 + 4) l1; have k5 := kcell hb1 b1 (o1 + k * 7 + 5) l1; have k6 := kcell hb1 b1 (o1 + k * 7 + 6) l1; have j0 := kcell hb1 b2 (o2 + k * 7) l2; have j1 := kcell hb1 b2 (o2 + k * 7 + 1) l2; have j2 := kcell hb1 b2 (o2 + k * 7 + 2) l2; have j3 := kcell hb1 b2 (o2 + k * 7 + 3) l2; have j4 := kcell hb1 b2 (o2 + k * 7 + 4) l2; have j5 := kcell hb1 b2 (o2 + k * 7 + 5) l2; have j6 := kcell hb1 b2 (o2 + k * 7 + 6) l2))
      go_wp2_with fail
      go_roundw
      case rel => exact ⟨k + 1, by omega, by go_num, HB.out.trans (hb1.mono HB.out.size)⟩
      case measure => simp [intOf]; omega
    · clear hbel
      go_wp2_with fail
      go_ret
      exact ⟨rfl, HB.out⟩

theorem eqTerm_same (a b : Option Addr) (c d : Nat) (xs ys : List Tg) (w : World) (hr : RdT w a xs) (hs : RdT w b ys) (he : xs.map Tg.ct = ys.map Tg.ct) (n : Nat) (h1 : xs.length = n) (h2 : ys.length = n) :
    Calls Tryz.prog 10 #[.agg #[.slice a n c], .agg #[.slice b n d]] w fun e w' => e = .returned (.bool true) ∧ Below w.heap.size w w' := by
  have hb2 : Below w.heap.size w ((w.alloc (Obj.cells #[Value.slice a n c] 30)).alloc (Obj.cells #[Value.slice b n d] 30)) := ((Below.refl _ _).alloc (Nat.le_refl _) _).alloc (by simp) _
  have HC := kide (eqTNodeS_same a b c d xs ys _ (hr.later hb2) (hs.later hb2) he n h1 h2)
  have B2 := kide hb2
  clear hr hs he h1 h2 hb2
  go_enter Tryz.func10, Tryz.ntmps10
  go_wp2_with fail
  refine Calls.mono HC.out ?_
  rintro e w1 ⟨rfl, hb1⟩
  go_wp2_with fail
  go_ret
  exact ⟨rfl, B2.out.trans (hb1.mono B2.out.size)⟩

end Go.Proofs.YtkkboaiablfdbaaGreatDoor

/- How an argument that is a term is opened; how long the arguments are. -/
namespace Go.Proofs.YtkkboaiablfdbaaGreatDoor
set_option linter.unusedVariables false
set_option linter.unusedSimpArgs false
open Go.ChangeShapes Go.WideShapes Go.ChangeAt Go.RowKit Go.Joins

set_option maxRecDepth 100000 in
theorem open_ks {H : Type} {enc : TypeId × Value → H} {W : World} {base fuel : Nat} {v : Value} {x : DataW H × List MemPlace}
    (h : DataW.trod enc Tryz.prog W base (fun _ => true) true fuel 48 [v] = some x) :
    ∃ (a : Option Addr) (n c : Nat), v = .slice a n c ∧ n ≤ 9223372036854775807 ∧ (n ≤ 1048576 → ∃ ks : List Int, ks.length = n ∧ RdI W a ks) := by
  rcases open_ints Tryz.underlying48 Tryz.underlying2 (by kernel_rfl) h with ⟨hcs, _⟩ | ⟨x, len, cap, zs, hcs, _, hl, hm, hz, _, hcell, hwz⟩
  · simp at hcs
    subst hcs
    exact ⟨none, 0, 0, rfl, by omega, fun _ => ⟨[], rfl, by simp, by simp, .inl rfl⟩⟩
  · simp at hcs
    subst hcs
    refine ⟨some x, len, cap, rfl, by unfold maxLen at hm; omega, fun hle => ⟨zs.take len, ?_, ?_, ?_, ?_⟩⟩
    · simp at hz ⊢; omega
    · simp at hz ⊢; omega
    · intro y hy
      exact bounds_i64 (hwz y (List.mem_of_mem_take hy))
    · by_cases h0 : len = 0
      · left; simp [h0]
      · right
        simp at hz
        obtain ⟨b, off, spot⟩ := x
        have hc0 := hcell 0 (by omega)
        have hspot : spot = none := by simpa [Addr.add] using World.cell?_spot hc0
        subst hspot
        refine ⟨b, off, rfl, fun i hi => ?_⟩
        have hi' : i < len := by simp at hi; omega
        have hci := hcell i (by omega)
        have e : (zs.take len).getD i 0 = zs.getD i 0 := by
          simp [List.getD, hi']
        rw [e]
        rw [Addr.add_lit] at hci
        exact hci

set_option maxRecDepth 100000 in
theorem open_words {H : Type} {enc : TypeId × Value → H} {W : World} {base fuel : Nat} {v : Value} {x : DataW H × List MemPlace}
    (h : DataW.trod enc Tryz.prog W base (fun _ => true) true fuel 49 [v] = some x) :
    ∃ (a : Option Addr) (n c : Nat), v = .slice a n c ∧ n ≤ 9223372036854775807 ∧ (n ≤ 1048576 → ∃ xs : List Nat, xs.length = n ∧ Rd W a xs) := by
  rcases open_ints Tryz.underlying49 Tryz.underlying104 (by kernel_rfl) h with ⟨hcs, _⟩ | ⟨x, len, cap, zs, hcs, _, hl, hm, hz, _, hcell, hwz⟩
  · simp at hcs
    subst hcs
    exact ⟨none, 0, 0, rfl, by omega, fun _ => ⟨[], rfl, by simp, by simp, .inl rfl⟩⟩
  · simp at hcs
    subst hcs
    refine ⟨some x, len, cap, rfl, by unfold maxLen at hm; omega, fun hle => ⟨(zs.take len).map Int.toNat, ?_, ?_, ?_, ?_⟩⟩
    · simp at hz ⊢; omega
    · simp at hz ⊢; omega
    · intro y hy
      obtain ⟨z, hz1, rfl⟩ := List.mem_map.1 hy
      have := bounds_u64 (hwz z (List.mem_of_mem_take hz1))
      omega
    · by_cases h0 : len = 0
      · left; simp [h0]
      · right
        simp at hz
        obtain ⟨b, off, spot⟩ := x
        have hc0 := hcell 0 (by omega)
        have hspot : spot = none := by simpa [Addr.add] using World.cell?_spot hc0
        subst hspot
        refine ⟨b, off, rfl, fun i hi => ?_⟩
        have hi' : i < len := by simp at hi; omega
        have hci := hcell i (by omega)
        have hw := bounds_u64 (hwz (zs.getD i 0) (by simp [List.getD, show i < zs.length by omega]))
        have e : ((((zs.take len).map Int.toNat).getD i 0 : Nat) : Int) = zs.getD i 0 := by
          simp [List.getD, hi', show i < zs.length by omega] at hw ⊢
          omega
        rw [e]
        rw [Addr.add_lit] at hci
        exact hci

/-- A call's own box of one cell still stands. -/
def Bq (w : World) (v : Value) (t : TypeId) (wk : World) : Prop := Below (w.heap.size + 1) (w.alloc (Obj.cells #[v] t)) wk
theorem Bq.start (w : World) (v : Value) (t : TypeId) : Bq w v t (w.alloc (Obj.cells #[v] t)) := Below.refl _ _
theorem Bq.size {w wk : World} {v : Value} {t : TypeId} (h : Bq w v t wk) : w.heap.size + 1 ≤ wk.heap.size := by have := Below.size h; simpa using this
theorem Bq.next {w wk w1 : World} {v : Value} {t : TypeId} (h : Bq w v t wk) (hb : Below wk.heap.size wk w1) : Bq w v t w1 := Below.trans h (hb.mono h.size)
theorem Bq.below {w wk : World} {v : Value} {t : TypeId} (h : Bq w v t wk) : Below w.heap.size w wk := Below.trans (Below.alloc (Below.refl _ _) (Nat.le_refl _) _) (Below.mono h (by omega))
theorem Bq.cell {w wk : World} {v : Value} {t : TypeId} (h : Bq w v t wk) : wk.cell? ⟨w.heap.size, 0, none⟩ = some v := by
  rw [Below.cell h (by simp)]; simp

/-- The rows of a node as it lies. -/
def NodeOf (W : World) (h : Th) : Prop := (in64 h.op ∧ in64 h.vr ∧ in64 h.a ∧ in64 h.b ∧ in64 h.bw) ∧ (h.wn ≤ 1048576 → ∃ ws : List Nat, ws.length = h.wn ∧ Rd W h.wa ws) ∧ (h.kn ≤ 1048576 → ∃ ks : List Int, ks.length = h.kn ∧ RdI W h.ka ks)

set_option maxRecDepth 100000 in
theorem open_term {H : Type} {enc : TypeId × Value → H} {W : World} {r : Reach} {b0 base : Nat} {v : Value} {d : DataW H} {p : List MemPlace}
    (hv : Value.okWide Tryz.prog W r b0 25 v) (h : DataW.Trod enc Tryz.prog W base (fun _ => true) true 25 v d p) :
    ∃ (a : Option Addr) (n c : Nat), v = .agg #[.slice a n c] ∧ n ≤ 9223372036854775807 ∧ (n ≤ 1048576 → ∃ hs : List Th, hs.length = n ∧ RdTh W a hs ∧ ∀ h ∈ hs, NodeOf W h) := by
  obtain ⟨cs, rfl, hsz⟩ := okWide_struct Tryz.underlying25 hv
  have hC : Tryz.prog.cellsOf 25 = 1 := by kernel_rfl
  obtain ⟨fuel, hf⟩ := h
  obtain ⟨xs, m, _, _, _, hxl, hx0⟩ := DataW.trod_struct Tryz.underlying25 hf
  have hS : Tryz.prog.cellsOf 23 = 1 := by kernel_rfl
  have ce : Tryz.prog.cellsOf 76 = 7 := by kernel_rfl
  have cB : Tryz.prog.cellsOf 74 = 2 := by kernel_rfl
  have cI : Tryz.prog.cellsOf 2 = 1 := by kernel_rfl
  have cW : Tryz.prog.cellsOf 49 = 1 := by kernel_rfl
  have cK : Tryz.prog.cellsOf 48 = 1 := by kernel_rfl
  obtain ⟨l⟩ := cs
  match l, hsz.trans hC, xs, hxl with
  | [c0], _, [y0], _ =>
    have g0 := hx0 0 _ rfl
    simp [Value.cells, hS] at g0
    rcases Deep.open_slice Tryz.underlying23 g0 with ⟨hcs, _⟩ | ⟨x, len, cap, m, n2, D, Pl, hcs, _, hl, hm, hz, _, hx⟩
    · simp at hcs
      subst hcs
      exact ⟨none, 0, 0, rfl, by omega, fun _ => ⟨[], rfl, ⟨by simp, .inl rfl⟩, by simp⟩⟩
    · simp at hcs
      subst hcs
      refine ⟨some x, len, cap, rfl, by unfold maxLen at hm; omega, fun hle => ?_⟩
      have each : ∀ i, i < len → ∃ h : Th, (W.cell? (x.add (i * 7)) = some (.int .i64 h.op) ∧ W.cell? (x.add (i * 7 + 1)) = some (.int .i64 h.vr) ∧ W.cell? (x.add (i * 7 + 2)) = some (.int .i64 h.a) ∧ W.cell? (x.add (i * 7 + 3)) = some (.int .i64 h.b) ∧ W.cell? (x.add (i * 7 + 4)) = some (.int .i64 h.bw) ∧ W.cell? (x.add (i * 7 + 5)) = some (.slice h.wa h.wn h.wc) ∧ W.cell? (x.add (i * 7 + 6)) = some (.slice h.ka h.kn h.kc)) ∧ (h.wn ≤ 9223372036854775807 ∧ h.kn ≤ 9223372036854775807) ∧ NodeOf W h := by
        intro i hi
        simp at hz
        obtain ⟨cs', h1, h2⟩ := hx i (by omega)
        rw [ce] at h1
        obtain ⟨_, hlen, hcell⟩ := World.cells?_some h1
        obtain ⟨ys, k, hk, hxy, _, hxl, hfd⟩ := DataW.trod_struct Tryz.underlying76 h2
        match ys, hxl, cs', hlen with
        | [y0, y1, y2, y3, y4, y5], _, [v0, v1, v2, v3, v4, v5, v6], _ =>
          have g0 := hfd 0 _ rfl
          have g1 := hfd 1 _ rfl
          have g2 := hfd 2 _ rfl
          have g3 := hfd 3 _ rfl
          have g4 := hfd 4 _ rfl
          have g5 := hfd 5 _ rfl
          simp [cB, cI, cK] at g0 g1 g2 g3 g4 g5
          obtain ⟨n0, e0, _, w0⟩ := DataW.trod_int Tryz.underlying2 g0
          obtain ⟨n1, e1, _, w1⟩ := DataW.trod_int Tryz.underlying2 g1
          obtain ⟨n2', e2, _, w2⟩ := DataW.trod_int Tryz.underlying2 g2
          obtain ⟨n3, e3, _, w3⟩ := DataW.trod_int Tryz.underlying2 g3
          obtain ⟨zs, k', hk', hxy', _, hxl', hfd'⟩ := DataW.trod_struct Tryz.underlying74 g4
          obtain ⟨ak, nk, ck, e6, hnk, hkk⟩ := open_ks g5
          match zs, hxl' with
          | [z0, z1], _ =>
            have g6 := hfd' 0 _ rfl
            have g7 := hfd' 1 _ rfl
            simp [cI, cW] at g6 g7
            obtain ⟨n4, e4, _, w4⟩ := DataW.trod_int Tryz.underlying2 g6
            obtain ⟨a, n, c, e5, hn, hk5⟩ := open_words g7
            have c0 := hcell 0 (by omega)
            have c1 := hcell 1 (by omega)
            have c2 := hcell 2 (by omega)
            have c3 := hcell 3 (by omega)
            have c4 := hcell 4 (by omega)
            have c5 := hcell 5 (by omega)
            have c6 := hcell 6 (by omega)
            rw [Deep.add_add] at c0 c1 c2 c3 c4 c5 c6
            simp at e0 e1 e2 e3 e4 c0 c1 c2 c3 c4 c5 c6
            rw [e0] at c0
            rw [e1] at c1
            rw [e2] at c2
            rw [e3] at c3
            rw [e4] at c4
            rw [e5] at c5
            rw [e6] at c6
            exact ⟨⟨n0, n1, n2', n3, n4, a, n, c, ak, nk, ck⟩, ⟨c0, c1, c2, c3, c4, c5, c6⟩, ⟨hn, hnk⟩, ⟨bounds_i64 w0, bounds_i64 w1, bounds_i64 w2, bounds_i64 w3, bounds_i64 w4⟩, hk5, hkk⟩
      haveI : Inhabited Th := ⟨⟨0, 0, 0, 0, 0, none, 0, 0, none, 0, 0⟩⟩
      obtain ⟨q, hq⟩ := Deep.choose_lt each
      refine ⟨(List.range len).map q, by simp, ⟨by simpa using hle, ?_⟩, ?_⟩
      · by_cases h0 : len = 0
        · left; simp [h0]
        · right
          obtain ⟨b, off, spot⟩ := x
          have hc0 := (hq 0 (by omega)).1.1
          have hspot : spot = none := by simpa [Addr.add] using World.cell?_spot hc0
          subst hspot
          refine ⟨b, off, rfl, fun i h hi => ?_⟩
          have hil : i < len := by have := (List.getElem?_eq_some_iff.1 hi).1; simpa using this
          simp [hil] at hi
          subst hi
          obtain ⟨⟨k0, k1, k2, k3, k4, k5, k6⟩, k7, -⟩ := hq i hil
          rw [Addr.add_lit] at k0 k1 k2 k3 k4 k5 k6
          exact ⟨⟨k0, k1, k2, k3, k4, k5, k6⟩, k7⟩
      · intro h hh
        obtain ⟨i, hi, rfl⟩ := List.mem_map.1 hh
        exact (hq i (List.mem_range.1 hi)).2.2

/-- Where all is short enough the nodes are there. -/
theorem RdT_of {W : World} {a : Option Addr} {hs : List Th} {L : Int} (hr : RdTh W a hs) (hk : ∀ h ∈ hs, NodeOf W h) (hL : 0 ≤ L) (hL2 : L ≤ 1048576) (hz : 0 ≤ szTl hs L) : ∃ xs : List Tg, xs.length = hs.length ∧ RdT W a xs := by
  have hlen := hr.1
  have hs1 : ∀ h ∈ hs, (h.wn : Int) ≤ 1048576 ∧ (h.kn : Int) ≤ 1048576 := by
    rcases szTl_range hs L hL with e | ⟨-, -, e⟩
    · omega
    · intro h hh
      have := e h hh
      omega
  have each : ∀ i, i < hs.length → ∃ n : Tg, ∀ h, hs[i]? = some h → n.hd = h ∧ Rd W n.wa n.ct.ws ∧ RdI W n.ka n.ct.ks ∧ in64 n.ct.op ∧ in64 n.ct.vr ∧ in64 n.ct.a ∧ in64 n.ct.b ∧ in64 n.ct.bw := by
    intro i hi
    have hm : hs[i] ∈ hs := List.getElem_mem hi
    obtain ⟨h1, h2⟩ := hs1 _ hm
    obtain ⟨e0, hk0, hk1⟩ := hk _ hm
    obtain ⟨ws, e1, e2⟩ := hk0 (by omega)
    obtain ⟨ks, e3, e4⟩ := hk1 (by omega)
    refine ⟨⟨⟨hs[i].op, hs[i].vr, hs[i].a, hs[i].b, hs[i].bw, ws, ks⟩, hs[i].wa, hs[i].wc, hs[i].ka, hs[i].kc⟩, fun h hh => ?_⟩
    rw [List.getElem?_eq_getElem hi] at hh
    cases hh
    exact ⟨by simp [Tg.hd, e1, e3], e2, e4, e0⟩
  haveI : Inhabited Tg := ⟨⟨⟨0, 0, 0, 0, 0, [], []⟩, none, 0, none, 0⟩⟩
  obtain ⟨q, hq⟩ := Deep.choose_lt each
  refine ⟨(List.range hs.length).map q, by simp, by simpa using hlen, ?_⟩
  rcases hr.2 with h | ⟨b, o, rfl, hc⟩
  · left; simp [h]
  · right
    refine ⟨b, o, rfl, fun i n hi => ?_⟩
    have hil : i < hs.length := by have := (List.getElem?_eq_some_iff.1 hi).1; simpa using this
    simp [hil] at hi
    subst hi
    have hg : hs[i]? = some hs[i] := List.getElem?_eq_getElem hil
    obtain ⟨e1, e2⟩ := hq i hil _ hg
    obtain ⟨f0, -⟩ := hc i _ hg
    exact ⟨by rw [e1]; exact f0, e2⟩

theorem len_of_tc {ms xs : List Tg} {n : Nat} (h : ms.map Tg.ct = xs.map Tg.ct) (hn : xs.length = n) : ms.length = n := by
  rw [← hn]; simpa using congrArg List.length h

theorem sizes_term (a b : Option Addr) (n c n2 c2 : Nat) (w : World) (hn : n ≤ 9223372036854775807) (hn2 : n2 ≤ 9223372036854775807)
    (hx : n ≤ 1048576 → ∃ ds : List Dc, ds.length = n ∧ RdD w a ds) (hy : n2 ≤ 1048576 → ∃ hs : List Th, hs.length = n2 ∧ RdTh w b hs ∧ ∀ h ∈ hs, NodeOf w h) :
    ∃ Z Z2 : Int, (∀ u, Below w.heap.size w u → Calls Tryz.prog 4 #[.slice a n c, .int .i64 1048576] u fun e w' => e = .returned (.int .i64 Z) ∧ Below u.heap.size u w') ∧
      (0 ≤ Z → ∀ u, Below w.heap.size w u → Calls Tryz.prog 5 #[.agg #[.slice b n2 c2], .int .i64 Z] u fun e w' => e = .returned (.int .i64 Z2) ∧ Below u.heap.size u w') ∧
      (0 ≤ Z → 0 ≤ Z2 → ∃ (ds : List Dc) (xs : List Tg), ds.length = n ∧ xs.length = n2 ∧ RdD w a ds ∧ RdT w b xs) := by
  by_cases h : n ≤ 1048576
  · obtain ⟨ds, rfl, hr⟩ := hx h
    have hZ := szD_range ds (1048576 - ds.length) (by omega)
    have hSZ := fun u (hu : Below w.heap.size w u) => szDeclS_in a c ds 1048576 u (hr.later hu) (by omega) (by omega) (by omega)
    generalize szD ds (1048576 - ds.length) = Z at *
    by_cases hz : Z < 0
    · exact ⟨Z, 0, hSZ, fun h' => by omega, fun h' => by omega⟩
    have hz0 : 0 ≤ Z := by omega
    have hz1 : Z ≤ 1048576 := by omega
    by_cases h2 : (n2 : Int) ≤ Z
    · obtain ⟨hs, rfl, hh, hk⟩ := hy (by omega)
      have hZ2 := szTl_range hs (Z - hs.length) (by omega)
      refine ⟨Z, szTl hs (Z - hs.length), hSZ, fun _ u hu => szTerm_in b c2 hs Z u (hh.later hu) hz0 hz1 h2 _ rfl, fun _ hz2 => ?_⟩
      obtain ⟨xs, hxl, hxs⟩ := RdT_of hh hk (L := Z - hs.length) (by omega) (by omega) hz2
      exact ⟨ds, xs, rfl, hxl, hr, hxs⟩
    · exact ⟨Z, -1, hSZ, fun _ u hu => szTerm_out b n2 c2 Z u hz0 hz1 hn2 h2, fun _ h' => by omega⟩
  · exact ⟨-1, 0, fun u hu => (szDeclS_out a n c 1048576 u (by omega) (by omega) hn (by omega)).mono (fun e w' hh => ⟨hh.1, by rw [hh.2]; exact Below.refl _ _⟩), fun h' => by omega, fun h' => by omega⟩

end Go.Proofs.YtkkboaiablfdbaaGreatDoor
