/- Several texts in one. -/
import Derived.Test.YtbpodkdlhjgncaaGreatDoorZVB
import Derived.Test.YtbpodkdlhjgncaaGreatDoorZVJ
import Derived.Test.YtbpodkdlhjgncaaGreatDoorZVC

/- Contracts of the laws' own small functions on rows of term nodes: compared, one copied. -/
namespace Go.Proofs.YtbpodkdlhjgncaaGreatDoor
set_option linter.unusedVariables false
set_option linter.unusedSimpArgs false
open Go.RowKit

theorem eqTNode_same (s : Tc) (wa wb ka kb : Option Addr) (c1 d1 c2 d2 : Nat) (w : World) (hr1 : Rd w wa s.ws) (hs1 : Rd w wb s.ws) (hr2 : RdI w ka s.ks) (hs2 : RdI w kb s.ks) :
    Calls Tryz.prog 109 #[.agg #[.int .i64 s.op, .int .i64 s.vr, .int .i64 s.a, .int .i64 s.b, .int .i64 s.bw, .slice wa s.ws.length c1, .slice ka s.ks.length c2], .agg #[.int .i64 s.op, .int .i64 s.vr, .int .i64 s.a, .int .i64 s.b, .int .i64 s.bw, .slice wb s.ws.length d1, .slice kb s.ks.length d2]] w fun e w' => e = .returned (.bool true) ∧ Below w.heap.size w w' := by
  obtain ⟨op, vr, a, b, bw, ws, ks⟩ := s
  simp only [] at hr1 hs1 hr2 hs2 ⊢
  have h2 : Below w.heap.size w ((w.alloc (Obj.cells #[Value.int .i64 op, Value.int .i64 vr, Value.int .i64 a, Value.int .i64 b, Value.int .i64 bw, Value.slice wa ws.length c1, Value.slice ka ks.length c2] 89)).alloc (Obj.cells #[Value.int .i64 op, Value.int .i64 vr, Value.int .i64 a, Value.int .i64 b, Value.int .i64 bw, Value.slice wb ws.length d1, Value.slice kb ks.length d2] 89)) := ((Below.refl _ _).alloc (Nat.le_refl _) _).alloc (by simp) _
  have HI : Hid (∀ u, Below w.heap.size w u → Calls Tryz.prog 119 #[.slice ka ks.length c2, .slice kb ks.length d2] u fun e w' => e = .returned (.bool true) ∧ Below u.heap.size u w') := fun u hu => by
    have := eqInt64S_any ka kb c2 d2 ks ks u (hr2.later hu) (hs2.later hu)
    simpa using this
  have HE : Hid (∀ u, Below w.heap.size w u → Calls Tryz.prog 36 #[.agg #[.int .i64 bw, .slice wa ws.length c1], .agg #[.int .i64 bw, .slice wb ws.length d1]] u fun e w' => e = .returned (.bool true) ∧ Below u.heap.size u w') := fun u hu => by
    have := eqBits_any bw bw wa wb c1 d1 ws ws u (hr1.later hu) (hs1.later hu)
    simpa using this
  have B2 := kide h2
  have e0 : (op != op) = false := by simp
  have e1 : (vr != vr) = false := by simp
  have e2 : (a != a) = false := by simp
  have e3 : (b != b) = false := by simp
  clear hr1 hs1 hr2 hs2 h2
  go_enter Tryz.func109, Tryz.ntmps109
  go_wp2_with fail
  refine Calls.mono (HE.out _ B2.out) ?_
  rintro e w1 ⟨rfl, hb1⟩
  have k0 := kcell hb1 w.heap.size 6 (by simp; omega)
  have j0 := kcell hb1 (w.heap.size + 1) 6 (by simp)
  have B3 := kide (B2.out.trans (hb1.mono B2.out.size))
  simp at k0 j0
  clear hb1
  go_wp2_with fail
  refine Calls.mono (HI.out _ B3.out) ?_
  rintro e w2 ⟨rfl, hb2⟩
  go_wp2_with fail
  go_ret
  exact ⟨rfl, B3.out.trans (hb2.mono B3.out.size)⟩

set_option maxHeartbeats 1000000 in
theorem eqTNodeS_same (a b : Option Addr) (c d : Nat) (xs ys : List Tg) (w : World) (hr : RdT w a xs) (hs : RdT w b ys) (he : xs.map Tg.ct = ys.map Tg.ct) (n : Nat) (h1 : xs.length = n) (h2 : ys.length = n) :
    Calls Tryz.prog 94 #[.slice a n c, .slice b n d] w fun e w' => e = .returned (.bool true) ∧ Below w.heap.size w w' := by
  have hl1 := hr.1
  rw [h1] at hl1
  have hne : ((n : Int) != (n : Int)) = false := by simp
  have H1 := kide h1
  have H2 := kide h2
  have HE := kide he
  clear h1 h2 he
  go_enter Tryz.func94, Tryz.ntmps94
  go_wp2_with fail
  clear hne
  go_loopw [5] (fun i wr => ∃ k : Nat, k ≤ n ∧ i = .int .i64 k ∧ Below w.heap.size w wr) (fun i _ => n - (intOf i).toNat)
  case atStart => exact ⟨0, Nat.zero_le _, rfl, Below.refl _ _⟩
  case round =>
    obtain ⟨k, hk, rfl, hbel⟩ := hrel
    have HB := kide hbel
    by_cases hlt : k < n
    · obtain ⟨-, h | ⟨b1, o1, rfl, hc1⟩⟩ := hr
      · have := H1.out; subst h; simp at this; omega
      obtain ⟨-, h | ⟨b2, o2, rfl, hc2⟩⟩ := hs
      · have := H2.out; subst h; simp at this; omega
      obtain ⟨⟨s1, sa, sc, wa, wc⟩, hx⟩ : ∃ x, xs[k]? = some x := ⟨xs[k]'(by rw [H1.out]; exact hlt), List.getElem?_eq_getElem _⟩
      obtain ⟨⟨s2, sa', sc', wa', wc'⟩, hy⟩ : ∃ y, ys[k]? = some y := ⟨ys[k]'(by rw [H2.out]; exact hlt), List.getElem?_eq_getElem _⟩
      have hxy : s1 = s2 := by
        have h := congrArg (fun l => l[k]?) HE.out
        simp [hx, hy] at h
        exact h
      subst hxy
      obtain ⟨⟨p0, p1, p2, p3, p4, p5, p6⟩, pi, pr, -⟩ := (hc1 k _ hx).later hbel
      obtain ⟨⟨q0, q1, q2, q3, q4, q5, q6⟩, qi, qr, -⟩ := (hc2 k _ hy).later hbel
      simp only [Tg.hd] at p0 p1 p2 p3 p4 p5 p6 pi pr q0 q1 q2 q3 q4 q5 q6 qi qr
      have l1 := block_lt_of_cell p0
      have l2 := block_lt_of_cell q0
      have i0 : (k : Int) < (n : Int) := by omega
      have HEQ := kide (fun u (hu : Below wr.heap.size wr u) => eqTNode_same s1 sa sa' wa wa' sc sc' wc wc' u (pi.later hu) (qi.later hu) (pr.later hu) (qr.later hu))
      obtain ⟨op, vr, aa, bb, bw, ws, ks⟩ := s1
      simp only [] at p0 p1 p2 p3 p4 p5 p6 q0 q1 q2 q3 q4 q5 q6 HEQ
      clear hc1 hc2 hbel hx hy pr qr pi qi
      go_wp2_with fail
      go_region_held3 (fun u => (u.cell? ⟨b1, o1 + k * 7, none⟩ = some (Value.int .i64 op) ∧ u.cell? ⟨b1, o1 + k * 7 + 1, none⟩ = some (Value.int .i64 vr) ∧ u.cell? ⟨b1, o1 + k * 7 + 2, none⟩ = some (Value.int .i64 aa) ∧ u.cell? ⟨b1, o1 + k * 7 + 3, none⟩ = some (Value.int .i64 bb) ∧ u.cell? ⟨b1, o1 + k * 7 + 4, none⟩ = some (Value.int .i64 bw) ∧ u.cell? ⟨b1, o1 + k * 7 + 5, none⟩ = some (Value.slice sa ws.length sc) ∧ u.cell? ⟨b1, o1 + k * 7 + 6, none⟩ = some (Value.slice wa ks.length wc)) ∧ (u.cell? ⟨b2, o2 + k * 7, none⟩ = some (Value.int .i64 op) ∧ u.cell? ⟨b2, o2 + k * 7 + 1, none⟩ = some (Value.int .i64 vr) ∧ u.cell? ⟨b2, o2 + k * 7 + 2, none⟩ = some (Value.int .i64 aa) ∧ u.cell? ⟨b2, o2 + k * 7 + 3, none⟩ = some (Value.int .i64 bb) ∧ u.cell? ⟨b2, o2 + k * 7 + 4, none⟩ = some (Value.int .i64 bw) ∧ u.cell? ⟨b2, o2 + k * 7 + 5, none⟩ = some (Value.slice sa' ws.length sc') ∧ u.cell? ⟨b2, o2 + k * 7 + 6, none⟩ = some (Value.slice wa' ks.length wc'))) (simp [*])
        ((go_at_call 109; refine Calls.mono (HEQ.out _ ?_) ?_; exact (Below.refl _ _).drew; rintro e w1 ⟨rfl, hb1⟩; replace hb1 := kundrew hb1; have k0 := kcell hb1 b1 (o1 + k * 7) l1; have k1 := kcell hb1 b1 (o1 + k * 7 + 1) l1; have k2 := kcell hb1 b1 (o1 + k * 7 + 2) l1; have k3 := kcell hb1 b1 (o1 + k * 7 + 3) l1; have k4 := kcell hb1 b1 (o1 + k * 7 + 4) l1; have k5 := kcell hb1 b1 (o1 + k * 7 + 5) l1; have k6 := kcell hb1 b1 (o1 + k * 7 + 6) l1; have j0 := kcell hb1 b2 (o2 + k * 7) l2; have j1 := kcell hb1 b2 (o2 + k * 7 + 1) l2; have j2 := kcell hb1 b2 (o2 + k * 7 + 2) l2; have j3 := kcell hb1 b2 (o2 + k * 7 + 3) l2; have j4 := kcell hb1 b2 (o2 + k * 7 + 4) l2; have j5 := kcell hb1 b2 (o2 + k * 7 + 5) l2; have j6 := kcell hb1 b2 (o2 + k * 7 + 6) l2))
      go_wp2_with fail
      go_roundw
      case rel => exact ⟨k + 1, by omega, by go_num, HB.out.trans (hb1.mono HB.out.size)⟩
      case measure => simp [intOf]; omega
    · clear hbel
      go_wp2_with fail
      go_ret
      exact ⟨rfl, HB.out⟩

theorem eqTerm_same (a b : Option Addr) (c d : Nat) (xs ys : List Tg) (w : World) (hr : RdT w a xs) (hs : RdT w b ys) (he : xs.map Tg.ct = ys.map Tg.ct) (n : Nat) (h1 : xs.length = n) (h2 : ys.length = n) :
    Calls Tryz.prog 68 #[.agg #[.slice a n c], .agg #[.slice b n d]] w fun e w' => e = .returned (.bool true) ∧ Below w.heap.size w w' := by
  have hb2 : Below w.heap.size w ((w.alloc (Obj.cells #[Value.slice a n c] 60)).alloc (Obj.cells #[Value.slice b n d] 60)) := ((Below.refl _ _).alloc (Nat.le_refl _) _).alloc (by simp) _
  have HC := kide (eqTNodeS_same a b c d xs ys _ (hr.later hb2) (hs.later hb2) he n h1 h2)
  have B2 := kide hb2
  clear hr hs he h1 h2 hb2
  go_enter Tryz.func68, Tryz.ntmps68
  go_wp2_with fail
  refine Calls.mono HC.out ?_
  rintro e w1 ⟨rfl, hb1⟩
  go_wp2_with fail
  go_ret
  exact ⟨rfl, B2.out.trans (hb1.mono B2.out.size)⟩

end Go.Proofs.YtbpodkdlhjgncaaGreatDoor

/- How an argument that is a term is opened; how long the arguments are. -/
namespace Go.Proofs.YtbpodkdlhjgncaaGreatDoor
set_option linter.unusedVariables false
set_option linter.unusedSimpArgs false
open Go.ChangeShapes Go.WideShapes Go.ChangeAt Go.RowKit Go.Joins

set_option maxRecDepth 100000 in
theorem open_ks {H : Type} {enc : TypeId × Value → H} {W : World} {base fuel : Nat} {v : Value} {x : DataW H × List MemPlace}
    (h : DataW.trod enc Tryz.prog W base (fun _ => true) true fuel 87 [v] = some x) :
    ∃ (a : Option Addr) (n c : Nat), v = .slice a n c ∧ n ≤ 9223372036854775807 ∧ (n ≤ 1048576 → ∃ ks : List Int, ks.length = n ∧ RdI W a ks) := by
  rcases open_ints Tryz.underlying87 Tryz.underlying2 (by kernel_rfl) h with ⟨hcs, _⟩ | ⟨x, len, cap, zs, hcs, _, hl, hm, hz, _, hcell, hwz⟩
  · simp at hcs
    subst hcs
    exact ⟨none, 0, 0, rfl, by omega, fun _ => ⟨[], rfl, by simp, by simp, .inl rfl⟩⟩
  · simp at hcs
    subst hcs
    refine ⟨some x, len, cap, rfl, by unfold maxLen at hm; omega, fun hle => ⟨zs.take len, ?_, ?_, ?_, ?_⟩⟩
    · simp at hz ⊢; omega
    · simp at hz ⊢; omega
    · intro y hy
      exact bounds_i64 (hwz y (List.mem_of_mem_take hy))
    · by_cases h0 : len = 0
      · left; simp [h0]
      · right
        simp at hz
        obtain ⟨b, off, spot⟩ := x
        have hc0 := hcell 0 (by omega)
        have hspot : spot = none := by simpa [Addr.add] using World.cell?_spot hc0
        subst hspot
        refine ⟨b, off, rfl, fun i hi => ?_⟩
        have hi' : i < len := by simp at hi; omega
        have hci := hcell i (by omega)
        have e : (zs.take len).getD i 0 = zs.getD i 0 := by
          simp [List.getD, hi']
        rw [e]
        rw [Addr.add_lit] at hci
        exact hci

set_option maxRecDepth 100000 in
theorem open_words {H : Type} {enc : TypeId × Value → H} {W : World} {base fuel : Nat} {v : Value} {x : DataW H × List MemPlace}
    (h : DataW.trod enc Tryz.prog W base (fun _ => true) true fuel 53 [v] = some x) :
    ∃ (a : Option Addr) (n c : Nat), v = .slice a n c ∧ n ≤ 9223372036854775807 ∧ (n ≤ 1048576 → ∃ xs : List Nat, xs.length = n ∧ Rd W a xs) := by
  rcases open_ints Tryz.underlying53 Tryz.underlying103 (by kernel_rfl) h with ⟨hcs, _⟩ | ⟨x, len, cap, zs, hcs, _, hl, hm, hz, _, hcell, hwz⟩
  · simp at hcs
    subst hcs
    exact ⟨none, 0, 0, rfl, by omega, fun _ => ⟨[], rfl, by simp, by simp, .inl rfl⟩⟩
  · simp at hcs
    subst hcs
    refine ⟨some x, len, cap, rfl, by unfold maxLen at hm; omega, fun hle => ⟨(zs.take len).map Int.toNat, ?_, ?_, ?_, ?_⟩⟩
    · simp at hz ⊢; omega
    · simp at hz ⊢; omega
    · intro y hy
      obtain ⟨z, hz1, rfl⟩ := List.mem_map.1 hy
      have := bounds_u64 (hwz z (List.mem_of_mem_take hz1))
      omega
    · by_cases h0 : len = 0
      · left; simp [h0]
      · right
        simp at hz
        obtain ⟨b, off, spot⟩ := x
        have hc0 := hcell 0 (by omega)
        have hspot : spot = none := by simpa [Addr.add] using World.cell?_spot hc0
        subst hspot
        refine ⟨b, off, rfl, fun i hi => ?_⟩
        have hi' : i < len := by simp at hi; omega
        have hci := hcell i (by omega)
        have hw := bounds_u64 (hwz (zs.getD i 0) (by simp [List.getD, show i < zs.length by omega]))
        have e : ((((zs.take len).map Int.toNat).getD i 0 : Nat) : Int) = zs.getD i 0 := by
          simp [List.getD, hi', show i < zs.length by omega] at hw ⊢
          omega
        rw [e]
        rw [Addr.add_lit] at hci
        exact hci

/-- The rows of a node as it lies. -/
def NodeOf (W : World) (h : Th) : Prop := (in64 h.op ∧ in64 h.vr ∧ in64 h.a ∧ in64 h.b ∧ in64 h.bw) ∧ (h.wn ≤ 1048576 → ∃ ws : List Nat, ws.length = h.wn ∧ Rd W h.wa ws) ∧ (h.kn ≤ 1048576 → ∃ ks : List Int, ks.length = h.kn ∧ RdI W h.ka ks)

/-- Where all is short enough the nodes are there. -/
theorem RdT_of {W : World} {a : Option Addr} {hs : List Th} {L : Int} (hr : RdTh W a hs) (hk : ∀ h ∈ hs, NodeOf W h) (hL : 0 ≤ L) (hL2 : L ≤ 1048576) (hz : 0 ≤ szTl hs L) : ∃ xs : List Tg, xs.length = hs.length ∧ RdT W a xs := by
  have hlen := hr.1
  have hs1 : ∀ h ∈ hs, (h.wn : Int) ≤ 1048576 ∧ (h.kn : Int) ≤ 1048576 := by
    rcases szTl_range hs L hL with e | ⟨-, -, e⟩
    · omega
    · intro h hh
      have := e h hh
      omega
  have each : ∀ i, i < hs.length → ∃ n : Tg, ∀ h, hs[i]? = some h → n.hd = h ∧ Rd W n.wa n.ct.ws ∧ RdI W n.ka n.ct.ks ∧ in64 n.ct.op ∧ in64 n.ct.vr ∧ in64 n.ct.a ∧ in64 n.ct.b ∧ in64 n.ct.bw := by
    intro i hi
    have hm : hs[i] ∈ hs := List.getElem_mem hi
    obtain ⟨h1, h2⟩ := hs1 _ hm
    obtain ⟨e0, hk0, hk1⟩ := hk _ hm
    obtain ⟨ws, e1, e2⟩ := hk0 (by omega)
    obtain ⟨ks, e3, e4⟩ := hk1 (by omega)
    refine ⟨⟨⟨hs[i].op, hs[i].vr, hs[i].a, hs[i].b, hs[i].bw, ws, ks⟩, hs[i].wa, hs[i].wc, hs[i].ka, hs[i].kc⟩, fun h hh => ?_⟩
    rw [List.getElem?_eq_getElem hi] at hh
    cases hh
    exact ⟨by simp [Tg.hd, e1, e3], e2, e4, e0⟩
  haveI : Inhabited Tg := ⟨⟨⟨0, 0, 0, 0, 0, [], []⟩, none, 0, none, 0⟩⟩
  obtain ⟨q, hq⟩ := Deep.choose_lt each
  refine ⟨(List.range hs.length).map q, by simp, by simpa using hlen, ?_⟩
  rcases hr.2 with h | ⟨b, o, rfl, hc⟩
  · left; simp [h]
  · right
    refine ⟨b, o, rfl, fun i n hi => ?_⟩
    have hil : i < hs.length := by have := (List.getElem?_eq_some_iff.1 hi).1; simpa using this
    simp [hil] at hi
    subst hi
    have hg : hs[i]? = some hs[i] := List.getElem?_eq_getElem hil
    obtain ⟨e1, e2⟩ := hq i hil _ hg
    obtain ⟨f0, -⟩ := hc i _ hg
    exact ⟨by rw [e1]; exact f0, e2⟩

theorem len_of_tc {ms xs : List Tg} {n : Nat} (h : ms.map Tg.ct = xs.map Tg.ct) (hn : xs.length = n) : ms.length = n := by
  rw [← hn]; simpa using congrArg List.length h

end Go.Proofs.YtbpodkdlhjgncaaGreatDoor

/- Rows of bindings: as they lie, how long. -/
namespace Go.Proofs.YtbpodkdlhjgncaaGreatDoor
set_option linter.unusedVariables false
set_option linter.unusedSimpArgs false
open Go.ChangeShapes Go.WideShapes Go.ChangeAt Go.RowKit Go.Joins

/-- A binding as it lies, with its term's nodes as they lie. -/
structure Vh where
  v : Int
  ta : Option Addr
  tn : Nat
  tc : Nat
  ts : List Th

def Vh.val (h : Vh) : Value := .agg #[.int .i64 h.v, .slice h.ta h.tn h.tc]
def VhAt (w : World) (b o : Nat) (h : Vh) : Prop := w.cell? ⟨b, o, none⟩ = some (.int .i64 h.v) ∧ w.cell? ⟨b, o + 1, none⟩ = some (.slice h.ta h.tn h.tc)
theorem VhAt.later {w w' : World} {b o : Nat} {h : Vh} (k : VhAt w b o h) (hb : Below w.heap.size w w') : VhAt w' b o h := by
  obtain ⟨f0, f1⟩ := k
  have l := block_lt_of_cell f0
  exact ⟨by rw [kcell hb _ _ l]; exact f0, by rw [kcell hb _ _ l]; exact f1⟩

/-- The nodes of a term lie as told. -/
def TmOk (w : World) (a : Option Addr) (n : Nat) (hs : List Th) : Prop := n ≤ 9223372036854775807 ∧ (n ≤ 1048576 → hs.length = n ∧ RdTh w a hs)
theorem TmOk.later {w w' : World} {a : Option Addr} {n : Nat} {hs : List Th} (k : TmOk w a n hs) (hb : Below w.heap.size w w') : TmOk w' a n hs := ⟨k.1, fun hn => ⟨(k.2 hn).1, (k.2 hn).2.later hb⟩⟩

def szTm (n : Nat) (hs : List Th) (L : Int) : Int := if (n : Int) ≤ L then szTl hs (L - n) else -1

theorem szTm_range (n : Nat) (hs : List Th) (L : Int) (hL : 0 ≤ L) : szTm n hs L = -1 ∨ 0 ≤ szTm n hs L ∧ szTm n hs L ≤ L := by
  unfold szTm
  split
  · rcases szTl_range hs (L - n) (by omega) with e | ⟨e1, e2, -⟩
    · exact .inl e
    · exact .inr ⟨e1, by omega⟩
  · exact .inl rfl

theorem szTerm_any (a : Option Addr) (n c : Nat) (hs : List Th) (L : Int) (w : World) (hL : 0 ≤ L) (hL2 : L ≤ 1048576) (hk : TmOk w a n hs) :
    Calls Tryz.prog 43 #[.agg #[.slice a n c], .int .i64 L] w fun e w' => e = .returned (.int .i64 (szTm n hs L)) ∧ Below w.heap.size w w' := by
  by_cases hn : (n : Int) ≤ L
  · obtain ⟨e1, e2⟩ := hk.2 (by omega)
    have := szTerm_in a c hs L w e2 hL hL2 (by omega) n e1
    rw [e1] at this
    rw [szTm, if_pos hn]
    exact this
  · rw [szTm, if_neg hn]
    exact szTerm_out a n c L w hL hL2 hk.1 hn

def RdVh (w : World) (a : Option Addr) (hs : List Vh) : Prop :=
  hs.length ≤ 1048576 ∧ (hs = [] ∨ ∃ b o, a = some ⟨b, o, none⟩ ∧ ∀ i h, hs[i]? = some h → VhAt w b (o + i * 2) h ∧ TmOk w h.ta h.tn h.ts)
theorem RdVh.later {w w' : World} {a : Option Addr} {hs : List Vh} (h : RdVh w a hs) (hb : Below w.heap.size w w') : RdVh w' a hs := by
  refine ⟨h.1, ?_⟩
  rcases h.2 with h | ⟨b, o, rfl, hc⟩
  · exact .inl h
  · exact .inr ⟨b, o, rfl, fun i x hi => ⟨(hc i x hi).1.later hb, (hc i x hi).2.later hb⟩⟩

theorem szBinding_any (h : Vh) (L : Int) (w : World) (hL : 0 ≤ L) (hL2 : L ≤ 1048576) (ht : TmOk w h.ta h.tn h.ts) :
    Calls Tryz.prog 20 #[h.val, .int .i64 L] w fun e w' => e = .returned (.int .i64 (szTm h.tn h.ts L)) ∧ Below w.heap.size w w' := by
  have r1 := szTm_range h.tn h.ts L hL
  have HA := kide (fun u (hu : Below w.heap.size w u) => szTerm_any h.ta h.tn h.tc h.ts L u hL hL2 (ht.later hu))
  generalize szTm h.tn h.ts L = Q at *
  obtain ⟨v, ta, tn, tc, ts⟩ := h
  simp only [Vh.val] at HA ⊢
  have s0 := St.start w (.cells #[Value.int .i64 v, Value.slice ta tn tc] 51)
  clear ht
  rcases r1 with rfl | ⟨h1, h2⟩
  all_goals
    go_enter Tryz.func20, Tryz.ntmps20
    go_wp2_with fail
    refine Calls.mono (HA.out _ s0.below) ?_
    rintro e w1 ⟨rfl, hb1⟩
    have s1 := s0.next hb1
    go_wp2_with fail
    go_ret
    exact ⟨rfl, s1.below⟩

/-- What is left of L behind some bindings; -1: nothing. -/
def szVl : List Vh → Int → Int
  | [], L => L
  | h :: t, L => if 0 ≤ szTm h.tn h.ts L then szVl t (szTm h.tn h.ts L) else -1

theorem szVl_range (hs : List Vh) (L : Int) (hL : 0 ≤ L) : szVl hs L = -1 ∨ 0 ≤ szVl hs L ∧ szVl hs L ≤ L := by
  induction hs generalizing L with
  | nil => right; simp [szVl]; exact hL
  | cons h t ih =>
    rw [szVl]
    split
    · rename_i hc
      have := szTm_range h.tn h.ts L hL
      rcases ih (szTm h.tn h.ts L) hc with e | ⟨e1, e2⟩
      · left; exact e
      · right; exact ⟨e1, by omega⟩
    · left; rfl

theorem szVl_each (hs : List Vh) (L : Int) (hL : 0 ≤ L) (hz : 0 ≤ szVl hs L) : ∀ h ∈ hs, ∃ Q : Int, 0 ≤ Q ∧ Q ≤ L ∧ 0 ≤ szTm h.tn h.ts Q := by
  induction hs generalizing L with
  | nil => simp
  | cons h t ih =>
    rw [szVl] at hz
    split at hz
    · rename_i hc
      have hr := szTm_range h.tn h.ts L hL
      intro x hx
      rcases List.mem_cons.1 hx with rfl | hx
      · exact ⟨L, hL, Int.le_refl _, hc⟩
      · obtain ⟨Q, h1, h2, h3⟩ := ih (szTm h.tn h.ts L) hc hz x hx
        exact ⟨Q, h1, by omega, h3⟩
    · omega

theorem szBindingS_in (a : Option Addr) (c : Nat) (hs : List Vh) (L : Int) (w : World) (hr : RdVh w a hs) (hL : 0 ≤ L) (hL2 : L ≤ 1048576) (h : (hs.length : Int) ≤ L) :
    Calls Tryz.prog 5 #[.slice a hs.length c, .int .i64 L] w fun e w' => e = .returned (.int .i64 (szVl hs (L - hs.length))) ∧ Below w.heap.size w w' := by
  have hlen := hr.1
  generalize hZ : szVl hs (L - hs.length) = Z
  have HZ : Hid (szVl hs (L - hs.length) = Z) := hZ
  clear hZ
  go_enter Tryz.func5, Tryz.ntmps5
  go_wp2_with fail
  go_loopw [1, 5] (fun l i wr => ∃ (k : Nat) (Q : Int), k ≤ hs.length ∧ i = .int .i64 k ∧ l = .int .i64 Q ∧ 0 ≤ Q ∧ Q ≤ 1048576 ∧ szVl (hs.drop k) Q = Z ∧ Below w.heap.size w wr) (fun _ i _ => hs.length - (intOf i).toNat)
  case atStart => exact ⟨0, _, Nat.zero_le _, rfl, rfl, by omega, by omega, by rw [List.drop_zero]; exact HZ.out, Below.refl _ _⟩
  case round =>
    obtain ⟨k, Q, hk, rfl, rfl, hQ0, hQ1, hq, hbel⟩ := hrel
    by_cases hlt : k < hs.length
    · obtain ⟨-, h | ⟨b, o, rfl, hc⟩⟩ := hr
      · subst h; simp at hlt
      obtain ⟨x, hh⟩ : ∃ x, hs[k] = x := ⟨_, rfl⟩
      obtain ⟨f1, f2⟩ := hc k x (by rw [List.getElem?_eq_getElem hlt, hh])
      obtain ⟨g0, g1⟩ := f1.later hbel
      have HCA := kide (szBinding_any x Q wr hQ0 hQ1 (f2.later hbel))
      have hrr := szTm_range x.tn x.ts Q hQ0
      rw [List.drop_eq_getElem_cons hlt, hh, szVl] at hq
      generalize szTm x.tn x.ts Q = R at *
      obtain ⟨v, ta, tn, tc, ts⟩ := x
      simp only [Vh.val] at g0 g1 HCA
      have HQ : Hid _ := hq
      have HB : Hid _ := hbel
      clear hc hh f1 f2 hbel hq
      rcases hrr with rfl | ⟨hR0, hR1⟩
      · go_wp2_with (go_at_call 20; refine Calls.mono HCA.out ?_; rintro e w1 ⟨rfl, hb1⟩)
        go_ret
        have h := HQ.out
        rw [if_neg (by omega)] at h
        exact ⟨ret_int h, HB.out.trans (hb1.mono HB.out.size)⟩
      · go_wp2_with (go_at_call 20; refine Calls.mono HCA.out ?_; rintro e w1 ⟨rfl, hb1⟩)
        go_roundw
        case rel =>
          have h := HQ.out
          rw [if_pos hR0] at h
          exact ⟨k + 1, _, by omega, by go_num, rfl, by omega, by omega, h, HB.out.trans (hb1.mono HB.out.size)⟩
        case measure => simp [intOf]; omega
    · have e : k = hs.length := by omega
      rw [e, List.drop_length, szVl] at hq
      have HQ : Hid _ := hq
      clear hq
      go_wp2_with fail
      go_ret
      exact ⟨ret_int HQ.out, hbel⟩

theorem szBindingS_out (a : Option Addr) (n c : Nat) (L : Int) (w : World) (hL : 0 ≤ L) (hL2 : L ≤ 1048576) (hn : n ≤ 9223372036854775807) (h : ¬ (n : Int) ≤ L) :
    Calls Tryz.prog 5 #[.slice a n c, .int .i64 L] w fun e w' => e = .returned (.int .i64 (-1)) ∧ w' = w := by
  go_enter Tryz.func5, Tryz.ntmps5
  go_wp2_with fail
  go_ret
  exact ⟨rfl, rfl⟩

set_option maxRecDepth 100000 in
theorem open_nodes {H : Type} {enc : TypeId × Value → H} {W : World} {base fuel : Nat} {v : Value} {x : DataW H × List MemPlace}
    (g0 : DataW.trod enc Tryz.prog W base (fun _ => true) true fuel 47 [v] = some x) :
    ∃ (a : Option Addr) (n c : Nat), v = .slice a n c ∧ n ≤ 9223372036854775807 ∧ (n ≤ 1048576 → ∃ hs : List Th, hs.length = n ∧ RdTh W a hs ∧ ∀ h ∈ hs, NodeOf W h) := by
  have ce : Tryz.prog.cellsOf 126 = 7 := by kernel_rfl
  have cB : Tryz.prog.cellsOf 55 = 2 := by kernel_rfl
  have cI : Tryz.prog.cellsOf 2 = 1 := by kernel_rfl
  have cW : Tryz.prog.cellsOf 53 = 1 := by kernel_rfl
  have cK : Tryz.prog.cellsOf 87 = 1 := by kernel_rfl
  rcases Deep.open_slice Tryz.underlying47 g0 with ⟨hcs, _⟩ | ⟨x, len, cap, m, n2, D, Pl, hcs, _, hl, hm, hz, _, hx⟩
  · simp at hcs
    subst hcs
    exact ⟨none, 0, 0, rfl, by omega, fun _ => ⟨[], rfl, ⟨by simp, .inl rfl⟩, by simp⟩⟩
  · simp at hcs
    subst hcs
    refine ⟨some x, len, cap, rfl, by unfold maxLen at hm; omega, fun hle => ?_⟩
    have each : ∀ i, i < len → ∃ h : Th, (W.cell? (x.add (i * 7)) = some (.int .i64 h.op) ∧ W.cell? (x.add (i * 7 + 1)) = some (.int .i64 h.vr) ∧ W.cell? (x.add (i * 7 + 2)) = some (.int .i64 h.a) ∧ W.cell? (x.add (i * 7 + 3)) = some (.int .i64 h.b) ∧ W.cell? (x.add (i * 7 + 4)) = some (.int .i64 h.bw) ∧ W.cell? (x.add (i * 7 + 5)) = some (.slice h.wa h.wn h.wc) ∧ W.cell? (x.add (i * 7 + 6)) = some (.slice h.ka h.kn h.kc)) ∧ (h.wn ≤ 9223372036854775807 ∧ h.kn ≤ 9223372036854775807) ∧ NodeOf W h := by
      intro i hi
      simp at hz
      obtain ⟨cs', h1, h2⟩ := hx i (by omega)
      rw [ce] at h1
      obtain ⟨_, hlen, hcell⟩ := World.cells?_some h1
      obtain ⟨ys, k, hk, hxy, _, hxl, hfd⟩ := DataW.trod_struct Tryz.underlying126 h2
      match ys, hxl, cs', hlen with
      | [y0, y1, y2, y3, y4, y5], _, [v0, v1, v2, v3, v4, v5, v6], _ =>
        have g0 := hfd 0 _ rfl
        have g1 := hfd 1 _ rfl
        have g2 := hfd 2 _ rfl
        have g3 := hfd 3 _ rfl
        have g4 := hfd 4 _ rfl
        have g5 := hfd 5 _ rfl
        simp [cB, cI, cK] at g0 g1 g2 g3 g4 g5
        obtain ⟨n0, e0, _, w0⟩ := DataW.trod_int Tryz.underlying2 g0
        obtain ⟨n1, e1, _, w1⟩ := DataW.trod_int Tryz.underlying2 g1
        obtain ⟨n2', e2, _, w2⟩ := DataW.trod_int Tryz.underlying2 g2
        obtain ⟨n3, e3, _, w3⟩ := DataW.trod_int Tryz.underlying2 g3
        obtain ⟨zs, k', hk', hxy', _, hxl', hfd'⟩ := DataW.trod_struct Tryz.underlying55 g4
        obtain ⟨ak, nk, ck, e6, hnk, hkk⟩ := open_ks g5
        match zs, hxl' with
        | [z0, z1], _ =>
          have g6 := hfd' 0 _ rfl
          have g7 := hfd' 1 _ rfl
          simp [cI, cW] at g6 g7
          obtain ⟨n4, e4, _, w4⟩ := DataW.trod_int Tryz.underlying2 g6
          obtain ⟨a, n, c, e5, hn, hk5⟩ := open_words g7
          have c0 := hcell 0 (by omega)
          have c1 := hcell 1 (by omega)
          have c2 := hcell 2 (by omega)
          have c3 := hcell 3 (by omega)
          have c4 := hcell 4 (by omega)
          have c5 := hcell 5 (by omega)
          have c6 := hcell 6 (by omega)
          rw [Deep.add_add] at c0 c1 c2 c3 c4 c5 c6
          simp at e0 e1 e2 e3 e4 c0 c1 c2 c3 c4 c5 c6
          rw [e0] at c0
          rw [e1] at c1
          rw [e2] at c2
          rw [e3] at c3
          rw [e4] at c4
          rw [e5] at c5
          rw [e6] at c6
          exact ⟨⟨n0, n1, n2', n3, n4, a, n, c, ak, nk, ck⟩, ⟨c0, c1, c2, c3, c4, c5, c6⟩, ⟨hn, hnk⟩, ⟨bounds_i64 w0, bounds_i64 w1, bounds_i64 w2, bounds_i64 w3, bounds_i64 w4⟩, hk5, hkk⟩
    haveI : Inhabited Th := ⟨⟨0, 0, 0, 0, 0, none, 0, 0, none, 0, 0⟩⟩
    obtain ⟨q, hq⟩ := Deep.choose_lt each
    refine ⟨(List.range len).map q, by simp, ⟨by simpa using hle, ?_⟩, ?_⟩
    · by_cases h0 : len = 0
      · left; simp [h0]
      · right
        obtain ⟨b, off, spot⟩ := x
        have hc0 := (hq 0 (by omega)).1.1
        have hspot : spot = none := by simpa [Addr.add] using World.cell?_spot hc0
        subst hspot
        refine ⟨b, off, rfl, fun i h hi => ?_⟩
        have hil : i < len := by have := (List.getElem?_eq_some_iff.1 hi).1; simpa using this
        simp [hil] at hi
        subst hi
        obtain ⟨⟨k0, k1, k2, k3, k4, k5, k6⟩, k7, -⟩ := hq i hil
        rw [Addr.add_lit] at k0 k1 k2 k3 k4 k5 k6
        exact ⟨⟨k0, k1, k2, k3, k4, k5, k6⟩, k7⟩
    · intro h hh
      obtain ⟨i, hi, rfl⟩ := List.mem_map.1 hh
      exact (hq i (List.mem_range.1 hi)).2.2

/-- What a binding as it lies holds. -/
def BndOf (W : World) (h : Vh) : Prop := in64 h.v ∧ (h.tn ≤ 1048576 → ∀ y ∈ h.ts, NodeOf W y)

theorem pick_nodes {W : World} {a : Option Addr} {n : Nat} (hn : n ≤ 9223372036854775807) (h : n ≤ 1048576 → ∃ hs : List Th, hs.length = n ∧ RdTh W a hs ∧ ∀ h ∈ hs, NodeOf W h) : ∃ hs : List Th, TmOk W a n hs ∧ (n ≤ 1048576 → ∀ y ∈ hs, NodeOf W y) := by
  by_cases hn2 : n ≤ 1048576
  · obtain ⟨hs, f1, f2, f3⟩ := h hn2
    exact ⟨hs, ⟨hn, fun _ => ⟨f1, f2⟩⟩, fun _ => f3⟩
  · exact ⟨[], ⟨hn, fun h => absurd h hn2⟩, fun h => absurd h hn2⟩

set_option maxRecDepth 100000 in
theorem open_bindings {H : Type} {enc : TypeId × Value → H} {W : World} {r : Reach} {b0 base : Nat} {v : Value} {d : DataW H} {p : List MemPlace}
    (hv : Value.okWide Tryz.prog W r b0 23 v) (h : DataW.Trod enc Tryz.prog W base (fun _ => true) true 23 v d p) :
    ∃ (a : Option Addr) (n c : Nat), v = .slice a n c ∧ n ≤ 9223372036854775807 ∧ (n ≤ 1048576 → ∃ hs : List Vh, hs.length = n ∧ RdVh W a hs ∧ ∀ h ∈ hs, BndOf W h) := by
  obtain ⟨a1, len1, cap1, rfl⟩ := okWide_slice Tryz.underlying23 hv
  obtain ⟨fuel, hf⟩ := h
  have ce : Tryz.prog.cellsOf 51 = 2 := by kernel_rfl
  have cI : Tryz.prog.cellsOf 2 = 1 := by kernel_rfl
  have cT : Tryz.prog.cellsOf 49 = 1 := by kernel_rfl
  have cN : Tryz.prog.cellsOf 47 = 1 := by kernel_rfl
  rcases Deep.open_slice Tryz.underlying23 hf with ⟨hcs, _⟩ | ⟨x, len, cap, m, n2, D, Pl, hcs, _, hl, hm, hz, _, hx⟩
  · simp [Value.cells] at hcs
    obtain ⟨rfl, rfl, rfl⟩ := hcs
    exact ⟨none, 0, 0, rfl, by omega, fun _ => ⟨[], rfl, ⟨by simp, .inl rfl⟩, by simp⟩⟩
  · simp [Value.cells] at hcs
    obtain ⟨rfl, rfl, rfl⟩ := hcs
    refine ⟨some x, _, _, rfl, by unfold maxLen at hm; omega, fun hle => ?_⟩
    have each : ∀ i, i < len1 → ∃ h : Vh, (W.cell? (x.add (i * 2)) = some (.int .i64 h.v) ∧ W.cell? (x.add (i * 2 + 1)) = some (.slice h.ta h.tn h.tc)) ∧ TmOk W h.ta h.tn h.ts ∧ BndOf W h := by
      intro i hi
      simp at hz
      obtain ⟨cs', h1, h2⟩ := hx i (by omega)
      rw [ce] at h1
      obtain ⟨_, hlen, hcell⟩ := World.cells?_some h1
      obtain ⟨ys, k, hk, hxy, _, hxl, hfd⟩ := DataW.trod_struct Tryz.underlying51 h2
      match ys, hxl, cs', hlen with
      | [y0, y1], _, [v0, v1], _ =>
        have g0 := hfd 0 _ rfl
        have g1 := hfd 1 _ rfl
        simp [cI, cT] at g0 g1
        obtain ⟨n0, e0, _, w0⟩ := DataW.trod_int Tryz.underlying2 g0
        obtain ⟨us, _, _, _, _, hul, hus⟩ := DataW.trod_struct Tryz.underlying49 g1
        match us, hul with
        | [u0], _ =>
          have g4 := hus 0 _ rfl
          simp [cN] at g4
          obtain ⟨a, n, c, e2, hn, hk2⟩ := open_nodes g4
          obtain ⟨hs, f1, f2⟩ := pick_nodes hn hk2
          have c0 := hcell 0 (by omega)
          have c1 := hcell 1 (by omega)
          rw [Deep.add_add] at c0 c1
          simp at e0 c0 c1
          rw [e0] at c0
          rw [e2] at c1
          exact ⟨⟨n0, a, n, c, hs⟩, ⟨c0, c1⟩, f1, bounds_i64 w0, f2⟩
    haveI : Inhabited Vh := ⟨⟨0, none, 0, 0, []⟩⟩
    obtain ⟨q, hq⟩ := Deep.choose_lt each
    refine ⟨(List.range len1).map q, by simp, ⟨by simpa using hle, ?_⟩, ?_⟩
    · by_cases h0 : len1 = 0
      · left; simp [h0]
      · right
        obtain ⟨b, off, spot⟩ := x
        have hc0 := (hq 0 (by omega)).1.1
        have hspot : spot = none := by simpa [Addr.add] using World.cell?_spot hc0
        subst hspot
        refine ⟨b, off, rfl, fun i h hi => ?_⟩
        have hil : i < len1 := by have := (List.getElem?_eq_some_iff.1 hi).1; simpa using this
        simp [hil] at hi
        subst hi
        obtain ⟨⟨k0, k1⟩, k5, -⟩ := hq i hil
        rw [Addr.add_lit] at k0 k1
        exact ⟨⟨k0, k1⟩, k5⟩
    · intro h hh
      obtain ⟨i, hi, rfl⟩ := List.mem_map.1 hh
      exact (hq i (List.mem_range.1 hi)).2.2

theorem term_of {W : World} {a : Option Addr} {n : Nat} {hs : List Th} {Q : Int} (h0 : 0 ≤ Q) (h1 : Q ≤ 1048576) (hok : TmOk W a n hs) (hn : n ≤ 1048576 → ∀ y ∈ hs, NodeOf W y) (hz : 0 ≤ szTm n hs Q) : ∃ xs : List Tg, xs.length = n ∧ RdT W a xs := by
  have hnq : (n : Int) ≤ Q := by
    unfold szTm at hz
    split at hz
    · assumption
    · omega
  obtain ⟨f1, f2⟩ := hok.2 (by omega)
  rw [szTm, if_pos hnq] at hz
  obtain ⟨xs, g1, g2⟩ := RdT_of f2 (hn (by omega)) (L := Q - n) (by omega) (by omega) hz
  exact ⟨xs, by rw [g1, f1], g2⟩

/-- A binding: a variable, a term. -/
structure Vc where
  v : Int
  ts : List Tc
/-- .. as it lies. -/
structure Vg where
  v : Int
  ts : List Tg
  ta : Option Addr
  tc : Nat
def Vg.ct (x : Vg) : Vc := ⟨x.v, x.ts.map Tg.ct⟩
def Vg.val (x : Vg) : Value := .agg #[.int .i64 x.v, .slice x.ta x.ts.length x.tc]
def VgAt (w : World) (b o : Nat) (x : Vg) : Prop := (w.cell? ⟨b, o, none⟩ = some (.int .i64 x.v) ∧ w.cell? ⟨b, o + 1, none⟩ = some (.slice x.ta x.ts.length x.tc)) ∧ RdT w x.ta x.ts ∧ in64 x.v
theorem VgAt.later {w w' : World} {b o : Nat} {x : Vg} (h : VgAt w b o x) (hb : Below w.heap.size w w') : VgAt w' b o x := by
  obtain ⟨⟨f0, f1⟩, f4, f6⟩ := h
  have l := block_lt_of_cell f0
  exact ⟨⟨by rw [kcell hb _ _ l]; exact f0, by rw [kcell hb _ _ l]; exact f1⟩, f4.later hb, f6⟩
def RdV (w : World) (a : Option Addr) (xs : List Vg) : Prop := xs.length ≤ 1048576 ∧ (xs = [] ∨ ∃ b o, a = some ⟨b, o, none⟩ ∧ ∀ i n, xs[i]? = some n → VgAt w b (o + i * 2) n)
theorem RdV.later {w w' : World} {a : Option Addr} {xs : List Vg} (h : RdV w a xs) (hb : Below w.heap.size w w') : RdV w' a xs := by
  refine ⟨h.1, ?_⟩
  rcases h.2 with h | ⟨b, o, rfl, hc⟩
  · exact .inl h
  · exact .inr ⟨b, o, rfl, fun i n hi => (hc i n hi).later hb⟩

/-- Where all is short enough the bindings are there. -/
theorem RdV_of {W : World} {a : Option Addr} {hs : List Vh} {L : Int} (hr : RdVh W a hs) (hk : ∀ h ∈ hs, BndOf W h) (hL : 0 ≤ L) (hL2 : L ≤ 1048576) (hz : 0 ≤ szVl hs L) : ∃ xs : List Vg, xs.length = hs.length ∧ RdV W a xs := by
  have hlen := hr.1
  rcases hr.2 with h | ⟨b, o, rfl, hc⟩
  · subst h; exact ⟨[], rfl, by simp, .inl rfl⟩
  have each : ∀ i, i < hs.length → ∃ n : Vg, ∀ h, hs[i]? = some h → n.v = h.v ∧ (n.ta = h.ta ∧ n.tc = h.tc ∧ n.ts.length = h.tn) ∧ RdT W n.ta n.ts ∧ in64 n.v := by
    intro i hi
    have hm : hs[i] ∈ hs := List.getElem_mem hi
    obtain ⟨Q, q0, q1, q2⟩ := szVl_each hs L hL hz _ hm
    obtain ⟨-, ok1⟩ := hc i hs[i] (List.getElem?_eq_getElem hi)
    obtain ⟨i1, hb1⟩ := hk _ hm
    obtain ⟨ts, g1, g2⟩ := term_of q0 (by omega) ok1 hb1 q2
    refine ⟨⟨hs[i].v, ts, hs[i].ta, hs[i].tc⟩, fun h hh => ?_⟩
    rw [List.getElem?_eq_getElem hi] at hh
    cases hh
    exact ⟨rfl, ⟨rfl, rfl, g1⟩, g2, i1⟩
  haveI : Inhabited Vg := ⟨⟨0, [], none, 0⟩⟩
  obtain ⟨q, hq⟩ := Deep.choose_lt each
  refine ⟨(List.range hs.length).map q, by simp, by simpa using hlen, .inr ⟨b, o, rfl, fun i n hi => ?_⟩⟩
  have hil : i < hs.length := by have := (List.getElem?_eq_some_iff.1 hi).1; simpa using this
  simp [hil] at hi
  subst hi
  have hg : hs[i]? = some hs[i] := List.getElem?_eq_getElem hil
  obtain ⟨e1, ⟨e6, e7, e8⟩, e9, e11⟩ := hq i hil _ hg
  obtain ⟨⟨f0, f1⟩, -⟩ := hc i _ hg
  exact ⟨⟨by rw [e1]; exact f0, by rw [e6, e7, e8]; exact f1⟩, e9, e11⟩

theorem len_of_vc {ms xs : List Vg} {n : Nat} (h : ms.map Vg.ct = xs.map Vg.ct) (hn : xs.length = n) : ms.length = n := by
  rw [← hn]; simpa using congrArg List.length h

theorem size_vs (va : Option Addr) (vn vc : Nat) (L : Int) (w : World) (hL : 0 ≤ L) (hL2 : L ≤ 1048576) (hvn : vn ≤ 9223372036854775807)
    (hy : vn ≤ 1048576 → ∃ hs : List Vh, hs.length = vn ∧ RdVh w va hs ∧ ∀ h ∈ hs, BndOf w h) :
    ∃ Z : Int, Hid (∀ u, Below w.heap.size w u → Calls Tryz.prog 5 #[.slice va vn vc, .int .i64 L] u fun e w' => e = .returned (.int .i64 Z) ∧ Below u.heap.size u w') ∧ Z ≤ 1048576 ∧ (Z < 0 ∨ 0 ≤ Z ∧ ∃ vs : List Vg, vs.length = vn ∧ RdV w va vs) := by
  by_cases h2 : (vn : Int) ≤ L
  · obtain ⟨hs, rfl, hh, hk⟩ := hy (by omega)
    have hZ2 := szVl_range hs (L - hs.length) (by omega)
    refine ⟨szVl hs (L - hs.length), fun u hu => szBindingS_in va vc hs L u (hh.later hu) hL hL2 h2, by omega, ?_⟩
    by_cases h3 : szVl hs (L - hs.length) < 0
    · exact .inl h3
    · exact .inr ⟨by omega, RdV_of hh hk (L := L - hs.length) (by omega) (by omega) (by omega)⟩
  · exact ⟨-1, fun u hu => (szBindingS_out va vn vc L u hL hL2 hvn h2).mono (fun e w' hh => ⟨hh.1, by rw [hh.2]; exact Below.refl _ _⟩), by omega, .inl (by omega)⟩

end Go.Proofs.YtbpodkdlhjgncaaGreatDoor
