/- Several texts in one. -/
import Derived.Test.YtljcfokiocbgoaaZUC
import Derived.Test.YtljcfokiocbgoaaZUI

/- Contracts of the laws' own small functions on rows of term nodes: compared, one copied. -/
namespace Go.Proofs.Ytljcfokiocbgoaa
set_option linter.unusedVariables false
set_option linter.unusedSimpArgs false
open Go.RowKit

theorem eqTNode_same (s : Tc) (wa wb ka kb : Option Addr) (c1 d1 c2 d2 : Nat) (w : World) (hr1 : Rd w wa s.ws) (hs1 : Rd w wb s.ws) (hr2 : RdI w ka s.ks) (hs2 : RdI w kb s.ks) :
    Calls Try.prog 48 #[.agg #[.int .i64 s.op, .int .i64 s.vr, .int .i64 s.a, .int .i64 s.b, .int .i64 s.bw, .slice wa s.ws.length c1, .slice ka s.ks.length c2], .agg #[.int .i64 s.op, .int .i64 s.vr, .int .i64 s.a, .int .i64 s.b, .int .i64 s.bw, .slice wb s.ws.length d1, .slice kb s.ks.length d2]] w fun e w' => e = .returned (.bool true) ∧ Below w.heap.size w w' := by
  obtain ⟨op, vr, a, b, bw, ws, ks⟩ := s
  simp only [] at hr1 hs1 hr2 hs2 ⊢
  have h2 : Below w.heap.size w ((w.alloc (Obj.cells #[Value.int .i64 op, Value.int .i64 vr, Value.int .i64 a, Value.int .i64 b, Value.int .i64 bw, Value.slice wa ws.length c1, Value.slice ka ks.length c2] 57)).alloc (Obj.cells #[Value.int .i64 op, Value.int .i64 vr, Value.int .i64 a, Value.int .i64 b, Value.int .i64 bw, Value.slice wb ws.length d1, Value.slice kb ks.length d2] 57)) := ((Below.refl _ _).alloc (Nat.le_refl _) _).alloc (by simp) _
  have HI : Hid (∀ u, Below w.heap.size w u → Calls Try.prog 71 #[.slice ka ks.length c2, .slice kb ks.length d2] u fun e w' => e = .returned (.bool true) ∧ Below u.heap.size u w') := fun u hu => by
    have := eqInt64S_any ka kb c2 d2 ks ks u (hr2.later hu) (hs2.later hu)
    simpa using this
  have HE : Hid (∀ u, Below w.heap.size w u → Calls Try.prog 49 #[.agg #[.int .i64 bw, .slice wa ws.length c1], .agg #[.int .i64 bw, .slice wb ws.length d1]] u fun e w' => e = .returned (.bool true) ∧ Below u.heap.size u w') := fun u hu => by
    have := eqBits_any bw bw wa wb c1 d1 ws ws u (hr1.later hu) (hs1.later hu)
    simpa using this
  have B2 := kide h2
  have e0 : (op != op) = false := by simp
  have e1 : (vr != vr) = false := by simp
  have e2 : (a != a) = false := by simp
  have e3 : (b != b) = false := by simp
  clear hr1 hs1 hr2 hs2 h2
  go_enter Try.func48, Try.ntmps48
  go_wp2_with fail
  refine Calls.mono (HE.out _ B2.out) ?_
  rintro e w1 ⟨rfl, hb1⟩
  have k0 := kcell hb1 w.heap.size 6 (by simp; omega)
  have j0 := kcell hb1 (w.heap.size + 1) 6 (by simp)
  have B3 := kide (B2.out.trans (hb1.mono B2.out.size))
  simp at k0 j0
  clear hb1
  go_wp2_with fail
  refine Calls.mono (HI.out _ B3.out) ?_
  rintro e w2 ⟨rfl, hb2⟩
  go_wp2_with fail
  go_ret
  exact ⟨rfl, B3.out.trans (hb2.mono B3.out.size)⟩

set_option maxHeartbeats 1000000 in
theorem eqTNodeS_same (a b : Option Addr) (c d : Nat) (xs ys : List Tg) (w : World) (hr : RdT w a xs) (hs : RdT w b ys) (he : xs.map Tg.ct = ys.map Tg.ct) (n : Nat) (h1 : xs.length = n) (h2 : ys.length = n) :
    Calls Try.prog 29 #[.slice a n c, .slice b n d] w fun e w' => e = .returned (.bool true) ∧ Below w.heap.size w w' := by
  have hl1 := hr.1
  rw [h1] at hl1
  have hne : ((n : Int) != (n : Int)) = false := by simp
  have H1 := kide h1
  have H2 := kide h2
  have HE := kide he
  clear h1 h2 he
  go_enter Try.func29, Try.ntmps29
  go_wp2_with fail
  clear hne
  go_loopw [5] (fun i wr => ∃ k : Nat, k ≤ n ∧ i = .int .i64 k ∧ Below w.heap.size w wr) (fun i _ => n - (intOf i).toNat)
  case atStart => exact ⟨0, Nat.zero_le _, rfl, Below.refl _ _⟩
  case round =>
    obtain ⟨k, hk, rfl, hbel⟩ := hrel
    have HB := kide hbel
    by_cases hlt : k < n
    · obtain ⟨-, h | ⟨b1, o1, rfl, hc1⟩⟩ := hr
      · have := H1.out; subst h; simp at this; omega
      obtain ⟨-, h | ⟨b2, o2, rfl, hc2⟩⟩ := hs
      · have := H2.out; subst h; simp at this; omega
      obtain ⟨⟨s1, sa, sc, wa, wc⟩, hx⟩ : ∃ x, xs[k]? = some x := ⟨xs[k]'(by rw [H1.out]; exact hlt), List.getElem?_eq_getElem _⟩
      obtain ⟨⟨s2, sa', sc', wa', wc'⟩, hy⟩ : ∃ y, ys[k]? = some y := ⟨ys[k]'(by rw [H2.out]; exact hlt), List.getElem?_eq_getElem _⟩
      have hxy : s1 = s2 := by
        have h := congrArg (fun l => l[k]?) HE.out
        simp [hx, hy] at h
        exact h
      subst hxy
      obtain ⟨⟨p0, p1, p2, p3, p4, p5, p6⟩, pi, pr, -⟩ := (hc1 k _ hx).later hbel
      obtain ⟨⟨q0, q1, q2, q3, q4, q5, q6⟩, qi, qr, -⟩ := (hc2 k _ hy).later hbel
      simp only [Tg.hd] at p0 p1 p2 p3 p4 p5 p6 pi pr q0 q1 q2 q3 q4 q5 q6 qi qr
      have l1 := block_lt_of_cell p0
      have l2 := block_lt_of_cell q0
      have i0 : (k : Int) < (n : Int) := by omega
      have HEQ := kide (fun u (hu : Below wr.heap.size wr u) => eqTNode_same s1 sa sa' wa wa' sc sc' wc wc' u (pi.later hu) (qi.later hu) (pr.later hu) (qr.later hu))
      obtain ⟨op, vr, aa, bb, bw, ws, ks⟩ := s1
      simp only [] at p0 p1 p2 p3 p4 p5 p6 q0 q1 q2 q3 q4 q5 q6 HEQ
      clear hc1 hc2 hbel hx hy pr qr pi qi
      go_wp2_with fail
      go_region_held3 (fun u => (u.cell? ⟨b1, o1 + k * 7, none⟩ = some (Value.int .i64 op) ∧ u.cell? ⟨b1, o1 + k * 7 + 1, none⟩ = some (Value.int .i64 vr) ∧ u.cell? ⟨b1, o1 + k * 7 + 2, none⟩ = some (Value.int .i64 aa) ∧ u.cell? ⟨b1, o1 + k * 7 + 3, none⟩ = some (Value.int .i64 bb) ∧ u.cell? ⟨b1, o1 + k * 7 + 4, none⟩ = some (Value.int .i64 bw) ∧ u.cell? ⟨b1, o1 + k * 7 + 5, none⟩ = some (Value.slice sa ws.length sc) ∧ u.cell? ⟨b1, o1 + k * 7 + 6, none⟩ = some (Value.slice wa ks.length wc)) ∧ (u.cell? ⟨b2, o2 + k * 7, none⟩ = some (Value.int .i64 op) ∧ u.cell? ⟨b2, o2 + k * 7 + 1, none⟩ = some (Value.int .i64 vr) ∧ u.cell? ⟨b2, o2 + k * 7 + 2, none⟩ = some (Value.int .i64 aa) ∧ u.cell? ⟨b2, o2 + k * 7 + 3, none⟩ = some (Value.int .i64 bb) ∧ u.cell? ⟨b2, o2 + k * 7 + 4, none⟩ = some (Value.int .i64 bw) ∧ u.cell? ⟨b2, o2 + k * 7 + 5, none⟩ = some (Value.slice sa' ws.length sc') ∧ u.cell? ⟨b2, o2 + k * 7 + 6, none⟩ = some (Value.slice wa' ks.length wc'))) (simp [*])
        ((go_at_call 48; refine Calls.mono (HEQ.out _ ?_) ?_; exact (Below.refl _ _).drew; rintro e w1 ⟨rfl, hb1⟩; replace hb1 := kundrew hb1; have k0 := kcell hb1 b1 (o1 + k * 7) l1; have k1 := kcell hb1 b1 (o1 + k * 7 + 1) l1; have k2 := kcell hb1 b1 (o1 + k * 7 + 2) l1; have k3 := kcell hb1 b1 (o1 + k * 7 + 3) l1; have k4 := kcell hb1 b1 (o1 + k * 7 + 4) l1; have k5 := kcell hb1 b1 (o1 + k * 7 + 5) l1; have k6 := kcell hb1 b1 (o1 + k * 7 + 6) l1; have j0 := kcell hb1 b2 (o2 + k * 7) l2; have j1 := kcell hb1 b2 (o2 + k * 7 + 1) l2; have j2 := kcell hb1 b2 (o2 + k * 7 + 2) l2; have j3 := kcell hb1 b2 (o2 + k * 7 + 3) l2; have j4 := kcell hb1 b2 (o2 + k * 7 + 4) l2; have j5 := kcell hb1 b2 (o2 + k * 7 + 5) l2; have j6 := kcell hb1 b2 (o2 + k * 7 + 6) l2))
      go_wp2_with fail
      go_roundw
      case rel => exact ⟨k + 1, by omega, by go_num, HB.out.trans (hb1.mono HB.out.size)⟩
      case measure => simp [intOf]; omega
    · clear hbel
      go_wp2_with fail
      go_ret
      exact ⟨rfl, HB.out⟩

theorem eqTerm_same (a b : Option Addr) (c d : Nat) (xs ys : List Tg) (w : World) (hr : RdT w a xs) (hs : RdT w b ys) (he : xs.map Tg.ct = ys.map Tg.ct) (n : Nat) (h1 : xs.length = n) (h2 : ys.length = n) :
    Calls Try.prog 11 #[.agg #[.slice a n c], .agg #[.slice b n d]] w fun e w' => e = .returned (.bool true) ∧ Below w.heap.size w w' := by
  have hb2 : Below w.heap.size w ((w.alloc (Obj.cells #[Value.slice a n c] 28)).alloc (Obj.cells #[Value.slice b n d] 28)) := ((Below.refl _ _).alloc (Nat.le_refl _) _).alloc (by simp) _
  have HC := kide (eqTNodeS_same a b c d xs ys _ (hr.later hb2) (hs.later hb2) he n h1 h2)
  have B2 := kide hb2
  clear hr hs he h1 h2 hb2
  go_enter Try.func11, Try.ntmps11
  go_wp2_with fail
  refine Calls.mono HC.out ?_
  rintro e w1 ⟨rfl, hb1⟩
  go_wp2_with fail
  go_ret
  exact ⟨rfl, B2.out.trans (hb1.mono B2.out.size)⟩

end Go.Proofs.Ytljcfokiocbgoaa

/- A term in new memory, between two blocks: kept, compared, marked. -/
namespace Go.Proofs.Ytljcfokiocbgoaa
set_option linter.unusedVariables false
set_option linter.unusedSimpArgs false
open Go.RowKit

theorem nw_own {w w' : World} {lo : Nat} {a : Option Addr} {xs : List Nat} (h : Nw w lo a xs) (hk : ∀ p, a = some p → w'.heap[p.block]? = w.heap[p.block]?) : Nw w' lo a xs := by
  rcases h with ⟨k1, k2⟩ | ⟨g', cur, k1, k2, k3, k4⟩
  · refine .inl ⟨k1, fun z e => ?_⟩
    obtain ⟨q1, q2, cur, q3⟩ := k2 z e
    exact ⟨q1, q2, cur, (hk z e).trans q3⟩
  · exact .inr ⟨g', cur, k1, k2, (hk _ k1).trans k3, k4⟩
theorem ni_own {w w' : World} {lo : Nat} {a : Option Addr} {xs : List Int} (h : Ni w lo a xs) (hk : ∀ p, a = some p → w'.heap[p.block]? = w.heap[p.block]?) : Ni w' lo a xs := by
  rcases h with ⟨k1, k2⟩ | ⟨g', cur, k1, k2, k3, k4⟩
  · refine .inl ⟨k1, fun z e => ?_⟩
    obtain ⟨q1, q2, cur, q3⟩ := k2 z e
    exact ⟨q1, q2, cur, (hk z e).trans q3⟩
  · exact .inr ⟨g', cur, k1, k2, (hk _ k1).trans k3, k4⟩
theorem Ts.mono {w : World} {lo lo' : Nat} {v : Value} {l : List Tg} (h : Ts w lo v l) (hl : lo' ≤ lo) : Ts w lo' v l :=
  ⟨⟨h.row.1, by
      rcases h.row.2 with h0 | ⟨g, cap, cur, e, hg, r⟩
      · exact .inl h0
      · exact .inr ⟨g, cap, cur, e, by omega, r⟩⟩, fun x hx => (h.wn x hx).mono hl, fun x hx => (h.kn x hx).mono hl, h.wd, h.kd⟩

/-- All of it lies from lo on, ahead of hi. -/
structure Tt (lo hi : Nat) (v : Value) (l : List Tg) (w : World) : Prop where
  ts : Ts w lo v l
  rb : ∀ b, v.ownBlock = some b → b < hi
  wb : ∀ x ∈ l, ∀ p, x.wa = some p → p.block < hi
  kb : ∀ x ∈ l, ∀ p, x.ka = some p → p.block < hi
theorem Tt.of {w : World} {lo : Nat} {v : Value} {l : List Tg} (h : Ts w lo v l) : Tt lo w.heap.size v l w := ⟨h, fun b hb => (h.row.lt hb).2, fun x hx => (h.below x hx).1, fun x hx => (h.below x hx).2⟩
theorem Tt.later {w w' : World} {lo hi : Nat} {v : Value} {l : List Tg} (h : Tt lo hi v l w) (hb : Below w.heap.size w w') : Tt lo hi v l w' := ⟨h.ts.later hb, h.rb, h.wb, h.kb⟩
theorem Tt.out {w w' : World} {lo hi B1 B2 : Nat} {v : Value} {l : List Tg} (h : Tt lo hi v l w) (ho : Out B1 B2 w w') (hd : hi ≤ B1 ∨ B2 ≤ lo) : Tt lo hi v l w' where
  ts := ⟨h.ts.row.move fun b hb => ho.2.2.2.2 b (h.ts.row.lt hb).2 (by have := h.rb b hb; have := (h.ts.row.lt hb).1; omega), fun x hx => nw_own (h.ts.wn x hx) fun p hp => ho.2.2.2.2 _ (nw_lt (h.ts.wn x hx) hp).2 (by have := h.wb x hx p hp; have := (nw_lt (h.ts.wn x hx) hp).1; omega), fun x hx => ni_own (h.ts.kn x hx) fun p hp => ho.2.2.2.2 _ (ni_lt (h.ts.kn x hx) hp).2 (by have := h.kb x hx p hp; have := (ni_lt (h.ts.kn x hx) hp).1; omega), h.ts.wd, h.ts.kd⟩
  rb := h.rb
  wb := h.wb
  kb := h.kb

theorem markTerm_tt (lo hi n c k : Nat) (a : Option Addr) (l : List Tg) (w : World) (h : Tt lo hi (.slice a n c) l w) (hh : hi ≤ w.heap.size) (hl : shT l) (hn : l.length = n) (hn2 : n ≤ 1048576) (hk : k ≤ 4000000000000000000) :
    Calls Try.prog 16 #[.agg #[.slice a n c], .int .i64 (k : Int)] w fun e w' => e = .returned (.int .i64 (mkT l k l.length : Int)) ∧ HeldTv w' (.slice a n c) l k ∧ Out lo hi w w' := by
  have hb : Below w.heap.size w (w.alloc (Obj.cells #[Value.slice a n c] 28)) := (Below.refl _ _).alloc (Nat.le_refl _) _
  have HM : Hid (Calls Try.prog 34 #[.slice a n c, .int .i64 (k : Int)] (w.alloc (Obj.cells #[Value.slice a n c] 28)) fun e w' => e = .returned (.int .i64 (mkT l k l.length : Int)) ∧ HeldTv w' (.slice a n c) l k ∧ Out lo hi (w.alloc (Obj.cells #[Value.slice a n c] 28)) w') := by
    show Calls _ _ _ _ _
    have h2 := h.later hb
    by_cases e : l = []
    · subst e
      subst hn
      refine (markT_nil a c k _).mono (fun e w' h => ⟨h.1, .inl rfl, ?_⟩)
      rw [h.2]
      exact Out.refl _ _ _
    · obtain ⟨g, rfl⟩ : ∃ g, a = some ⟨g, 0, none⟩ := by
        rcases h2.ts.row.2 with ⟨-, h0⟩ | ⟨g, cap, cur, e', -⟩
        · exact absurd (List.eq_nil_of_length_eq_zero h0) e
        · cases e'; exact ⟨g, rfl⟩
      obtain ⟨N, f, h0, hr, hf, h1, -⟩ := h2.ts.row.tn
      have hg2 := h2.rb g rfl
      refine (markT_own lo hi g c n k N l _ f hr h0 hf h1 hg2 (fun x hx => ⟨?_, ?_⟩) hl h2.ts.wd h2.ts.kd hn hn2 hk).mono (fun e w' h => ⟨h.1, .inr ⟨g, n, c, N, rfl, h0, h.2.1⟩, h.2.2.1⟩)
      · rcases h2.ts.wn x hx with ⟨h1, -⟩ | ⟨g', cur, h1, h2', h3, h4⟩
        · exact .inl (by rw [h1]; rfl)
        · exact .inr ⟨g', cur, h1, h2', h2.wb x hx _ h1, h3, fun t ht => ⟨_, h4 t ht⟩⟩
      · rcases h2.ts.kn x hx with ⟨h1, -⟩ | ⟨g', cur, h1, h2', h3, h4⟩
        · exact .inl (by rw [h1]; rfl)
        · exact .inr ⟨g', cur, h1, h2', h2.kb x hx _ h1, h3, fun t ht => ⟨_, h4 t ht⟩⟩
  have HB := kide hb
  clear h hb
  go_enter Try.func16, Try.ntmps16
  go_wp2_with fail
  refine Calls.mono HM.out ?_
  rintro e w' ⟨rfl, hh, ho⟩
  go_wp2_with fail
  go_ret
  refine ⟨by rw [hn]; rfl, hh, ⟨ho.1.trans HB.out.os, ho.2.1.trans HB.out.tape, ho.2.2.1.trans HB.out.output, Nat.le_trans HB.out.size ho.2.2.2.1, fun j hj hd => ?_⟩⟩
  rw [ho.2.2.2.2 j (Nat.lt_of_lt_of_le hj HB.out.size) hd]
  exact HB.out.block j hj

theorem ok_map {l : List Tg} {X : List Tc} (e : l.map Tg.ct = X) (hX : ∀ y ∈ X, okT y) : ∀ x ∈ l, okT x.ct := fun x hx => hX _ (by rw [← e]; exact List.mem_map_of_mem hx)
theorem sh_map {l : List Tg} {X : List Tc} (e : l.map Tg.ct = X) (hX : ∀ y ∈ X, okT y) : shT l := fun x hx => by
  obtain ⟨-, -, -, -, -, h1, -, h2, -⟩ := ok_map e hX x hx
  exact ⟨h1, h2⟩
theorem len_map {l : List Tg} {X : List Tc} {n : Nat} (e : l.map Tg.ct = X) (hn : X.length = n) : l.length = n := by rw [← hn, ← e]; simp
theorem eqTerm_tt {lo hi lo' hi' : Nat} {a b : Option Addr} {c c' n : Nat} {l m : List Tg} {X : List Tc} {w : World} (h : Tt lo hi (.slice a n c) l w) (h' : Tt lo' hi' (.slice b n c') m w) (e : l.map Tg.ct = X) (e' : m.map Tg.ct = X) (hX : ∀ y ∈ X, okT y) (hn : X.length = n) (hn2 : n ≤ 1048576) :
    Calls Try.prog 11 #[.agg #[.slice a n c], .agg #[.slice b n c']] w fun e w' => e = .returned (.bool true) ∧ Below w.heap.size w w' := by
  obtain ⟨a1, c1, e1, r1⟩ := h.ts.rd (by rw [len_map e hn]; exact hn2) (ok_map e hX)
  obtain ⟨a2, c2, e2, r2⟩ := h'.ts.rd (by rw [len_map e' hn]; exact hn2) (ok_map e' hX)
  rw [len_map e hn] at e1
  rw [len_map e' hn] at e2
  cases e1
  cases e2
  exact eqTerm_same a b c c' l m w r1 r2 (e.trans e'.symm) n (len_map e hn) (len_map e' hn)
theorem share5 {F P : World → Nat → Option Addr → Nat → List Tg → Nat → Nat → Prop} {G : Prop} (main : (∀ v b a c l x y, F v b a c l x y → P v b a c l x y) → G) (key : ∀ v b a c l x y, F v b a c l x y → P v b a c l x y) : G := main key
theorem Bz.out {u u' : World} {b B1 B2 : Nat} {cs : Array Value} {t : TypeId} (h : Bz u b cs t) (ho : Out B1 B2 u u') (hd : b < B1 ∨ B2 ≤ b) : Bz u' b cs t := by
  unfold Bz; rw [ho.2.2.2.2 b h.lt hd]; exact h
theorem rowIs_later {w w' : World} {g N : Nat} {t : TypeId} {f : Nat → Value} (h : w.rowIs g t N f) (hb : Below w.heap.size w w') : w'.rowIs g t N f := by
  obtain ⟨cc, hh, r⟩ := h
  exact World.rowIs.of_block ⟨cc, hh, r⟩ (hb.block g (lt_of_block hh))
theorem rowIs_out {w w' : World} {g N B1 B2 : Nat} {t : TypeId} {f : Nat → Value} (h : w.rowIs g t N f) (ho : Out B1 B2 w w') (hd : g < B1 ∨ B2 ≤ g) : w'.rowIs g t N f := by
  obtain ⟨cc, hh, r⟩ := h
  exact World.rowIs.of_block ⟨cc, hh, r⟩ (ho.2.2.2.2 g (lt_of_block hh) hd)
theorem rowIs_lt {w : World} {g N : Nat} {t : TypeId} {f : Nat → Value} (h : w.rowIs g t N f) : g < w.heap.size := by
  obtain ⟨cc, hh, -⟩ := h
  exact lt_of_block hh
theorem Out.bel {w v v' : World} {B1 B2 : Nat} (h : Below w.heap.size w v) (ho : Out B1 B2 v v') (h1 : w.heap.size ≤ B1) : Below w.heap.size w v' :=
  ⟨ho.1.trans h.os, ho.2.1.trans h.tape, ho.2.2.1.trans h.output, Nat.le_trans h.size ho.2.2.2.1, fun k hk => (ho.2.2.2.2 k (Nat.lt_of_lt_of_le hk h.size) (.inl (by omega))).trans (h.block k hk)⟩

end Go.Proofs.Ytljcfokiocbgoaa
