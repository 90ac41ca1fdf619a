/- A session in new memory: what stays readable, and holds its marks, whatever changes outside. -/
import Derived.Test.YthgamfklfjjdoaaGreatDoorCSB
import Derived.Test.YthgamfklfjjdoaaGreatDoorALH
namespace Go.Proofs.YthgamfklfjjdoaaGreatDoor
set_option linter.unusedVariables false
set_option linter.unusedSimpArgs false
open Go.RowKit

/-- Changes outside a range of blocks, so many. -/
def OutsN (lo hi : Nat) : Nat → World → World → Prop
  | 0, w, w' => w' = w
  | n + 1, w, w2 => ∃ w1 B1 B2, Out B1 B2 w w1 ∧ (hi ≤ B1 ∨ B2 ≤ lo) ∧ OutsN lo hi n w1 w2
/-- Changes outside a range of blocks. -/
def Outs (lo hi : Nat) (w w' : World) : Prop := ∃ n, OutsN lo hi n w w'
theorem Outs.refl {lo hi : Nat} (w : World) : Outs lo hi w w := ⟨0, rfl⟩
theorem Outs.step {lo hi : Nat} {w w1 w2 : World} {B1 B2 : Nat} (h : Out B1 B2 w w1) (hd : hi ≤ B1 ∨ B2 ≤ lo) (h2 : Outs lo hi w1 w2) : Outs lo hi w w2 := by
  obtain ⟨n, hn⟩ := h2
  exact ⟨n + 1, w1, B1, B2, h, hd, hn⟩
theorem Outs.narrow {lo hi lo' hi' : Nat} {w w' : World} (h : Outs lo' hi' w w') (hl : lo' ≤ lo) (hh : hi ≤ hi') : Outs lo hi w w' := by
  obtain ⟨n, hn⟩ := h
  induction n generalizing w with
  | zero => exact ⟨0, hn⟩
  | succ n ih =>
    obtain ⟨w1, B1, B2, ho, hd, hr⟩ := hn
    exact .step ho (by omega) (ih hr)
/-- What holds, and stays so whatever changes outside. -/
def Keep (lo hi : Nat) (P : World → Prop) (w : World) : Prop := ∀ w', Outs lo hi w w' → P w'
theorem Keep.now {lo hi : Nat} {P : World → Prop} {w : World} (h : Keep lo hi P w) : P w := h w (.refl w)
theorem Keep.out {lo hi B1 B2 : Nat} {P : World → Prop} {w w' : World} (h : Keep lo hi P w) (ho : Out B1 B2 w w') (hd : hi ≤ B1 ∨ B2 ≤ lo) : Keep lo hi P w' := fun w2 h2 => h w2 (.step ho hd h2)
theorem Keep.later {lo hi : Nat} {P : World → Prop} {w w' : World} (h : Keep lo hi P w) (hb : Below w.heap.size w w') : Keep lo hi P w' := h.out (B1 := hi) (B2 := hi) (Out.ofB hb) (.inl (Nat.le_refl _))
theorem Keep.wide {lo hi lo' hi' : Nat} {P : World → Prop} {w : World} (h : Keep lo hi P w) (hl : lo' ≤ lo) (hh : hi ≤ hi') : Keep lo' hi' P w := fun w2 h2 => h w2 (h2.narrow hl hh)
theorem Keep.mono {lo hi : Nat} {P P' : World → Prop} {w : World} (h : Keep lo hi P w) (hp : ∀ u, P u → P' u) : Keep lo hi P' w := fun w2 h2 => hp _ (h w2 h2)
theorem Keep.of {lo hi : Nat} {P : World → Prop} {w : World} (h : P w) (hs : ∀ u u' B1 B2, P u → Out B1 B2 u u' → (hi ≤ B1 ∨ B2 ≤ lo) → P u') : Keep lo hi P w := fun w2 h2 => by
  obtain ⟨n, hn⟩ := h2
  induction n generalizing w with
  | zero => rw [show w2 = w from hn]; exact h
  | succ n ih =>
    obtain ⟨w1, B1, B2, ho, hd, hr⟩ := hn
    exact ih (hs _ _ _ _ h ho hd) hr

theorem OD2.out {w w' : World} {lo hi B1 B2 : Nat} {v : Value} {l : List Dc} (h : OD2 w lo v l) (hb : ∀ b, v.ownBlock = some b → b < hi) (ho : Out B1 B2 w w') (hd : hi ≤ B1 ∨ B2 ≤ lo) : OD2 w' lo v l :=
  h.move fun b hb' => ho.2.2.2.2 b (h.lt hb').2 (by have := (h.lt hb').1; have := hb b hb'; omega)
theorem Zn.raise {lo lo' hi : Nat} {v : Value} {l : List Sg} {p : Nat → Nat × Nat} {w : World} (h : Zn lo hi v l p w) (h1 : ∀ c, v.ownBlock = some c → lo' ≤ c) (h2 : ∀ i x, l[i]? = some x → lo' ≤ (p i).1) : Zn lo' hi v l p w :=
  ⟨⟨h.row.1, by
      rcases h.row.2 with h0 | ⟨g, cap, cur, rfl, hg, r⟩
      · exact .inl h0
      · exact .inr ⟨g, cap, cur, rfl, h1 g rfl, r⟩⟩, h.rb, fun i x hx => by
    obtain ⟨q1, q2, q3, q4, q5⟩ := h.each i x hx
    exact ⟨h2 i x hx, q2, q3, q4, q5⟩, h.dis⟩

/-- A session in new memory: its variables' row ahead of its scopes. -/
structure Sn2 (lo M hi : Nat) (v1 v2 : Value) (ds : List Dc) (l : List Sg) (p : Nat → Nat × Nat) (w : World) : Prop where
  le : lo ≤ M
  le2 : M ≤ hi
  dec : OD2 w lo v1 ds
  decb : ∀ b, v1.ownBlock = some b → b < M
  scp : Zn M hi v2 l p w
theorem Sn2.out {lo M hi B1 B2 : Nat} {v1 v2 : Value} {ds : List Dc} {l : List Sg} {p : Nat → Nat × Nat} {w w' : World} (h : Sn2 lo M hi v1 v2 ds l p w) (ho : Out B1 B2 w w') (hd : hi ≤ B1 ∨ B2 ≤ lo) : Sn2 lo M hi v1 v2 ds l p w' :=
  ⟨h.le, h.le2, h.dec.out h.decb ho (by have := h.le; have := h.le2; omega), h.decb, h.scp.out ho (by have := h.le; omega)⟩
theorem Sn2.keep {lo M hi : Nat} {v1 v2 : Value} {ds : List Dc} {l : List Sg} {p : Nat → Nat × Nat} {w : World} (h : Sn2 lo M hi v1 v2 ds l p w) : Keep lo hi (Sn2 lo M hi v1 v2 ds l p) w := Keep.of h fun _ _ _ _ h ho hd => h.out ho hd
theorem Sn2.later {lo M hi : Nat} {v1 v2 : Value} {ds : List Dc} {l : List Sg} {p : Nat → Nat × Nat} {w w' : World} (h : Sn2 lo M hi v1 v2 ds l p w) (hb : Below w.heap.size w w') : Sn2 lo M hi v1 v2 ds l p w' := h.out (B1 := hi) (B2 := hi) (Out.ofB hb) (.inl (Nat.le_refl _))
theorem Sn2.zero (w : World) (lo hi : Nat) (h : lo ≤ hi) : Sn2 lo lo hi (.slice none 0 0) (.slice none 0 0) [] [] (fun _ => (0, 0)) w := ⟨Nat.le_refl _, h, OD2.nil _ _, (fun b hb => by cases hb), Zn.nil _ _ _⟩
theorem RetCs.sn {ds : List Dc} {cs : List Sc} {dn n : Nat} {nx : Int} {w w' : World} {e : Ending} (h : RetCs ds cs dn n nx w e w') :
    ∃ a1 c1 a2 c2 l p M, e = .returned (.agg #[.slice a1 dn c1, .slice a2 n c2, .int .i64 nx]) ∧ Sn2 w.heap.size M w'.heap.size (.slice a1 dn c1) (.slice a2 n c2) ds l p w' ∧ l.map Sg.ct = cs ∧ Below w.heap.size w w' := by
  obtain ⟨a1, c1, a2, c2, l, p, e, hd, hz, hct, h1, h2, hb⟩ := h
  cases hv : (Value.slice a1 dn c1).ownBlock with
  | none => exact ⟨a1, c1, a2, c2, l, p, w.heap.size, e, ⟨Nat.le_refl _, hb.size, hd, (fun b h => by rw [hv] at h; cases h), hz⟩, hct, hb⟩
  | some b =>
    have := hd.lt hv
    exact ⟨a1, c1, a2, c2, l, p, b + 1, e, ⟨by omega, by omega, hd, (fun b' h => by rw [hv] at h; cases h; omega), hz.raise (fun c hc => h2 b c hv hc) (fun i x hx => h1 b hv i x hx)⟩, hct, hb⟩

/-- What scopes hold that can be read. -/
def okSc (x : Sc) : Prop := in64 x.d ∧ x.ls.length ≤ 1048576 ∧ ∀ y ∈ x.ls, okLc y
theorem RdS.okc {w : World} {a : Option Addr} {xs : List Sg} (h : RdS w a xs) : ∀ c ∈ xs.map Sg.ct, okSc c := by
  intro c hc
  obtain ⟨x, hx, rfl⟩ := List.mem_map.1 hc
  obtain ⟨i, hi⟩ := List.getElem?_of_mem hx
  obtain ⟨b, o, -, -, r1, r2⟩ := h.at hi
  refine ⟨r2, by simp only [Sg.ct, List.length_map]; exact r1.1, fun y hy => ?_⟩
  simp only [Sg.ct] at hy
  obtain ⟨z, hz, rfl⟩ := List.mem_map.1 hy
  obtain ⟨t1, t2, t3⟩ := flat_mem h z (List.mem_flatMap.2 ⟨x, hx, hz⟩)
  exact ⟨t3, by simp only [Lg.ct, List.length_map]; exact t1.1, by simp only [Lg.ct, List.length_map]; exact t2.1, t1.okc, t2.okc⟩
def okDs (ds : List Dc) : Prop := ds.length ≤ 1048576 ∧ ∀ x ∈ ds, in64 x.2 ∧ x.1.size ≤ 9223372036854775807
theorem RdD.okd {w : World} {a : Option Addr} {ds : List Dc} (h : RdD w a ds) : okDs ds := ⟨h.1, h.2.1⟩

theorem Sn2.rd {lo M hi dn c1 n c2 : Nat} {a1 a2 : Option Addr} {ds : List Dc} {l : List Sg} {p : Nat → Nat × Nat} {w : World} (h : Sn2 lo M hi (.slice a1 dn c1) (.slice a2 n c2) ds l p w) (hD : okDs ds) (hn : l.length ≤ 1048576) (hS : ∀ c ∈ l.map Sg.ct, okSc c) : RdD w a1 ds ∧ RdS w a2 l := by
  obtain ⟨a, c, e, r⟩ := h.dec.rd hD.1 hD.2
  cases e
  obtain ⟨a, c, e, r2⟩ := h.scp.row.rd hn (fun x hx => by
    obtain ⟨k1, k2, k3⟩ := hS x.ct (List.mem_map_of_mem hx)
    obtain ⟨i, hi⟩ := List.getElem?_of_mem hx
    obtain ⟨-, -, -, ⟨q, hq⟩, -⟩ := h.scp.each i x hi
    obtain ⟨a, c, e, r⟩ := hq.lr.rd (by simpa [Sg.ct] using k2) k3
    cases e
    exact ⟨r, k1⟩)
  cases e
  exact ⟨r, r2⟩
/-- A session that stays readable. -/
def Rs (lo hi : Nat) (a1 a2 : Option Addr) (ds : List Dc) (l : List Sg) : World → Prop := Keep lo hi (fun u => RdD u a1 ds ∧ RdS u a2 l)
theorem Sn2.rs {lo M hi dn c1 n c2 : Nat} {a1 a2 : Option Addr} {ds : List Dc} {l : List Sg} {p : Nat → Nat × Nat} {w : World} (h : Sn2 lo M hi (.slice a1 dn c1) (.slice a2 n c2) ds l p w) (hD : okDs ds) (hn : l.length ≤ 1048576) (hS : ∀ c ∈ l.map Sg.ct, okSc c) : Rs lo hi a1 a2 ds l w := h.keep.mono fun _ hu => hu.rd hD hn hS

theorem HeldZv.out {w w' w0 : World} {lo hi B1 B2 k : Nat} {v : Value} {l : List Sg} {p : Nat → Nat × Nat} (h : HeldZv w v l k) (hz : Zn lo hi v l p w0) (ho : Out B1 B2 w w') (hd : hi ≤ B1 ∨ B2 ≤ lo) : HeldZv w' v l k := by
  rcases h with h | ⟨G, n, c, N, rfl, hN, f, hr, hh⟩
  · exact .inl h
  · have hG1 := (hz.row.lt (b := G) rfl).1
    have hG2 := hz.rb G rfl
    refine .inr ⟨G, n, c, N, rfl, hN, f, rowIs_out hr ho (by omega), fun i x hx => ?_⟩
    obtain ⟨h0, h1, h2⟩ := hh i x hx
    obtain ⟨q1, q2, q3, ⟨q, hq⟩, -⟩ := hz.each i x hx
    exact ⟨h0, h1, h2.out hq ho (by omega)⟩

/-- A session that can be marked, and then holds its marks. -/
def Gs (lo hi : Nat) (v : Value) : World → Prop := Keep lo hi (fun u => Calls Tryz.prog 12 #[v, .int .i64 1] u fun e w' => ∃ K : Nat, e = .returned (.int .i64 (K : Int)) ∧ Out lo hi u w' ∧
  Keep lo hi (fun u' => Calls Tryz.prog 17 #[v, .int .i64 1] u' fun e' w'' => e' = .returned (.int .i64 (K : Int)) ∧ Below u'.heap.size u' w'') w')

set_option maxHeartbeats 1000000 in
theorem heldSes (dn c1 n c2 k2 : Nat) (nx : Int) (a1 a2 : Option Addr) (l : List Sg) (w : World) (h1 : HeldDv w (.slice a1 dn c1) dn 1) (h2 : HeldZv w (.slice a2 n c2) l (1 + dn * 2)) (hd : dn ≤ 1048576) (hn : l.length = n) (hn2 : n ≤ 60) (hs : shZ l) (hk : mkS l (1 + dn * 2) n = k2) :
    Calls Tryz.prog 17 #[.agg #[.slice a1 dn c1, .slice a2 n c2, .int .i64 nx], .int .i64 1] w fun e w' => e = .returned (.int .i64 (k2 : Int)) ∧ Below w.heap.size w w' := by
  have hbx := ses_box w (.cells #[Value.slice a1 dn c1, Value.slice a2 n c2, Value.int .i64 nx] 32)
  have B1 := kide hbx
  have XB1 := kide (Bz.new w #[Value.slice a1 dn c1, Value.slice a2 n c2, Value.int .i64 nx] 32)
  have HH := kide (heldDn_any dn c1 1 a1 _ (h1.out (B1 := 0) (B2 := 0) (Out.ofB hbx) (fun b _ => .inr (Nat.zero_le _))) hd (by omega))
  have HZ := kide (fun u (hu : Below w.heap.size w u) => heldZn_any n c2 (1 + dn * 2) a2 l u (h2.later hu) hn hn2 hs (by omega))
  rw [hk] at HZ
  clear hbx h1 h2 hs hn hk
  go_enter Tryz.func17, Tryz.ntmps17
  go_wp2_with fail
  generalize w.alloc (.cells #[Value.slice a1 dn c1, Value.slice a2 n c2, Value.int .i64 nx] 32) = w1 at *
  refine Calls.mono HH.out ?_
  rintro e w2 ⟨rfl, hb2⟩
  have XB2 := kide (XB1.out.later hb2)
  have B2 := kide (B1.out.trans (hb2.mono B1.out.size))
  have x1 := XB2.out.cell 1
  simp at x1
  have p1 : ¬ ((1 + dn * 2 : Nat) : Int) < 0 := by omega
  have HZ2 := kide (HZ.out w2 B2.out)
  clear hb2 HH XB1 B1 HZ
  go_wp2_with fail
  refine Calls.mono HZ2.out ?_
  rintro e w3 ⟨rfl, hw3⟩
  obtain rfl := hw3.symm
  have p2 : ¬ (k2 : Int) < 0 := by omega
  go_wp2_with fail
  go_ret
  exact ⟨rfl, B2.out⟩

set_option maxHeartbeats 1000000 in
theorem Sn2.gs {lo M hi dn c1 n c2 : Nat} {a1 a2 : Option Addr} {ds : List Dc} {l : List Sg} {p : Nat → Nat × Nat} {w : World} (h : Sn2 lo M hi (.slice a1 dn c1) (.slice a2 n c2) ds l p w) (nx : Int) (hd : dn ≤ 1048576) (hn : l.length = n) (hn2 : n ≤ 60) (hs : shZ l) : Gs lo hi (.agg #[.slice a1 dn c1, .slice a2 n c2, .int .i64 nx]) w := by
  refine h.keep.mono fun u hu => ?_
  have hbx := ses_box u (.cells #[Value.slice a1 dn c1, Value.slice a2 n c2, Value.int .i64 nx] 32)
  have XB1 := kide (Bz.new u #[Value.slice a1 dn c1, Value.slice a2 n c2, Value.int .i64 nx] 32)
  have S1 := kide (hu.later hbx)
  have HO1 : Hid (Out lo hi u (u.alloc (.cells #[Value.slice a1 dn c1, Value.slice a2 n c2, Value.int .i64 nx] 32))) := Out.ofB hbx
  have HLT : Hid (∀ b, (Value.slice a1 dn c1).ownBlock = some b → b < u.heap.size) := fun b hb => (hu.dec.lt hb).2
  have HMD := kide (markDn_any lo M dn c1 1 a1 ds _ S1.out.dec S1.out.decb hd (by omega))
  have HN := kide hn
  have HS := kide hs
  have HHS := kide (fun u' k2 h1 h2 hk => heldSes dn c1 n c2 k2 nx a1 a2 l u' h1 h2 hd hn hn2 hs hk)
  clear hbx hu h hn hs
  go_enter Tryz.func12, Tryz.ntmps12
  go_wp2_with fail
  generalize u.alloc (.cells #[Value.slice a1 dn c1, Value.slice a2 n c2, Value.int .i64 nx] 32) = w1 at *
  refine Calls.mono HMD.out ?_
  rintro e w2 ⟨rfl, hh2, hg2⟩
  have HO12 : Hid (Out lo M w1 w2) := by
    rcases grown_out hg2 with ⟨-, hb⟩ | ⟨b, hb, ho⟩
    · exact Out.ofB hb
    · exact ho.wide (S1.out.dec.lt hb).1 (S1.out.decb b hb)
  have XB2 : Hid (Bz w2 u.heap.size #[Value.slice a1 dn c1, Value.slice a2 n c2, Value.int .i64 nx] 32) := (hg2.block _ XB1.out.lt (fun e => by have := HLT.out _ e.symm; omega)).trans XB1.out
  have x1 := XB2.out.cell 1
  simp at x1
  have Z2 := kide (S1.out.scp.out HO12.out (.inr (Nat.le_refl _)))
  have HD2 := kide hh2
  have HDB := kide S1.out.decb
  have HLB := kide (fun b hb => (S1.out.dec.lt (b := b) hb).1)
  have HO2 := kide (HO1.out.trans (HO12.out.wide (Nat.le_refl _) S1.out.le2))
  have HLE := kide S1.out.le
  have HMH := kide S1.out.le2
  have HMS := kide (markZn_any M hi n c2 (1 + dn * 2) a2 l p w2 Z2.out HN.out hn2 HS.out (by omega))
  obtain ⟨K, hK⟩ : ∃ K, mkS l (1 + dn * 2) n = K := ⟨_, rfl⟩
  have HK := kide hK
  rw [hK] at HMS
  clear hh2 hg2 HMD XB1 HO1 S1 HO12 hK
  go_wp2_with fail
  refine Calls.mono HMS.out ?_
  rintro e w3 ⟨rfl, hz3, ho3⟩
  have HO3 := kide (HO2.out.trans (ho3.wide HLE.out (Nat.le_refl _)))
  have HD3 := kide (HD2.out.out ho3 (fun b hb => .inl (HDB.out b hb)))
  have HZ3 := kide hz3
  clear ho3 HMS hz3
  go_wp2_with fail
  go_ret
  refine ⟨K, rfl, HO3.out, ?_⟩
  refine Keep.mono (P := fun u' => HeldDv u' (.slice a1 dn c1) dn 1 ∧ HeldZv u' (.slice a2 n c2) l (1 + dn * 2)) (Keep.of ⟨HD3.out, HZ3.out⟩ fun u1 u2 B1 B2 ⟨q1, q2⟩ ho hd' => ⟨q1.out ho (fun b hb => ?_), q2.out Z2.out ho ?_⟩) fun u' ⟨q1, q2⟩ => HHS.out u' K q1 q2 HK.out
  · have := HDB.out b hb
    have := HLB.out b hb

    rcases hd' with h | h
    · exact .inl (by have := HMH.out; omega)
    · exact .inr (by omega)
  · have := HLE.out
    omega

end Go.Proofs.YthgamfklfjjdoaaGreatDoor
