/- A session in new memory whose row of variables lies ahead of its scopes or behind them; what Declare answers. -/
import Derived.Test.YtofdkdaehhpgbaaGreatDoorPUH
import Derived.Test.YtofdkdaehhpgbaaGreatDoorDEC
namespace Go.Proofs.YtofdkdaehhpgbaaGreatDoor
set_option linter.unusedVariables false
set_option linter.unusedSimpArgs false
open Go.RowKit

structure Sn3 (lo M1 M2 hi : Nat) (v1 v2 : Value) (ds : List Dc) (l : List Sg) (p : Nat → Nat × Nat) (w : World) : Prop where
  le : lo ≤ M1
  le2 : M1 ≤ M2
  le3 : M2 ≤ hi
  dec : OD2 w lo v1 ds
  decb : ∀ b, v1.ownBlock = some b → b < hi ∧ (b < M1 ∨ M2 ≤ b)
  scp : Zn M1 M2 v2 l p w
theorem Sn2.n3 {lo M hi : Nat} {v1 v2 : Value} {ds : List Dc} {l : List Sg} {p : Nat → Nat × Nat} {w : World} (h : Sn2 lo M hi v1 v2 ds l p w) : Sn3 lo M hi hi v1 v2 ds l p w :=
  ⟨h.le, h.le2, Nat.le_refl _, h.dec, fun b hb => ⟨Nat.lt_of_lt_of_le (h.decb b hb) h.le2, .inl (h.decb b hb)⟩, h.scp⟩
theorem Sn3.out {lo M1 M2 hi B1 B2 : Nat} {v1 v2 : Value} {ds : List Dc} {l : List Sg} {p : Nat → Nat × Nat} {w w' : World} (h : Sn3 lo M1 M2 hi v1 v2 ds l p w) (ho : Out B1 B2 w w') (hd : hi ≤ B1 ∨ B2 ≤ lo) : Sn3 lo M1 M2 hi v1 v2 ds l p w' :=
  ⟨h.le, h.le2, h.le3, h.dec.out (fun b hb => (h.decb b hb).1) ho hd, h.decb, h.scp.out ho (by have := h.le; have := h.le3; omega)⟩
theorem Sn3.keep {lo M1 M2 hi : Nat} {v1 v2 : Value} {ds : List Dc} {l : List Sg} {p : Nat → Nat × Nat} {w : World} (h : Sn3 lo M1 M2 hi v1 v2 ds l p w) : Keep lo hi (Sn3 lo M1 M2 hi v1 v2 ds l p) w := Keep.of h fun _ _ _ _ h ho hd => h.out ho hd
theorem Sn3.later {lo M1 M2 hi : Nat} {v1 v2 : Value} {ds : List Dc} {l : List Sg} {p : Nat → Nat × Nat} {w w' : World} (h : Sn3 lo M1 M2 hi v1 v2 ds l p w) (hb : Below w.heap.size w w') : Sn3 lo M1 M2 hi v1 v2 ds l p w' := h.out (B1 := hi) (B2 := hi) (Out.ofB hb) (.inl (Nat.le_refl _))
theorem Sn3.wide {lo lo' M1 M2 hi hi' : Nat} {v1 v2 : Value} {ds : List Dc} {l : List Sg} {p : Nat → Nat × Nat} {w : World} (h : Sn3 lo M1 M2 hi v1 v2 ds l p w) (hl : lo' ≤ lo) (hh : hi ≤ hi') : Sn3 lo' M1 M2 hi' v1 v2 ds l p w :=
  ⟨Nat.le_trans hl h.le, h.le2, Nat.le_trans h.le3 hh, h.dec.low hl, fun b hb => ⟨Nat.lt_of_lt_of_le (h.decb b hb).1 hh, (h.decb b hb).2⟩, h.scp⟩
theorem Sn3.rd {lo M1 M2 hi dn c1 n c2 : Nat} {a1 a2 : Option Addr} {ds : List Dc} {l : List Sg} {p : Nat → Nat × Nat} {w : World} (h : Sn3 lo M1 M2 hi (.slice a1 dn c1) (.slice a2 n c2) ds l p w) (hD : okDs ds) (hn : l.length ≤ 1048576) (hS : ∀ c ∈ l.map Sg.ct, okSc c) : RdD w a1 ds ∧ RdS w a2 l := by
  obtain ⟨a, c, e, r⟩ := h.dec.rd hD.1 hD.2
  cases e
  obtain ⟨a, c, e, r2⟩ := h.scp.row.rd hn (fun x hx => by
    obtain ⟨k1, k2, k3⟩ := hS x.ct (List.mem_map_of_mem hx)
    obtain ⟨i, hi⟩ := List.getElem?_of_mem hx
    obtain ⟨-, -, -, ⟨q, hq⟩, -⟩ := h.scp.each i x hi
    obtain ⟨a, c, e, r⟩ := hq.lr.rd (by simpa [Sg.ct] using k2) k3
    cases e
    exact ⟨r, k1⟩)
  cases e
  exact ⟨r, r2⟩
theorem Sn3.rs {lo M1 M2 hi dn c1 n c2 : Nat} {a1 a2 : Option Addr} {ds : List Dc} {l : List Sg} {p : Nat → Nat × Nat} {w : World} (h : Sn3 lo M1 M2 hi (.slice a1 dn c1) (.slice a2 n c2) ds l p w) (hD : okDs ds) (hn : l.length ≤ 1048576) (hS : ∀ c ∈ l.map Sg.ct, okSc c) : Rs lo hi a1 a2 ds l w := h.keep.mono fun _ hu => hu.rd hD hn hS

set_option maxHeartbeats 1000000 in
theorem Sn3.gs {lo M1 M2 hi dn c1 n c2 : Nat} {a1 a2 : Option Addr} {ds : List Dc} {l : List Sg} {p : Nat → Nat × Nat} {w : World} (h : Sn3 lo M1 M2 hi (.slice a1 dn c1) (.slice a2 n c2) ds l p w) (nx : Int) (hd : dn ≤ 1048576) (hn : l.length = n) (hn2 : n ≤ 60) (hs : shZ l) : Gs lo hi (.agg #[.slice a1 dn c1, .slice a2 n c2, .int .i64 nx]) w := by
  refine h.keep.mono fun u hu => ?_
  have hbx := ses_box u (.cells #[Value.slice a1 dn c1, Value.slice a2 n c2, Value.int .i64 nx] 30)
  have XB1 := kide (Bz.new u #[Value.slice a1 dn c1, Value.slice a2 n c2, Value.int .i64 nx] 30)
  have S1 := kide (hu.later hbx)
  have HO1 : Hid (Out lo hi u (u.alloc (.cells #[Value.slice a1 dn c1, Value.slice a2 n c2, Value.int .i64 nx] 30))) := Out.ofB hbx
  have HLT : Hid (∀ b, (Value.slice a1 dn c1).ownBlock = some b → b < u.heap.size) := fun b hb => (hu.dec.lt hb).2
  have HMD := kide (markDn_any lo hi dn c1 1 a1 ds _ S1.out.dec (fun b hb => (S1.out.decb b hb).1) hd (by omega))
  have HN := kide hn
  have HS := kide hs
  have HHS := kide (fun u' k2 h1 h2 hk => heldSes dn c1 n c2 k2 nx a1 a2 l u' h1 h2 hd hn hn2 hs hk)
  clear hbx hu h hn hs
  go_enter Tryz.func10, Tryz.ntmps10
  go_wp2_with fail
  generalize u.alloc (.cells #[Value.slice a1 dn c1, Value.slice a2 n c2, Value.int .i64 nx] 30) = w1 at *
  refine Calls.mono HMD.out ?_
  rintro e w2 ⟨rfl, hh2, hg2⟩
  have HB : Hid (Out lo hi w1 w2 ∧ Zn M1 M2 (.slice a2 n c2) l p w2) := by
    rcases grown_out hg2 with ⟨-, hb⟩ | ⟨b, hb, ho⟩
    · exact ⟨Out.ofB hb, S1.out.scp.out (B1 := M2) (B2 := M2) (Out.ofB hb) (.inl (Nat.le_refl _))⟩
    · have hlt := S1.out.decb b hb
      exact ⟨ho.wide (S1.out.dec.lt hb).1 hlt.1, S1.out.scp.out ho (by omega)⟩
  have XB2 : Hid (Bz w2 u.heap.size #[Value.slice a1 dn c1, Value.slice a2 n c2, Value.int .i64 nx] 30) := (hg2.block _ XB1.out.lt (fun e => by have := HLT.out _ e.symm; omega)).trans XB1.out
  have x1 := XB2.out.cell 1
  simp at x1
  have Z2 := kide HB.out.2
  have HD2 := kide hh2
  have HDB := kide S1.out.decb
  have HLB := kide (fun b hb => (S1.out.dec.lt (b := b) hb).1)
  have HO2 := kide (HO1.out.trans HB.out.1)
  have HLE := kide S1.out.le
  have HMH := kide S1.out.le3
  have HMM := kide S1.out.le2
  have HMS := kide (markZn_any M1 M2 n c2 (1 + dn * 2) a2 l p w2 Z2.out HN.out hn2 HS.out (by omega))
  obtain ⟨K, hK⟩ : ∃ K, mkS l (1 + dn * 2) n = K := ⟨_, rfl⟩
  have HK := kide hK
  rw [hK] at HMS
  clear hh2 hg2 HMD XB1 HO1 S1 HB hK
  go_wp2_with fail
  refine Calls.mono HMS.out ?_
  rintro e w3 ⟨rfl, hz3, ho3⟩
  have HO3 := kide (HO2.out.trans (ho3.wide HLE.out HMH.out))
  have HD3 := kide (HD2.out.out ho3 (fun b hb => (HDB.out b hb).2))
  have HZ3 := kide hz3
  clear ho3 HMS hz3
  go_wp2_with fail
  go_ret
  refine ⟨K, rfl, HO3.out, ?_⟩
  refine Keep.mono (P := fun u' => HeldDv u' (.slice a1 dn c1) dn 1 ∧ HeldZv u' (.slice a2 n c2) l (1 + dn * 2)) (Keep.of ⟨HD3.out, HZ3.out⟩ fun u1 u2 B1 B2 ⟨q1, q2⟩ ho hd' => ⟨q1.out ho (fun b hb => ?_), q2.out Z2.out ho ?_⟩) fun u' ⟨q1, q2⟩ => HHS.out u' K q1 q2 HK.out
  · have := HDB.out b hb
    have := HLB.out b hb
    omega
  · have := HLE.out
    have := HMH.out
    omega

def RetP3 (R : Rv) (w : World) (e : Ending) (w' : World) : Prop := ∃ a1 c1 a2 c2 l p M1 M2, e = .returned (.tuple #[.agg #[.slice a1 R.ds.length c1, .slice a2 R.cs.length c2, .int .i64 R.nx], .int .i64 R.code]) ∧ Sn3 w.heap.size M1 M2 w'.heap.size (.slice a1 R.ds.length c1) (.slice a2 R.cs.length c2) R.ds l p w' ∧ l.map Sg.ct = R.cs ∧ Below w.heap.size w w'
theorem RetP3.g {R : Rv} {w w' : World} {e : Ending} (h : RetP3 R w e w') (hk : okR R) : RetG R R.ds.length R.cs.length w e w' := by
  obtain ⟨a1, c1, a2, c2, l, p, M1, M2, e, sn, hct, hb⟩ := h
  obtain ⟨k1, k2, k3⟩ := hk
  have hl : l.length = R.cs.length := by rw [← hct, List.length_map]
  refine ⟨a1, c1, a2, c2, l, e, hct, sn.rs k1 (by omega) (fun c hc => (k2 c (by rw [← hct]; exact hc)).1), sn.gs R.nx k1.1 hl k3 (fun x hx => ?_), hb⟩
  obtain ⟨q1, q2⟩ := k2 x.ct (by rw [← hct]; exact List.mem_map_of_mem hx)
  exact ⟨sh_of rfl q1.2.2, by simpa [Sg.ct] using q2⟩

/-- What Declare answers. -/
def declareR (ds : List Dc) (cs : List Sc) (nx : Int) (s : ByteArray) (x : Int) : Rv := if sesR ds cs nx = true then (if decC ds s x = 0 then ⟨ds ++ [(s, x)], cs, nx, 0⟩ else ⟨ds, cs, nx, decC ds s x⟩) else zeSR
theorem decC_zero {ds : List Dc} {s : ByteArray} {x : Int} (h : decC ds s x = 0) : nmOk s = true ∧ hasN s ds = false ∧ wOk x = true ∧ dclR (ds ++ [(s, x)]) = true := by
  unfold decC at h
  cases h1 : nmOk s <;> cases h2 : hasN s ds <;> cases h3 : wOk x <;> cases h4 : dclR (ds ++ [(s, x)]) <;> simp [h1, h2, h3, h4] at h ⊢
theorem dcl_len {ds : List Dc} (h : dclR ds = true) : ds.length ≤ 60 := by
  unfold dclR at h
  simp only [Bool.and_eq_true, decide_eq_true_eq] at h
  exact h.1.1.1
theorem ses_dcl {ds : List Dc} {cs : List Sc} {nx : Int} (h : sesR ds cs nx = true) : dclR ds = true := by
  unfold sesR at h
  simp only [Bool.and_eq_true] at h
  exact h.1.1.1.1.1
theorem declare_ok {w : World} {a b : Option Addr} {ds : List Dc} {xs : List Sg} (hr : RdD w a ds) (hs : RdS w b xs) (nx : Int) (s : ByteArray) (x : Int) (hsz : s.size ≤ 1048576) (hx : in64 x) : okR (declareR ds (xs.map Sg.ct) nx s x) := by
  unfold declareR
  cases hv : sesR ds (xs.map Sg.ct) nx with
  | false => rw [if_neg (by simp)]; exact zero_ok
  | true =>
    rw [if_pos rfl]
    have h1 := hs.okc
    have h2 := ses_each hv
    have h3 := (ses_len hv).2
    split
    · rename_i h0
      have h4 := dcl_len (decC_zero h0).2.2.2
      refine ⟨⟨by show (ds ++ [(s, x)]).length ≤ 1048576; omega, fun y hy => ?_⟩, fun c hc => ⟨h1 c hc, h2 c hc⟩, by show (xs.map Sg.ct).length ≤ 60; omega⟩
      rcases List.mem_append.1 hy with hy | hy
      · exact hr.2.1 y hy
      · simp at hy
        subst hy
        exact ⟨hx, by show s.size ≤ _; omega⟩
    · exact ⟨hr.okd, fun c hc => ⟨h1 c hc, h2 c hc⟩, by show (xs.map Sg.ct).length ≤ 60; omega⟩

end Go.Proofs.YtofdkdaehhpgbaaGreatDoor
