/- Literals in new memory marked, and holding their marks. -/
import Derived.Test.YtofdkdaehhpgbaaGreatDoorLTA
namespace Go.Proofs.YtofdkdaehhpgbaaGreatDoor
set_option linter.unusedVariables false
set_option linter.unusedSimpArgs false
open Go.RowKit

theorem markTn_tt (lo hi n c k : Nat) (a : Option Addr) (l : List Tg) (w : World) (h2 : Tt lo hi (.slice a n c) l w) (hl : shT l) (hn : l.length = n) (hn2 : n ≤ 1048576) (hk : k ≤ 4000000000000000000) :
    Calls Tryz.prog 89 #[.slice a n c, .int .i64 (k : Int)] w fun e w' => e = .returned (.int .i64 (mkT l k l.length : Int)) ∧ HeldTv w' (.slice a n c) l k ∧ Out lo hi w w' := by
  by_cases e : l = []
  · subst e
    subst hn
    refine (markT_nil a c k _).mono (fun e w' h => ⟨h.1, .inl rfl, ?_⟩)
    rw [h.2]
    exact Out.refl _ _ _
  · obtain ⟨g, rfl⟩ : ∃ g, a = some ⟨g, 0, none⟩ := by
      rcases h2.ts.row.2 with ⟨-, h0⟩ | ⟨g, cap, cur, e', -⟩
      · exact absurd (List.eq_nil_of_length_eq_zero h0) e
      · cases e'; exact ⟨g, rfl⟩
    obtain ⟨N, f, h0, hr, hf, h1, -⟩ := h2.ts.row.tn
    have hg2 := h2.rb g rfl
    refine (markT_own lo hi g c n k N l _ f hr h0 hf h1 hg2 (fun x hx => ⟨?_, ?_⟩) hl h2.ts.wd h2.ts.kd hn hn2 hk).mono (fun e w' h => ⟨h.1, .inr ⟨g, n, c, N, rfl, h0, h.2.1⟩, h.2.2.1⟩)
    · rcases h2.ts.wn x hx with ⟨h1, -⟩ | ⟨g', cur, h1, h2', h3, h4⟩
      · exact .inl (by rw [h1]; rfl)
      · exact .inr ⟨g', cur, h1, h2', h2.wb x hx _ h1, h3, fun t ht => ⟨_, h4 t ht⟩⟩
    · rcases h2.ts.kn x hx with ⟨h1, -⟩ | ⟨g', cur, h1, h2', h3, h4⟩
      · exact .inl (by rw [h1]; rfl)
      · exact .inr ⟨g', cur, h1, h2', h2.kb x hx _ h1, h3, fun t ht => ⟨_, h4 t ht⟩⟩

/-- Where a term lies. -/
def TmAt (lo hi : Nat) (v : Value) (l : List Tg) : Prop := (∀ b, v.ownBlock = some b → lo ≤ b ∧ b < hi) ∧ ∀ x ∈ l, (∀ p, x.wa = some p → lo ≤ p.block ∧ p.block < hi) ∧ ∀ p, x.ka = some p → lo ≤ p.block ∧ p.block < hi
theorem Tt.at {lo hi : Nat} {v : Value} {l : List Tg} {w : World} (h : Tt lo hi v l w) : TmAt lo hi v l :=
  ⟨fun b hb => ⟨(h.ts.row.lt hb).1, h.rb b hb⟩, fun x hx => ⟨fun p hp => ⟨(nw_lt (h.ts.wn x hx) hp).1, h.wb x hx p hp⟩, fun p hp => ⟨(ni_lt (h.ts.kn x hx) hp).1, h.kb x hx p hp⟩⟩⟩

theorem HeldTv.out {w w' : World} {lo hi B1 B2 k : Nat} {v : Value} {l : List Tg} (h : HeldTv w v l k) (ha : TmAt lo hi v l) (ho : Out B1 B2 w w') (hd : hi ≤ B1 ∨ B2 ≤ lo) : HeldTv w' v l k := by
  rcases h with rfl | ⟨g, n, c, N, rfl, h0, h⟩
  · exact .inl rfl
  · refine .inr ⟨g, n, c, N, rfl, h0, ?_⟩
    have hg := ha.1 g rfl
    refine h.keep (ho.2.2.2.2 g ?_ (by omega)) (fun x hx p hn hp => ?_) (fun x hx p hn hp => ?_)
    · obtain ⟨f, hr, -⟩ := h
      exact rowIs_lt hr
    · have h1 := (ha.2 x hx).1 p hp
      obtain ⟨f, -, -, hh⟩ := h
      obtain ⟨i, hi⟩ := List.getElem?_of_mem hx
      exact ho.2.2.2.2 _ ((hh i x hi).2.1.lt hn hp) (by omega)
    · have h1 := (ha.2 x hx).2 p hp
      obtain ⟨f, -, -, hh⟩ := h
      obtain ⟨i, hi⟩ := List.getElem?_of_mem hx
      exact ho.2.2.2.2 _ ((hh i x hi).2.2.lt hn hp) (by omega)

/-- The number that a literal's marks begin with. -/
def mkL (l : List Lg) (k : Nat) : Nat → Nat
  | 0 => k
  | i + 1 => match l[i]? with
    | some x => mkT x.ts (mkT x.ss (mkL l k i + 2) x.ss.length) x.ts.length
    | none => mkL l k i
theorem mkL_step {l : List Lg} {k i : Nat} {x : Lg} (h : l[i]? = some x) : mkL l k (i + 1) = mkT x.ts (mkT x.ss (mkL l k i + 2) x.ss.length) x.ts.length := by
  rw [mkL, h]

def shL (l : List Lg) : Prop := ∀ x ∈ l, shT x.ss ∧ shT x.ts ∧ x.ss.length ≤ 1048576 ∧ x.ts.length ≤ 1048576
theorem mkL_le {l : List Lg} {k : Nat} (h : shL l) : ∀ i, mkL l k i ≤ k + i * 4398056996866
  | 0 => by simp [mkL]
  | i + 1 => by
    have ih := mkL_le (k := k) h i
    cases hx : l[i]? with
    | none =>
      have e : mkL l k (i + 1) = mkL l k i := by simp only [mkL, hx]
      rw [e, Nat.succ_mul]
      exact Nat.le_trans ih (Nat.add_le_add_left (Nat.le_add_right _ _) _)
    | some x =>
      obtain ⟨h1, h2, h3, h4⟩ := h x (List.mem_of_getElem? hx)
      rw [mkL_step hx]
      have a1 := mkT_le (k := mkL l k i + 2) h1 x.ss.length
      have a2 := mkT_le (k := mkT x.ss (mkL l k i + 2) x.ss.length) h2 x.ts.length
      omega

/-- A row of literals that holds its marks from k on. -/
def HeldL (w : World) (G N : Nat) (l : List Lg) (k : Nat) : Prop := ∃ f, w.rowIs G 68 N f ∧ ∀ i x, l[i]? = some x → f (i * 4) = .int .i64 (mkL l k i : Int) ∧ f (i * 4 + 1) = .bool (((mkL l k i : Int) + 1) % 3 == 0) ∧ f (i * 4 + 2) = .slice x.sa x.ss.length x.sc ∧ f (i * 4 + 3) = .slice x.ta x.ts.length x.tc ∧ HeldTv w (.slice x.sa x.ss.length x.sc) x.ss (mkL l k i + 2) ∧ HeldTv w (.slice x.ta x.ts.length x.tc) x.ts (mkT x.ss (mkL l k i + 2) x.ss.length)

/-- .. of any slice: none, or a row. -/
def HeldLv (w : World) (v : Value) (l : List Lg) (k : Nat) : Prop := l = [] ∨ ∃ G n c N, v = .slice (some ⟨G, 0, none⟩) n c ∧ n * 4 ≤ N ∧ HeldL w G N l k
theorem HeldLv.later {w w' : World} {v : Value} {l : List Lg} {k : Nat} (h : HeldLv w v l k) (hb : Below w.heap.size w w') : HeldLv w' v l k := by
  rcases h with h | ⟨G, n, c, N, e, hN, f, hr, hh⟩
  · exact .inl h
  · refine .inr ⟨G, n, c, N, e, hN, f, rowIs_later hr hb, fun i x hx => ?_⟩
    obtain ⟨h0, h1, h2, h3, h4, h5⟩ := hh i x hx
    exact ⟨h0, h1, h2, h3, h4.later hb, h5.later hb⟩
theorem HeldLv.out {w w' w0 : World} {lo hi B1 B2 k : Nat} {v : Value} {l : List Lg} {p : Nat → Nat × Nat} (h : HeldLv w v l k) (hn : Ln lo hi v l p w0) (ho : Out B1 B2 w w') (hd : hi ≤ B1 ∨ B2 ≤ lo) : HeldLv w' v l k := by
  rcases h with h | ⟨G, n, c, N, rfl, hN, f, hr, hh⟩
  · exact .inl h
  · have hG1 := (hn.row.lt (b := G) rfl).1
    have hG2 := hn.rb G rfl
    refine .inr ⟨G, n, c, N, rfl, hN, f, rowIs_out hr ho (by omega), fun i x hx => ?_⟩
    obtain ⟨h0, h1, h2, h3, h4, h5⟩ := hh i x hx
    obtain ⟨q1, q2, q3, ⟨mid, m1, m2, t1, t2⟩, -⟩ := hn.each i x hx
    exact ⟨h0, h1, h2, h3, h4.out t1.at ho (by omega), h5.out t2.at ho (by omega)⟩

theorem Out.setc (w : World) (G i : Nat) (v : Value) : Out G (G + 1) w (w.setCell ⟨G, i, none⟩ v) := ⟨rfl, rfl, rfl, by simp, fun k hk hd => heap_setCell_other _ _ _ _ (by simp; omega)⟩
theorem Out.wide {B1 B2 C1 C2 : Nat} {w w' : World} (h : Out B1 B2 w w') (h1 : C1 ≤ B1) (h2 : B2 ≤ C2) : Out C1 C2 w w' := ⟨h.1, h.2.1, h.2.2.1, h.2.2.2.1, fun k hk hd => h.2.2.2.2 k hk (by omega)⟩

/-- The row of an owned slice of literals. -/
theorem OL4.tn {w : World} {B g n c : Nat} {l : List Lg} (h : OL4 w B (.slice (some ⟨g, 0, none⟩) n c) l) : ∃ N f, n * 4 ≤ N ∧ w.rowIs g 68 N f ∧ n = l.length ∧ ∀ i x, l[i]? = some x → f (i * 4) = .int .i64 x.id ∧ f (i * 4 + 1) = .bool x.eq ∧ f (i * 4 + 2) = .slice x.sa x.ss.length x.sc ∧ f (i * 4 + 3) = .slice x.ta x.ts.length x.tc := by
  obtain ⟨h1, ⟨h2, -⟩ | ⟨g', cap, cur, e, hg, hh, hc1, hc2, hsz, hcur⟩⟩ := h
  · cases h2
  · cases e
    refine ⟨cur.size, _, by omega, krow hh, rfl, fun i x hx => ?_⟩
    obtain ⟨e0, e1, e2, e3⟩ := lgc_get hx
    have hil := (List.getElem?_eq_some_iff.1 hx).1
    rw [← hcur] at e0 e1 e2 e3
    rw [List.getElem?_take, if_pos (by omega)] at e0 e1 e2 e3
    simp only [Array.getElem?_toList] at e0 e1 e2 e3
    exact ⟨by rw [e0]; rfl, by rw [e1]; rfl, by rw [e2]; rfl, by rw [e3]; rfl⟩

set_option maxHeartbeats 2000000 in
set_option maxRecDepth 100000 in
theorem markLn_any (lo hi n c k : Nat) (a : Option Addr) (l : List Lg) (p : Nat → Nat × Nat) (w : World) (h : Ln lo hi (.slice a n c) l p w) (hn : l.length = n) (hn2 : n ≤ 60) (hs : shL l) (hk : k ≤ 1000000000000000000) :
    Calls Tryz.prog 66 #[.slice a n c, .int .i64 (k : Int)] w fun e w' => e = .returned (.int .i64 (mkL l k n : Int)) ∧ HeldLv w' (.slice a n c) l k ∧ Out lo hi w w' := by
  by_cases hz : n = 0
  · subst hz
    have e0 := List.eq_nil_of_length_eq_zero hn
    subst e0
    clear h hs
    go_enter Tryz.func66, Tryz.ntmps66
    go_wp2
    go_loopw [1, 5] (fun q i wr => q = .int .i64 (k : Int) ∧ i = .int .i64 0 ∧ wr = w) (fun _ _ _ => 0)
    case atStart => exact ⟨rfl, rfl, rfl⟩
    case round =>
      obtain ⟨rfl, rfl, rfl⟩ := hrel
      go_wp2
      go_ret
      exact ⟨rfl, .inl rfl, Out.refl _ _ _⟩
  obtain ⟨G, rfl⟩ : ∃ G, a = some ⟨G, 0, none⟩ := by
    rcases h.row.2 with ⟨-, h0⟩ | ⟨g, cap, cur, e', -⟩
    · exact absurd (by rw [← hn]; exact h0) hz
    · cases e'; exact ⟨g, rfl⟩
  obtain ⟨N, f0, hN, hr0, -, hf0⟩ := h.row.tn
  have hG1 := (h.row.lt (b := G) rfl).1
  have hG2 := h.rb G rfl
  have HE := kide h.each
  have HDS := kide h.dis
  have HN := kide hn
  have HS := kide hs
  have HLE := kide (fun i => mkL_le (k := k) hs i)
  have HR0 := kide hr0
  have HF0 := kide hf0
  clear h hn hs hr0 hf0
  go_enter Tryz.func66, Tryz.ntmps66
  go_wp2_with fail
  go_loopw [1, 5] (fun q i wr => ∃ (j : Nat) (f : Nat → Value), j ≤ n ∧ i = .int .i64 (j : Int) ∧ q = .int .i64 (mkL l k j : Int) ∧ wr.rowIs G 68 N f ∧ (∀ i x, l[i]? = some x → (∃ (k0 : Int) (b0 : Bool), f (i * 4) = .int .i64 k0 ∧ f (i * 4 + 1) = .bool b0) ∧ f (i * 4 + 2) = .slice x.sa x.ss.length x.sc ∧ f (i * 4 + 3) = .slice x.ta x.ts.length x.tc) ∧ (∀ i x, i < j → l[i]? = some x → f (i * 4) = .int .i64 (mkL l k i : Int) ∧ f (i * 4 + 1) = .bool (((mkL l k i : Int) + 1) % 3 == 0) ∧ HeldTv wr (.slice x.sa x.ss.length x.sc) x.ss (mkL l k i + 2) ∧ HeldTv wr (.slice x.ta x.ts.length x.tc) x.ts (mkT x.ss (mkL l k i + 2) x.ss.length)) ∧ (∀ i x, j ≤ i → l[i]? = some x → Lt (p i).1 (p i).2 x wr) ∧ Out lo hi w wr) (fun _ i _ => n - (intOf i).toNat)
  case atStart => exact ⟨0, f0, Nat.zero_le _, rfl, rfl, HR0.out, (fun i x hx => by obtain ⟨e0, e1, e2, e3⟩ := HF0.out i x hx; exact ⟨⟨_, _, e0, e1⟩, e2, e3⟩), (fun i x hi => by omega), (fun i x _ hx => (HE.out i x hx).2.2.2.1), Out.refl _ _ _⟩
  case round =>
    clear HR0 HF0
    obtain ⟨j, f, hj, rfl, rfl, hrow, hf, hd, hl, hout⟩ := hrel
    have HO := kide hout
    have HRW := kide hrow
    have HF := kide hf
    have HD := kide hd
    have HL := kide hl
    by_cases hlt : j < n
    · obtain ⟨x, gx⟩ : ∃ x, l[j]? = some x := ⟨l[j]'(by rw [HN.out]; exact hlt), List.getElem?_eq_getElem _⟩
      obtain ⟨⟨k0, b0, e0, e1⟩, e2, e3⟩ := hf j _ gx
      have q0 := hrow.cell (i := j * 4) (by omega)
      have q1 := hrow.cell (i := j * 4 + 1) (by omega)
      have q2 := hrow.cell (i := j * 4 + 2) (by omega)
      have q3 := hrow.cell (i := j * 4 + 3) (by omega)
      rw [e0] at q0
      rw [e1] at q1
      rw [e2] at q2
      rw [e3] at q3
      have r0 := hrow.frozen (j * 4)
      have r1 := hrow.frozen (j * 4 + 1)
      have hKb := HLE.out j
      have HST := kide (mkL_step (k := k) gx)
      obtain ⟨K, hK⟩ : ∃ K, mkL l k j = K := ⟨_, rfl⟩
      have HK := kide hK
      rw [hK] at hKb HST
      rw [hK]
      have hKb2 : K ≤ 2000000000000000000 := by omega
      have i0 : (j : Int) < (n : Int) := by omega
      have GX := kide gx
      have DM : Hid (∀ i x, i < j → l[i]? = some x → f (i * 4) = .int .i64 (mkL l k i : Int) ∧ f (i * 4 + 1) = .bool (((mkL l k i : Int) + 1) % 3 == 0)) := fun i x hi hx => ⟨(hd i x hi hx).1, (hd i x hi hx).2.1⟩
      clear hout hrow hf hd hl gx e0 e1 e2 e3 hK hKb
      go_wp2_with fail
      have HEX := kide (fun i x (hx : l[i]? = some x) => (HE.out i x hx).2.2.2.2 G rfl)
      have HAT : Hid (∀ i x, l[i]? = some x → ∃ mid, (p i).1 ≤ mid ∧ mid ≤ (p i).2 ∧ TmAt (p i).1 mid (.slice x.sa x.ss.length x.sc) x.ss ∧ TmAt mid (p i).2 (.slice x.ta x.ts.length x.tc) x.ts) := fun i x hx => by
        obtain ⟨mid, m1, m2, t1, t2⟩ := (HE.out i x hx).2.2.2.1
        exact ⟨mid, m1, m2, t1.at, t2.at⟩
      have hO1 : Out G (G + 1) wr ((wr.setCell ⟨G, j * 4, none⟩ (.int .i64 (K : Int))).setCell ⟨G, j * 4 + 1, none⟩ (.bool (((K : Int) + 1) % 3 == 0))) := (Out.setc _ _ _ _).trans (Out.setc _ _ _ _)
      have HR1 := kide (World.rowIs.set (World.rowIs.set HRW.out (j * 4) (.int .i64 (K : Int))) (j * 4 + 1) (.bool (((K : Int) + 1) % 3 == 0)))
      generalize (wr.setCell ⟨G, j * 4, none⟩ (.int .i64 (K : Int))).setCell ⟨G, j * 4 + 1, none⟩ (.bool (((K : Int) + 1) % 3 == 0)) = w1 at *
      obtain ⟨f1, hR1, hF1, hF2, hF3⟩ : ∃ f1, w1.rowIs G 68 N f1 ∧ (f1 (j * 4) = .int .i64 (K : Int) ∧ f1 (j * 4 + 1) = .bool (((K : Int) + 1) % 3 == 0)) ∧ (∀ i, i ≠ j → f1 (i * 4) = f (i * 4) ∧ f1 (i * 4 + 1) = f (i * 4 + 1)) ∧ ∀ i, f1 (i * 4 + 2) = f (i * 4 + 2) ∧ f1 (i * 4 + 3) = f (i * 4 + 3) := by
        refine ⟨_, HR1.out, ⟨by simp, by simp⟩, fun i hi => ?_, fun i => ?_⟩
        all_goals
          constructor
          all_goals
            show (if _ then _ else _) = _
            rw [if_neg (by omega), if_neg (by omega)]
      have R1 := kide hR1
      have F1 := kide hF1
      have F2 := kide hF2
      have F3 := kide hF3
      have L1 : Hid (∀ i x, j ≤ i → l[i]? = some x → Lt (p i).1 (p i).2 x w1) := fun i x hi hx => (HL.out i x hi hx).out hO1 (by have := HEX.out i x hx; omega)
      have D1 : Hid (∀ i x, i < j → l[i]? = some x → HeldTv w1 (.slice x.sa x.ss.length x.sc) x.ss (mkL l k i + 2) ∧ HeldTv w1 (.slice x.ta x.ts.length x.tc) x.ts (mkT x.ss (mkL l k i + 2) x.ss.length)) := fun i x hi hx => by
        obtain ⟨-, -, d2, d3⟩ := HD.out i x hi hx
        obtain ⟨mid, m1, m2, t1, t2⟩ := HAT.out i x hx
        have := HEX.out i x hx
        exact ⟨d2.out t1 hO1 (by omega), d3.out t2 hO1 (by omega)⟩
      have O1 := kide (HO.out.trans (hO1.wide hG1 (by omega)))
      obtain ⟨mid, m1, m2, t1, t2⟩ := L1.out j x (Nat.le_refl _) GX.out
      have A1 := kide t1.at
      have A2 := kide t2.at
      obtain ⟨s1, s2, s3, s4⟩ := HS.out x (List.mem_of_getElem? GX.out)
      obtain ⟨pe1, pe2, pe3, -⟩ := HE.out j x GX.out
      have HPJ : Hid (∀ i, i < j → (p i).2 ≤ (p j).1) := fun i hi => HDS.out i j hi (by rw [HN.out]; exact hlt)
      have HPK : Hid (∀ i, j < i → i < l.length → (p j).2 ≤ (p i).1) := fun i hi hil => HDS.out j i hi hil
      obtain ⟨K2, hK2⟩ : ∃ K2 : Nat, K + 2 = K2 := ⟨_, rfl⟩
      have HK2 := kide hK2
      have hKe : (K : Int) + 1 + 1 = (K2 : Int) := by omega
      rw [hKe]
      have C1 := kide (markTn_tt (p j).1 mid x.ss.length x.sc K2 x.sa x.ss w1 t1 s1 rfl s3 (by omega))
      have T2 := kide t2
      have hK3 := mkT_le (k := K2) s1 x.ss.length
      obtain ⟨K3, hK3e⟩ : ∃ K3 : Nat, mkT x.ss K2 x.ss.length = K3 := ⟨_, rfl⟩
      have HK3 := kide hK3e
      rw [hK3e] at C1 hK3
      rw [hK2, hK3e] at HST
      have hK3b : K3 ≤ 3000000000000000000 := by omega
      clear hR1 hF1 hF2 hF3 hO1 HR1 HD HL HO HRW t1 t2 hK2 hKe hK3 hK3e q0 q1 r0 r1
      refine Calls.mono C1.out ?_
      rintro e w2 ⟨rfl, hh2, ho2⟩
      have R2 : Hid (w2.rowIs G 68 N f1) := rowIs_out R1.out ho2 (by have := HEX.out j x GX.out; omega)
      have q3' := R2.out.cell (i := j * 4 + 3) (by omega)
      rw [(F3.out j).2] at q3'
      have q3'' : w2.cell? ⟨G, j * 4 + 3, none⟩ = some (.slice x.ta x.ts.length x.tc) := by rw [q3', (HF.out j x GX.out).2.2]
      have L2 : Hid (∀ i x, j < i → l[i]? = some x → Lt (p i).1 (p i).2 x w2) := fun i y hi hx => (L1.out i y (by omega) hx).out ho2 (.inr (by have := HPK.out i hi (List.getElem?_eq_some_iff.1 hx).1; omega))
      have D2 : Hid (∀ i x, i < j → l[i]? = some x → HeldTv w2 (.slice x.sa x.ss.length x.sc) x.ss (mkL l k i + 2) ∧ HeldTv w2 (.slice x.ta x.ts.length x.tc) x.ts (mkT x.ss (mkL l k i + 2) x.ss.length)) := fun i y hi hx => by
        obtain ⟨d2, d3⟩ := D1.out i y hi hx
        obtain ⟨md, n1, n2, u1, u2⟩ := HAT.out i y hx
        have := HPJ.out i hi
        exact ⟨d2.out u1 ho2 (by omega), d3.out u2 ho2 (by omega)⟩
      have T2' := kide (T2.out.out ho2 (.inr (Nat.le_refl _)))
      have H2 := kide hh2
      have O2 := kide (O1.out.trans (ho2.wide pe1 (by omega)))
      have C2 := kide (markTn_tt mid (p j).2 x.ts.length x.tc K3 x.ta x.ts w2 T2'.out s2 rfl s4 (by omega))
      rw [← HST.out] at C2
      clear hh2 ho2 q3' C1 L1 D1 R1 O1 T2 q2 q3
      go_wp2_with fail
      refine Calls.mono C2.out ?_
      rintro e w3 ⟨rfl, hh3, ho3⟩
      have R3 : Hid (w3.rowIs G 68 N f1) := rowIs_out R2.out ho3 (by have := HEX.out j x GX.out; omega)
      have L3 : Hid (∀ i x, j + 1 ≤ i → l[i]? = some x → Lt (p i).1 (p i).2 x w3) := fun i y hi hx => (L2.out i y (by omega) hx).out ho3 (.inr (by have := HPK.out i (by omega) (List.getElem?_eq_some_iff.1 hx).1; omega))
      have D3 : Hid (∀ i y, i < j + 1 → l[i]? = some y → f1 (i * 4) = .int .i64 (mkL l k i : Int) ∧ f1 (i * 4 + 1) = .bool (((mkL l k i : Int) + 1) % 3 == 0) ∧ HeldTv w3 (.slice y.sa y.ss.length y.sc) y.ss (mkL l k i + 2) ∧ HeldTv w3 (.slice y.ta y.ts.length y.tc) y.ts (mkT y.ss (mkL l k i + 2) y.ss.length)) := fun i y hi hx => by
        by_cases hij : i = j
        · subst hij
          have e : y = x := by have h := GX.out; rw [hx] at h; cases h; rfl
          subst e
          rw [HK.out, HK2.out, HK3.out]
          exact ⟨F1.out.1, F1.out.2, H2.out.out A1.out ho3 (.inl (Nat.le_refl _)), hh3⟩
        · have hi' : i < j := by omega
          obtain ⟨d2, d3⟩ := D2.out i y hi' hx
          obtain ⟨md, n1, n2, u1, u2⟩ := HAT.out i y hx
          have := HPJ.out i hi'
          obtain ⟨c0, c1⟩ := DM.out i y hi' hx
          exact ⟨(F2.out i hij).1.trans c0, (F2.out i hij).2.trans c1, d2.out u1 ho3 (by omega), d3.out u2 ho3 (by omega)⟩
      have FF : Hid (∀ i x, l[i]? = some x → (∃ (k0 : Int) (b0 : Bool), f1 (i * 4) = .int .i64 k0 ∧ f1 (i * 4 + 1) = .bool b0) ∧ f1 (i * 4 + 2) = .slice x.sa x.ss.length x.sc ∧ f1 (i * 4 + 3) = .slice x.ta x.ts.length x.tc) := fun i y hx => by
        obtain ⟨⟨k0', b0', e0, e1⟩, e2, e3⟩ := HF.out i y hx
        refine ⟨?_, (F3.out i).1.trans e2, (F3.out i).2.trans e3⟩
        by_cases hij : i = j
        · subst hij
          exact ⟨_, _, F1.out.1, F1.out.2⟩
        · exact ⟨_, _, (F2.out i hij).1.trans e0, (F2.out i hij).2.trans e1⟩
      have O3 := kide (O2.out.trans (ho3.wide (by omega) pe3))
      clear hh3 ho3 C2 L2 D2 R2 O2 q3''
      go_wp2_with fail
      go_roundw
      case rel => exact ⟨j + 1, f1, by omega, by go_num, rfl, R3.out, FF.out, D3.out, L3.out, O3.out⟩
      case measure => simp [intOf]; omega
    · have e : j = n := by omega
      clear hout hrow hf hd hl
      go_wp2_with fail
      go_ret
      refine ⟨by rw [e]; rfl, .inr ⟨G, n, c, N, rfl, hN, f, HRW.out, fun i x hx => ?_⟩, HO.out⟩
      have hi := (List.getElem?_eq_some_iff.1 hx).1
      obtain ⟨-, e2, e3⟩ := HF.out i x hx
      obtain ⟨d0, d1, d2, d3⟩ := HD.out i x (by rw [HN.out] at hi; omega) hx
      exact ⟨d0, d1, e2, e3, d2, d3⟩

end Go.Proofs.YtofdkdaehhpgbaaGreatDoor
