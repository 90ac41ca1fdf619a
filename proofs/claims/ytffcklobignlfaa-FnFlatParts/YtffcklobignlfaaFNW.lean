/- The form of told bits: the given function. -/
import Derived.Test.YtffcklobignlfaaRX
import Derived.Test.YtffcklobignlfaaGAK
import Derived.Handy
namespace Go.Proofs.Ytffcklobignlfaa
set_option linter.unusedVariables false
set_option linter.unusedSimpArgs false
open Go.RowKit
theorem Ss.snoc {w w' : World} {B : Nat} {v v' : Value} {l : List Sg} {x : Sg} (h : Ss w B v l) (ho : OS5 w' B v' (l ++ [x])) (hg : w.grownBy w' v.ownBlock) (hx : Nw w B x.a x.ct.ws) : Ss w' B v' (l ++ [x]) := by
 refine ⟨ho, fun y hy => ?_⟩
 have hk : ∀ z : List Nat, ∀ a, Nw w B a z → Nw w' B a z := fun z a hz => hz.kept fun k cur hc => hg.block k (lt_of_block hc) (fun e => by
  obtain ⟨c9, h9⟩ := h.1.typed e.symm
  rw [hc] at h9
  cases h9)
 rcases List.mem_append.1 hy with hy | hy
 ·exact hk _ _ (h.2 y hy)
 ·simp at hy; subst hy; exact hk _ _ hx
theorem owB_form {w : World} {B : Nat} {v : Value} {bs : List Nat} (h : OwB w B v bs) : ∃ a c, v = .slice a bs.length c := by
 rcases h.2 with ⟨h1, h2⟩ | ⟨g, cap, cur, e, -⟩
 ·exact ⟨none, 0, by rw [h1, h2]⟩
 ·exact ⟨_, _, e⟩
theorem Fresh.nww {w : World} {lo : Nat} {a : Option Addr} {xs : List Nat} (h : Fresh w lo a xs) : Nw w lo a xs := by
 rcases h with ⟨h1, h2⟩ | ⟨g, h1, h2, h3⟩
 ·exact .inl ⟨h1, fun x e => by rw [h2] at e; cases e⟩
 ·exact .inr ⟨g, _, h1, h2, h3, fun i hi => u64s_get _ _ hi⟩
theorem Ss.past {w w' : World} {B B' : Nat} {v v' : Value} {l : List Sg} {bs : List Nat} (h : Ss w B v l) (h' : OwB w B' v' bs) (hg : w.grownBy w' v'.ownBlock) : Ss w' B v l := by
 have hne : ∀ (k : Nat) (cur : Array Value) (t : TypeId), w.heap[k]? = some (.cells cur t (0, 0)) → t ≠ 5 → w'.heap[k]? = w.heap[k]? := fun k cur t hc ht => hg.block k (lt_of_block hc) (fun e => by
  rcases h'.2 with ⟨rfl, -⟩ | ⟨g9, cap, cur9, rfl, -, hh, -⟩
  ·cases e
  ·cases e
   rw [hc] at hh
   cases hh
   exact ht rfl)
 refine ⟨h.1.move fun b hb => ?_, fun x hx => (h.2 x hx).kept fun k cur hc => hne k cur _ hc (by decide)⟩
 obtain ⟨cur, hc⟩ := h.1.typed hb
 exact hne b cur _ hc (by decide)
def No5 (l : List Sg) : Prop := ∀ x ∈ l, x.a = none → x.c = 0
theorem No5.snoc {l : List Sg} {x : Sg} (h : No5 l) (hx : x.a = none → x.c = 0) : No5 (l ++ [x]) := fun y hy => by
 rcases List.mem_append.1 hy with hy | hy
 ·exact h y hy
 ·simp at hy; subst hy; exact hx
set_option maxHeartbeats 4000000 in
set_option maxRecDepth 100000 in
theorem l5FormN_any (pa : Option Addr) (pc np : Nat) (ps : List Ib) (w : World) (hr : RdP w pa ps) (hn : ps.length = np) (hnp : np ≤ 4096) (hok : ∀ p ∈ ps, (p.1 < 0 → 0 ≤ p.2 ∧ p.2 ≤ 1) ∧ (¬ p.1 < 0 → 0 ≤ p.2 ∧ p.2 ≤ 4096)) :
  Calls Try.prog 17 #[.slice pa np pc] w fun e w' => ∃ v l, e = .returned (.tuple #[v, .bool (decide (l.length ≤ 2000))]) ∧ l.map Sg.ct = formB ps ∧ Ss w' w.heap.size v l ∧ Below w.heap.size w w' ∧ No5 l := by
 have HR := kide hr
 have HN := kide hn
 have HOK := kide hok
 clear hr hn hok
 go_enter Try.func17, Try.ntmps17
 go_wp2_with fail
 go_loopw [4, 5] (fun v q wr => ∃ (i : Nat) (l : List Sg), i ≤ np ∧ q = .int .i64 (i : Int) ∧ l.length ≤ i ∧ formB ps = l.map Sg.ct ++ formB (ps.drop i) ∧ Ss wr w.heap.size v l ∧ Below w.heap.size w wr ∧ No5 l) (fun _ q _ => np - (intOf q).toNat)
 case atStart => exact ⟨0, [], Nat.zero_le _, rfl, Nat.le_refl _, by simp, ⟨OS5.empty w _ (Nat.le_refl _), fun x hx => by cases hx⟩, (Below.refl _ _).alloc (Nat.le_refl _) _, fun x hx => by cases hx⟩
 case round =>
  obtain ⟨i, l, hi, rfl, hli, hfb, hss, hbel, hno⟩ := hrel
  have HNO := kide hno
  clear hno
  obtain ⟨va, vc, rfl⟩ := hss.1.form
  have HF := kide hfb
  have HS := kide hss
  have HB := kide hbel
  clear hfb hss
  generalize hll : l.length = ll at *
  have HLL := kide hll
  clear hll
  by_cases hlt : i < np
  ·obtain ⟨⟨pv, pt⟩, gp⟩ : ∃ p, ps[i]? = some p := ⟨ps[i]'(by rw [HN.out]; exact hlt), List.getElem?_eq_getElem _⟩
   obtain ⟨b2, o2, rfl, hc2⟩ : ∃ b o, pa = some ⟨b, o, none⟩ ∧ ∀ i p, ps[i]? = some p → w.cell? ⟨b, o + i * 2, none⟩ = some (.int .i64 p.1) ∧ w.cell? ⟨b, o + i * 2 + 1, none⟩ = some (.int .i64 p.2) := by
    rcases HR.out.2 with h | h
    ·rw [h] at gp; simp at gp
    ·exact h
   have HC := kide hc2
   obtain ⟨p0, p1⟩ := hc2 i _ gp
   simp only at p0 p1
   have lb2 := block_lt_of_cell p0
   simp only at lb2
   have d0 := (hbel.cell (p := ⟨b2, o2 + i * 2, none⟩) lb2).trans p0
   have d1 := (hbel.cell (p := ⟨b2, o2 + i * 2 + 1, none⟩) lb2).trans p1
   have hopp := HOK.out _ (List.mem_of_getElem? gp)
   have HGP := kide gp
   have i0 : (i : Int) < (np : Int) := by omega
   by_cases hv : pv < 0
   ·obtain ⟨ht0, ht1⟩ := hopp.1 hv
    simp only at ht0 ht1
    obtain ⟨y, rfl⟩ := Int.eq_ofNat_of_zero_le ht0
    have hwy : IntKind.u8.wrap (y : Int) = (y : Int) := by rw [IntKind.wrap_u8]; omega
    have hbx : Below wr.heap.size wr (wr.alloc (Obj.cells #[.int .u8 (y : Int)] 5)) := (Below.refl _ _).alloc (Nat.le_refl _) _
    have S1 := kide (HS.out.later hbx)
    have B1 := kide (HB.out.trans (hbx.mono HB.out.size))
    have L1 : Hid (OwB (wr.alloc (Obj.cells #[.int .u8 (y : Int)] 5)) w.heap.size (.slice (some ⟨wr.heap.size, 0, none⟩) 1 1) [y]) := ⟨by simp [u8s], .inr ⟨wr.heap.size, 1, #[.int .u8 (y : Int)], rfl, HB.out.size, Bz.new _ _ _, by simp, by unfold maxLen; omega, by simp, by simp [u8s]⟩⟩
    clear hc2 gp hbx HS HB hbel hopp p0 p1 ht0
    go_wp2_with fail
    generalize wr.alloc (Obj.cells #[.int .u8 (y : Int)] 5) = w1 at *
    go_loopw [6, 7] (fun q v9 u => ∃ k : Nat, i < k ∧ k ≤ np ∧ q = .int .i64 (k : Int) ∧ OwB u w.heap.size v9 (((ps.drop i).take (k - i)).map fun p => p.2.toNat) ∧ runC (ps.drop (i + 1)) = k - (i + 1) + runC (ps.drop k) ∧ (∀ p ∈ (ps.drop i).take (k - i), p.1 < 0) ∧ Ss u w.heap.size (.slice va ll vc) l ∧ Below w.heap.size w u) (fun q _ _ => np - (intOf q).toNat)
    case atStart =>
     have e1 : (ps.drop i).take 1 = [(pv, (y : Int))] := by
      rw [List.take_one, List.head?_drop, HGP.out]; rfl
     refine ⟨i + 1, by omega, by omega, by go_num, ?_, by omega, ?_, S1.out, B1.out⟩
     ·rw [show i + 1 - i = 1 by omega, e1]
      exact L1.out
     ·rw [show i + 1 - i = 1 by omega, e1]
      intro p hp
      simp at hp
      subst hp
      exact hv
    case round =>
     obtain ⟨k, hik, hkn, rfl, hlst, hrun, hneg, hss, hbel⟩ := hrel
     clear S1 B1 L1 d0 d1
     by_cases hgo : k < np ∧ ∃ q : Ib, ps[k]? = some q ∧ q.1 < 0
     ·obtain ⟨hk, ⟨qv, qt⟩, gq, hq⟩ := hgo
      simp only at hq
      obtain ⟨z0, z1⟩ := HC.out k _ gq
      simp only at z0 z1
      have d0 := (hbel.cell (p := ⟨b2, o2 + k * 2, none⟩) lb2).trans z0
      have d1 := (hbel.cell (p := ⟨b2, o2 + k * 2 + 1, none⟩) lb2).trans z1
      obtain ⟨ht0, ht2⟩ := (HOK.out _ (List.mem_of_getElem? gq)).1 hq
      simp only at ht0 ht2
      obtain ⟨z, rfl⟩ := Int.eq_ofNat_of_zero_le ht0
      have hwz : IntKind.u8.wrap (z : Int) = (z : Int) := by rw [IntKind.wrap_u8]; omega
      have hrd := runC_drop gq
      rw [if_pos (by exact hq)] at hrd
      have HTS := kide (take_step (ps := ps) (i := i) (by omega) gq)
      have hlen : ((ps.drop i).take (k - i)).length = k - i := by rw [List.length_take, List.length_drop]; have := HN.out; omega
      have HNG := kide hneg
      have k0 : (k : Int) < (np : Int) := by omega
      have HRU := kide (show runC (ps.drop (i + 1)) = k + 1 - (i + 1) + runC (ps.drop (k + 1)) by omega)
      generalize hTK : (ps.drop i).take (k - i) = TK at *
      obtain ⟨LB, hLB⟩ : ∃ LB, TK.map (fun p => p.2.toNat) = LB := ⟨_, rfl⟩
      have hlb : LB.length ≤ 4194304 := by rw [← hLB, List.length_map]; omega
      rw [hLB] at hlst
      have HLB := kide hLB
      have hbx : Below wr.heap.size wr (wr.alloc (Obj.cells #[.int .u8 (z : Int)] 5)) := (Below.refl _ _).alloc (Nat.le_refl _) _
      have L2 := kide (hlst.kept hbx)
      have S2 := kide (hss.later hbx)
      have B2 := kide (hbel.trans (hbx.mono hbel.size))
      have XN := kide (Bz.new wr #[.int .u8 (z : Int)] 5)
      obtain ⟨la, lc, hlv⟩ := owB_form hlst
      subst hlv
      clear hbx hlst hss hbel z0 z1 hTK hLB hneg hrun hrd ht0 hlen gq
      go_wp2_with (at_builtin; refine wpList_appB _ rfl _ _ rfl w.heap.size _ LB z rfl L2.out wr.heap.size rfl (XN.out.cell 0) hlb B2.out.size ?_)
      intro v8 w8 hl8 hg8
      have B3 := kide (Below.grown B2.out hg8 B2.out.size (fun j hj => L2.out.own j hj))
      have S3 : Hid (Ss w8 w.heap.size (.slice va ll vc) l) := S2.out.past L2.out hg8
      have L3 := kide hl8
      clear hl8 hg8
      go_wp2_with fail
      go_roundw
      case rel =>
       refine ⟨k + 1, by omega, by omega, by go_num, ?_, HRU.out, ?_, S3.out, B3.out⟩
       ·rw [HTS.out, List.map_append, HLB.out]
        exact L3.out
       ·rw [HTS.out]
        intro p hp
        rcases List.mem_append.1 hp with hp | hp
        ·exact HNG.out p hp
        ·simp at hp; subst hp; exact hq
      case measure => simp [intOf]; omega
     ·have hz : runC (ps.drop k) = 0 := by
       by_cases hk : k < np
       ·obtain ⟨q, gq⟩ : ∃ q, ps[k]? = some q := ⟨ps[k]'(by rw [HN.out]; exact hk), List.getElem?_eq_getElem _⟩
        rw [runC_drop gq, if_neg (fun hq => hgo ⟨hk, q, gq, hq⟩)]
       ·rw [List.drop_eq_nil_of_le (by have := HN.out; omega)]; rfl
      have HST := kide (formB_C (k := k) HGP.out (by exact hv) (by omega))
      have hlen : ((ps.drop i).take (k - i)).length = k - i := by rw [List.length_take, List.length_drop]; have := HN.out; omega
      have HSEG : Hid (segC ((ps.drop i).take (k - i)) = ⟨-1, 0, ((k - i : Nat) : Int), ((k - i : Nat) : Int), pack (((ps.drop i).take (k - i)).map fun p => p.2.toNat)⟩) := by
       show _ = _
       rw [segC, hlen]
      have hb1 : ∀ x ∈ ((ps.drop i).take (k - i)).map (fun p : Ib => p.2.toNat), x < 256 := by
       intro x hx
       obtain ⟨p, hp, rfl⟩ := List.mem_map.1 hx
       have := (HOK.out p (List.mem_of_mem_drop (List.mem_of_mem_take hp))).1 (hneg p hp)
       omega
      have hll : (((ps.drop i).take (k - i)).map fun p : Ib => p.2.toNat).length = k - i := by rw [List.length_map, hlen]
      generalize ((ps.drop i).take (k - i)).map (fun p : Ib => p.2.toNat) = LB at *
      generalize hnl : k - i = nl at *
      obtain ⟨la, lc, rfl, hrd, -⟩ := hlst.shape (by omega) hb1
      have hfr := l1From_yes la lc LB wr hrd (by omega) (by omega)
      rw [hll] at hfr ⊢
      have HFR := kide hfr
      have HSS := kide hss
      have HBB := kide hbel
      have hkq : k < np → ∃ q : Ib, ps[k]? = some q ∧ ¬ q.1 < 0 ∧ wr.cell? ⟨b2, o2 + k * 2, none⟩ = some (.int .i64 q.1) := fun hk => by
       obtain ⟨q, gq⟩ : ∃ q, ps[k]? = some q := ⟨ps[k]'(by rw [HN.out]; exact hk), List.getElem?_eq_getElem _⟩
       exact ⟨q, gq, fun hq => hgo ⟨hk, q, gq, hq⟩, (hbel.cell (p := ⟨b2, o2 + k * 2, none⟩) lb2).trans (HC.out k _ gq).1⟩
      have HPK : Hid (pack LB ≠ []) := fun e => by
       have h9 := congrArg List.length e
       rw [pack_len, hll] at h9
       simp at h9
       omega
      clear hgo hneg hrun hlst hss hbel hrd hfr hz hb1 hlen hll
      by_cases hk : k < np
      ·obtain ⟨⟨qv, qt⟩, -, hq, d0⟩ := hkq hk
       simp only at hq d0
       have k0 : (k : Int) < (np : Int) := by omega
       go_wp2_with fail
       refine Calls.mono HFR.out ?_
       rintro e w5 ⟨a9, c9, rfl, hf9, hb9⟩
       dsimp only at hf9 ⊢
       have hb6 : Below w5.heap.size w5 (w5.alloc (Obj.cells #[.int .i64 (nl : Int), .slice a9 (pack LB).length c9] 32)) := (Below.refl _ _).alloc (Nat.le_refl _) _
       have hb7 : Below (w5.alloc (Obj.cells #[.int .i64 (nl : Int), .slice a9 (pack LB).length c9] 32)).heap.size (w5.alloc (Obj.cells #[.int .i64 (nl : Int), .slice a9 (pack LB).length c9] 32)) ((w5.alloc (Obj.cells #[.int .i64 (nl : Int), .slice a9 (pack LB).length c9] 32)).alloc (Obj.cells #[.int .i64 (-1), .int .i64 0, .int .i64 (nl : Int), .int .i64 (nl : Int), .slice a9 (pack LB).length c9] 34)) := (Below.refl _ _).alloc (Nat.le_refl _) _
       have S7 := kide (((HSS.out.later hb9).later hb6).later hb7)
       have NOX : Hid (a9 = none → c9 = 0) := fun e => by
        rcases hf9 with ⟨h1, -⟩ | ⟨g, h1, -⟩
        ·exact absurd h1 HPK.out
        ·rw [h1] at e; cases e
       have N7 := kide ((((Fresh.nww hf9).later hb6).later hb7).mono (lo' := w.heap.size) HBB.out.size)
       have B5 := HBB.out.trans (hb9.mono HBB.out.size)
       have B6 := B5.trans (hb6.mono B5.size)
       have B7 := kide (B6.trans (hb7.mono B6.size))
       have X7 := kide (Bz.new (w5.alloc (Obj.cells #[.int .i64 (nl : Int), .slice a9 (pack LB).length c9] 32)) #[.int .i64 (-1), .int .i64 0, .int .i64 (nl : Int), .int .i64 (nl : Int), .slice a9 (pack LB).length c9] 34)
       rw [show (w5.alloc (Obj.cells #[.int .i64 (nl : Int), .slice a9 (pack LB).length c9] 32)).heap.size = w5.heap.size + 1 by simp] at X7
       clear hb6 hb7 hb9 hf9 B5 B6 HFR
       generalize hpl : (pack LB).length = pl at *
       have HPL := kide hpl
       clear hpl
       go_wp2_with (at_builtin; refine wpList_appS5 rfl _ _ rfl w.heap.size _ l ⟨⟨-1, 0, (nl : Int), (nl : Int), pack LB⟩, a9, c9⟩ rfl S7.out.1 (w5.heap.size + 1) 1 rfl (X7.out.cell 0) (X7.out.cell 1) (X7.out.cell 2) (X7.out.cell 3) ((X7.out.cell 4).trans (by simp only [HPL.out]; rfl)) (by have := HLL.out; omega) B7.out.size ?_)
       intro g8 c8 w8 ho8 hg8
       have B8 := kide (Below.grown B7.out hg8 B7.out.size (fun j hj => (S7.out.1.lt hj).1))
       have S8 := kide (S7.out.snoc ho8 hg8 N7.out)
       clear ho8 hg8
       go_wp2_with fail
       go_roundw
       case rel => exact ⟨k, l ++ [⟨⟨-1, 0, (nl : Int), (nl : Int), pack LB⟩, a9, c9⟩], by omega, by go_num, by rw [List.length_append, HLL.out]; simp; omega, by rw [HF.out, HST.out, List.map_append, HSEG.out]; simp, S8.out, B8.out, HNO.out.snoc NOX.out⟩
       case measure => simp [intOf]; omega
      ·clear hkq
       have k0 : ¬ (k : Int) < (np : Int) := by omega
       go_wp2_with fail
       refine Calls.mono HFR.out ?_
       rintro e w5 ⟨a9, c9, rfl, hf9, hb9⟩
       dsimp only at hf9 ⊢
       have hb6 : Below w5.heap.size w5 (w5.alloc (Obj.cells #[.int .i64 (nl : Int), .slice a9 (pack LB).length c9] 32)) := (Below.refl _ _).alloc (Nat.le_refl _) _
       have hb7 : Below (w5.alloc (Obj.cells #[.int .i64 (nl : Int), .slice a9 (pack LB).length c9] 32)).heap.size (w5.alloc (Obj.cells #[.int .i64 (nl : Int), .slice a9 (pack LB).length c9] 32)) ((w5.alloc (Obj.cells #[.int .i64 (nl : Int), .slice a9 (pack LB).length c9] 32)).alloc (Obj.cells #[.int .i64 (-1), .int .i64 0, .int .i64 (nl : Int), .int .i64 (nl : Int), .slice a9 (pack LB).length c9] 34)) := (Below.refl _ _).alloc (Nat.le_refl _) _
       have S7 := kide (((HSS.out.later hb9).later hb6).later hb7)
       have NOX : Hid (a9 = none → c9 = 0) := fun e => by
        rcases hf9 with ⟨h1, -⟩ | ⟨g, h1, -⟩
        ·exact absurd h1 HPK.out
        ·rw [h1] at e; cases e
       have N7 := kide ((((Fresh.nww hf9).later hb6).later hb7).mono (lo' := w.heap.size) HBB.out.size)
       have B5 := HBB.out.trans (hb9.mono HBB.out.size)
       have B6 := B5.trans (hb6.mono B5.size)
       have B7 := kide (B6.trans (hb7.mono B6.size))
       have X7 := kide (Bz.new (w5.alloc (Obj.cells #[.int .i64 (nl : Int), .slice a9 (pack LB).length c9] 32)) #[.int .i64 (-1), .int .i64 0, .int .i64 (nl : Int), .int .i64 (nl : Int), .slice a9 (pack LB).length c9] 34)
       rw [show (w5.alloc (Obj.cells #[.int .i64 (nl : Int), .slice a9 (pack LB).length c9] 32)).heap.size = w5.heap.size + 1 by simp] at X7
       clear hb6 hb7 hb9 hf9 B5 B6 HFR
       generalize hpl : (pack LB).length = pl at *
       have HPL := kide hpl
       clear hpl
       go_wp2_with (at_builtin; refine wpList_appS5 rfl _ _ rfl w.heap.size _ l ⟨⟨-1, 0, (nl : Int), (nl : Int), pack LB⟩, a9, c9⟩ rfl S7.out.1 (w5.heap.size + 1) 1 rfl (X7.out.cell 0) (X7.out.cell 1) (X7.out.cell 2) (X7.out.cell 3) ((X7.out.cell 4).trans (by simp only [HPL.out]; rfl)) (by have := HLL.out; omega) B7.out.size ?_)
       intro g8 c8 w8 ho8 hg8
       have B8 := kide (Below.grown B7.out hg8 B7.out.size (fun j hj => (S7.out.1.lt hj).1))
       have S8 := kide (S7.out.snoc ho8 hg8 N7.out)
       clear ho8 hg8
       go_wp2_with fail
       go_roundw
       case rel => exact ⟨k, l ++ [⟨⟨-1, 0, (nl : Int), (nl : Int), pack LB⟩, a9, c9⟩], by omega, by go_num, by rw [List.length_append, HLL.out]; simp; omega, by rw [HF.out, HST.out, List.map_append, HSEG.out]; simp, S8.out, B8.out, HNO.out.snoc NOX.out⟩
       case measure => simp [intOf]; omega
   ·obtain ⟨ht0, ht1⟩ := hopp.2 (by simp only; omega)
    simp only at ht0 ht1
    clear hc2 hopp p0 p1
    go_wp2_with fail
    have HPB : Hid (∀ p ∈ ps, -1 ≤ p.2 ∧ p.2 ≤ 4096) := fun p hp => by
     have h9 := HOK.out p hp
     by_cases e : p.1 < 0
     ·have := h9.1 e; omega
     ·have := h9.2 (by omega); omega
    have hpv : ¬ pv < 0 := by omega
    go_loopw [6] (fun q u => ∃ (k : Nat) (rt : Int), i < k ∧ k ≤ np ∧ q = .int .i64 (k : Int) ∧ ps[k - 1]? = some (pv, rt) ∧ runV (pv, pt) (ps.drop (i + 1)) = k - (i + 1) + runV (pv, rt) (ps.drop k) ∧ Ss u w.heap.size (.slice va ll vc) l ∧ Below w.heap.size w u) (fun q _ => np - (intOf q).toNat)
    case atStart => exact ⟨i + 1, pt, by omega, by omega, by go_num, by rw [Nat.add_sub_cancel]; exact HGP.out, by omega, HS.out, HB.out⟩
    case round =>
     clear HS HB hbel d0 d1
     obtain ⟨k, rt, hik, hkn, rfl, hrk, hrun, hss, hbel⟩ := hrel
     obtain ⟨j, rfl⟩ : ∃ j, k = j + 1 := ⟨k - 1, by omega⟩
     rw [Nat.add_sub_cancel] at hrk
     have HSS := kide hss
     have HBB := kide hbel
     have d0 := (hbel.cell (p := ⟨b2, o2 + i * 2, none⟩) lb2).trans (HC.out i _ HGP.out).1
     have d1 := (hbel.cell (p := ⟨b2, o2 + i * 2 + 1, none⟩) lb2).trans (HC.out i _ HGP.out).2
     have g1 := (hbel.cell (p := ⟨b2, o2 + j * 2 + 1, none⟩) lb2).trans (HC.out j _ hrk).2
     have hrt := HPB.out _ (List.mem_of_getElem? hrk)
     obtain ⟨K, hK⟩ : ∃ K : Nat, j + 1 = K := ⟨_, rfl⟩
     simp only at d0 d1 g1 hrt
     have hjK : (K : Int) - 1 = (j : Int) := by omega
     have hjw : IntKind.i64.wrap (j : Int) = (j : Int) := by rw [IntKind.wrap_i64]; first | omega | (unfold wrap64; omega)
     have hrw : IntKind.i64.wrap (rt + 1) = rt + 1 := by rw [IntKind.wrap_i64]; first | omega | (unfold wrap64; omega)
     have hjn : (j : Int) < (np : Int) := by omega
     have hin : (i : Int) < (np : Int) := by omega
     rw [hK] at hik hkn hrun ⊢
     have HK := kide hK
     have HRK := kide hrk
     have HRUN := kide hrun
     clear hK hss hbel hrk hrun
     by_cases hk : K < np
     ·obtain ⟨⟨qv, qt⟩, gq⟩ : ∃ q, ps[K]? = some q := ⟨ps[K]'(by rw [HN.out]; exact hk), List.getElem?_eq_getElem _⟩
      have f0 := (HBB.out.cell (p := ⟨b2, o2 + K * 2, none⟩) lb2).trans (HC.out K _ gq).1
      have f1 := (HBB.out.cell (p := ⟨b2, o2 + K * 2 + 1, none⟩) lb2).trans (HC.out K _ gq).2
      simp only at f0 f1
      have k0 : (K : Int) < (np : Int) := by omega
      have HD := kide (runV_drop (p := (pv, rt)) gq)
      have HGQ := kide gq
      clear gq
      by_cases hq : qv = pv ∧ qt = rt + 1
      ·obtain ⟨rfl, rfl⟩ := hq
       have e1 : (qv == qv) = true := by simp
       have e2 : (rt + 1 == rt + 1) = true := by simp
       have HR2 : Hid (runV (qv, pt) (ps.drop (i + 1)) = K + 1 - (i + 1) + runV (qv, rt + 1) (ps.drop (K + 1))) := by
        have h1 := HRUN.out
        have h2 := HD.out
        rw [if_pos ⟨rfl, rfl⟩] at h2
        show _ = _
        rw [h1, h2]
        have := HK.out
        omega
       clear HD HRUN
       go_wp2_with fail
       go_quiet (fail)
       have hbd := below_drewN (Below.refl wr.heap.size wr) nq
       have HS3 := kide (HSS.out.later hbd)
       have HB3 := kide (HBB.out.trans (hbd.mono HBB.out.size))
       clear hbd
       generalize wr.drewN nq = w3 at *
       go_wp2_with fail
       go_roundw
       case rel => exact ⟨K + 1, rt + 1, by omega, by omega, by go_num, by rw [Nat.add_sub_cancel]; exact HGQ.out, HR2.out, HS3.out, HB3.out⟩
       case measure => simp [intOf]; omega
      ·have HZ : Hid (runV (pv, rt) (ps.drop K) = 0) := by
        show _ = _
        rw [HD.out, if_neg hq]
       by_cases hqv : qv = pv
       ·have e1 : (qv == pv) = true := by simp [hqv]
        have e2 : (qt == rt + 1) = false := beq_eq_false_iff_ne.2 (fun h9 => hq ⟨hqv, h9⟩)
        clear HD hq hqv
        go_wp2_with fail
        go_quiet (fail)
        have hbd := below_drewN (Below.refl wr.heap.size wr) nq
        have HS3 := kide (HSS.out.later hbd)
        have HB3 := kide (HBB.out.trans (hbd.mono HBB.out.size))
        clear hbd
        generalize wr.drewN nq = w3 at *
        go_wp2_with fail
        obtain ⟨M, hM⟩ : ∃ M : Nat, K = i + M := ⟨K - i, by omega⟩
        have hKi : (K : Int) - (i : Int) = (M : Int) := by omega
        have hMw : IntKind.i64.wrap (M : Int) = (M : Int) := by rw [IntKind.wrap_i64]; first | omega | (unfold wrap64; omega)
        have HFV : Hid (formB (ps.drop i) = segV (pv, pt) M :: formB (ps.drop K)) := by
         have h9 := formB_V (k := K) HGP.out (by simp only []; omega) (by have h1 := HRUN.out; have h2 := HZ.out; rw [h2] at h1; rw [h1]; omega)
         rw [show K - i = M by omega] at h9
         exact h9
        have HC0 := kide (HC.out i _ HGP.out).1
        have HC1 := kide (HC.out i _ HGP.out).2
        clear hM HRUN HZ
        refine wp_region_x (SA := fun _ => False) (SB := fun uu => uu.cell? ⟨b2, o2 + i * 2, none⟩ = some (Value.int .i64 pv) ∧ uu.cell? ⟨b2, o2 + i * 2 + 1, none⟩ = some (Value.int .i64 pt)) (k := 999) (by kernel_rfl) ?_
        have hbd : Below w3.heap.size w3 w3.drew := (Below.refl _ _).drew
        have SS_0 := kide (HS3.out.later hbd)
        have BB_0 := kide (HB3.out.trans (hbd.mono HB3.out.size))
        clear hbd HS3 HB3
        generalize w3.drew = u0 at *
        have c0_0 : u0.cell? ⟨b2, o2 + i * 2, none⟩ = some (Value.int .i64 pv) := (BB_0.out.cell (p := ⟨b2, o2 + i * 2, none⟩) lb2).trans HC0.out
        have c1_0 : u0.cell? ⟨b2, o2 + i * 2 + 1, none⟩ = some (Value.int .i64 pt) := (BB_0.out.cell (p := ⟨b2, o2 + i * 2 + 1, none⟩) lb2).trans HC1.out
        have hs0 : Hid ((fun uu => uu.cell? ⟨b2, o2 + i * 2, none⟩ = some (Value.int .i64 pv) ∧ uu.cell? ⟨b2, o2 + i * 2 + 1, none⟩ = some (Value.int .i64 pt)) u0) := ⟨c0_0, c1_0⟩
        try go_simp
        refine tkB (T := (fun _ => True)) (i := 0) (v := Value.slice va ll vc) rfl (by kernel_rfl) (fun _ _ _ h => by first | exact h | exact h.elim) (fun _ _ => trivial) (fun _ _ => trivial) (Sx.behind (by kernel_rfl) hs0.out) (Or.inl ⟨by rfl, fun uu hu => by go_simp⟩) ?_
        try go_simp
        refine tkB (T := (fun _ => True)) (i := 1) (v := Value.slice (some ⟨b2, o2, none⟩) np pc) rfl (by kernel_rfl) (fun _ _ _ h => by first | exact h | exact h.elim) (fun _ _ => trivial) (fun _ _ => trivial) (Sx.behind (by kernel_rfl) hs0.out) (Or.inl ⟨by rfl, fun uu hu => by go_simp⟩) ?_
        try go_simp
        refine tkB (T := (fun _ => True)) (i := 2) (v := Value.int .i64 (i : Int)) rfl (by kernel_rfl) (fun _ _ _ h => by first | exact h | exact h.elim) (fun _ _ => trivial) (fun _ _ => trivial) (Sx.behind (by kernel_rfl) hs0.out) (Or.inl ⟨by rfl, fun uu hu => by go_simp⟩) ?_
        try go_simp
        refine tkB (T := (fun _ => True)) (i := 3) (v := Value.pointer (some ⟨b2, o2 + i * 2, none⟩)) rfl (by kernel_rfl) (fun _ _ _ h => by first | exact h | exact h.elim) (fun _ _ => trivial) (fun _ _ => trivial) (Sx.behind (by kernel_rfl) hs0.out) (Or.inl ⟨by rfl, fun uu hu => by go_simp⟩) ?_
        try go_simp
        refine tkB (T := (fun _ => True)) (i := 4) (v := Value.pointer (some ⟨b2, o2 + i * 2, none⟩)) rfl (by kernel_rfl) (fun _ _ _ h => by first | exact h | exact h.elim) (fun _ _ => trivial) (fun _ _ => trivial) (Sx.behind (by kernel_rfl) hs0.out) (Or.inl ⟨by rfl, fun uu hu => by go_simp⟩) ?_
        try go_simp
        refine tkB (T := (fun uu => uu.cell? ⟨b2, o2 + i * 2, none⟩ = some (Value.int .i64 pv) ∧ uu.cell? ⟨b2, o2 + i * 2 + 1, none⟩ = some (Value.int .i64 pt))) (i := 5) (v := Value.int .i64 pv) rfl (by kernel_rfl) (fun _ _ _ h => by first | exact h | exact h.elim) (fun _ h => h.elim) (fun _ h => h) (Sx.behind (by kernel_rfl) hs0.out) (Or.inl ⟨by rfl, fun uu hu => by obtain ⟨e0, e1⟩ := hu; go_simp⟩) ?_
        try go_simp
        refine tkB (T := (fun _ => True)) (i := 6) (v := Value.slice (some ⟨b2, o2, none⟩) np pc) rfl (by kernel_rfl) (fun _ _ _ h => by first | exact h | exact h.elim) (fun _ _ => trivial) (fun _ _ => trivial) (Sx.behind (by kernel_rfl) hs0.out) (Or.inl ⟨by rfl, fun uu hu => by go_simp⟩) ?_
        try go_simp
        refine tkB (T := (fun _ => True)) (i := 7) (v := Value.int .i64 (i : Int)) rfl (by kernel_rfl) (fun _ _ _ h => by first | exact h | exact h.elim) (fun _ _ => trivial) (fun _ _ => trivial) (Sx.behind (by kernel_rfl) hs0.out) (Or.inl ⟨by rfl, fun uu hu => by go_simp⟩) ?_
        try go_simp
        refine tkB (T := (fun _ => True)) (i := 8) (v := Value.pointer (some ⟨b2, o2 + i * 2, none⟩)) rfl (by kernel_rfl) (fun _ _ _ h => by first | exact h | exact h.elim) (fun _ _ => trivial) (fun _ _ => trivial) (Sx.behind (by kernel_rfl) hs0.out) (Or.inl ⟨by rfl, fun uu hu => by go_simp⟩) ?_
        try go_simp
        refine tkB (T := (fun _ => True)) (i := 9) (v := Value.pointer (some ⟨b2, o2 + i * 2 + 1, none⟩)) rfl (by kernel_rfl) (fun _ _ _ h => by first | exact h | exact h.elim) (fun _ _ => trivial) (fun _ _ => trivial) (Sx.behind (by kernel_rfl) hs0.out) (Or.inl ⟨by rfl, fun uu hu => by go_simp⟩) ?_
        try go_simp
        refine tkB (T := (fun uu => uu.cell? ⟨b2, o2 + i * 2, none⟩ = some (Value.int .i64 pv) ∧ uu.cell? ⟨b2, o2 + i * 2 + 1, none⟩ = some (Value.int .i64 pt))) (i := 10) (v := Value.int .i64 pt) rfl (by kernel_rfl) (fun _ _ _ h => by first | exact h | exact h.elim) (fun _ h => h.elim) (fun _ h => h) (Sx.behind (by kernel_rfl) hs0.out) (Or.inl ⟨by rfl, fun uu hu => by obtain ⟨e0, e1⟩ := hu; go_simp⟩) ?_
        try go_simp
        refine tkB (T := (fun _ => True)) (i := 11) (v := Value.int .i64 (K : Int)) rfl (by kernel_rfl) (fun _ _ _ h => by first | exact h | exact h.elim) (fun _ _ => trivial) (fun _ _ => trivial) (Sx.behind (by kernel_rfl) hs0.out) (Or.inl ⟨by rfl, fun uu hu => by go_simp⟩) ?_
        try go_simp
        refine tkB (T := (fun _ => True)) (i := 12) (v := Value.int .i64 (i : Int)) rfl (by kernel_rfl) (fun _ _ _ h => by first | exact h | exact h.elim) (fun _ _ => trivial) (fun _ _ => trivial) (Sx.behind (by kernel_rfl) hs0.out) (Or.inl ⟨by rfl, fun uu hu => by go_simp⟩) ?_
        try go_simp
        refine tkB (T := (fun _ => True)) (i := 13) (v := Value.int .i64 (M : Int)) rfl (by kernel_rfl) (fun _ _ _ h => by first | exact h | exact h.elim) (fun _ _ => trivial) (fun _ _ => trivial) (Sx.behind (by kernel_rfl) hs0.out) (Or.inl ⟨by rfl, fun uu hu => by go_simp; first | done | (rw [hKi]; exact hMw) | rw [hKi, hMw]⟩) ?_
        try go_simp
        refine tkB (T := (fun _ => True)) (i := 14) (v := Value.agg #[.int .i64 pv, .int .i64 pt, .int .i64 ((M : Nat) : Int), .int .i64 0, .slice none 0 0]) rfl (by kernel_rfl) (fun _ _ _ h => by first | exact h | exact h.elim) (fun _ _ => trivial) (fun _ _ => trivial) (Sx.behind (by kernel_rfl) hs0.out) (Or.inl ⟨by rfl, fun uu hu => by go_simp⟩) ?_
        try go_simp
        refine wpAnyX_ready (rs := [15]) (by kernel_rfl) (by simp) (AllX.cons rfl (fun K hK => ?_) AllX.nil)
        go_simp
        have hbx : Below u0.heap.size u0 (u0.alloc (Obj.cells #[.int .i64 pv, .int .i64 pt, .int .i64 ((M : Nat) : Int), .int .i64 0, .slice none 0 0] 34)) := (Below.refl _ _).alloc (Nat.le_refl _) _
        have SS_1 := kide (SS_0.out.later hbx)
        have BB_1 := kide (BB_0.out.trans (hbx.mono BB_0.out.size))
        have XN := kide (Bz.new u0 #[.int .i64 pv, .int .i64 pt, .int .i64 ((M : Nat) : Int), .int .i64 0, .slice none 0 0] 34)
        obtain ⟨gn, hgn⟩ : ∃ z, u0.heap.size = z := ⟨_, rfl⟩
        rw [hgn] at XN
        simp only [hgn]
        clear hgn hbx
        generalize u0.alloc (Obj.cells #[.int .i64 pv, .int .i64 pt, .int .i64 ((M : Nat) : Int), .int .i64 0, .slice none 0 0] 34) = u1 at *
        have c0_1 : u1.cell? ⟨b2, o2 + i * 2, none⟩ = some (Value.int .i64 pv) := (BB_1.out.cell (p := ⟨b2, o2 + i * 2, none⟩) lb2).trans HC0.out
        have c1_1 : u1.cell? ⟨b2, o2 + i * 2 + 1, none⟩ = some (Value.int .i64 pt) := (BB_1.out.cell (p := ⟨b2, o2 + i * 2 + 1, none⟩) lb2).trans HC1.out
        have hs1 : Hid ((fun uu => uu.cell? ⟨b2, o2 + i * 2, none⟩ = some (Value.int .i64 pv) ∧ uu.cell? ⟨b2, o2 + i * 2 + 1, none⟩ = some (Value.int .i64 pt)) u1) := ⟨c0_1, c1_1⟩
        refine hK _ _ (Sx.behind (by kernel_rfl) hs1.out) ?_
        clear hK K
        try go_simp
        refine wpAnyX_ready (rs := [16]) (by kernel_rfl) (by simp) (AllX.cons rfl (fun K hK => ?_) AllX.nil)
        refine step_appS5 _ rfl _ _ rfl w.heap.size (Value.slice va ll vc) l ⟨⟨pv, pt, (M : Int), 0, []⟩, none, 0⟩ (by first | rfl | simp [Act.eval]) SS_1.out.1 gn 1 (by first | rfl | simp [Act.eval]) (XN.out.cell 0) (XN.out.cell 1) (XN.out.cell 2) (XN.out.cell 3) (XN.out.cell 4) (by have := HLL.out; omega) BB_1.out.size ?_
        intro g9 c9 u2 ho9 hg9
        have SS_2 := kide (SS_1.out.snoc ho9 hg9 (.inl ⟨rfl, fun x e => by cases e⟩))
        have BB_2 := kide (Below.grown BB_1.out hg9 BB_1.out.size (fun j hj => (SS_1.out.1.lt hj).1))
        rw [HLL.out] at SS_2
        simp only [HLL.out]
        clear ho9 hg9
        have c0_2 : u2.cell? ⟨b2, o2 + i * 2, none⟩ = some (Value.int .i64 pv) := (BB_2.out.cell (p := ⟨b2, o2 + i * 2, none⟩) lb2).trans HC0.out
        have c1_2 : u2.cell? ⟨b2, o2 + i * 2 + 1, none⟩ = some (Value.int .i64 pt) := (BB_2.out.cell (p := ⟨b2, o2 + i * 2 + 1, none⟩) lb2).trans HC1.out
        have hs2 : Hid ((fun uu => uu.cell? ⟨b2, o2 + i * 2, none⟩ = some (Value.int .i64 pv) ∧ uu.cell? ⟨b2, o2 + i * 2 + 1, none⟩ = some (Value.int .i64 pt)) u2) := ⟨c0_2, c1_2⟩
        refine hK _ _ (Sx.behind (by kernel_rfl) hs2.out) ?_
        clear hK K
        try go_simp
        refine tkB (T := (fun _ => True)) (i := 17) (v := Value.slice (some ⟨g9, 0, none⟩) (ll + 1) c9) rfl (by kernel_rfl) (fun _ _ _ h => by first | exact h | exact h.elim) (fun _ _ => trivial) (fun _ _ => trivial) (Sx.behind (by kernel_rfl) hs2.out) (Or.inl ⟨by rfl, fun uu hu => by go_simp⟩) ?_
        try go_simp
        refine wpAnyX_done (by kernel_rfl) ?_ _
        go_wp2_with fail
        go_roundw
        case rel => exact ⟨K, l ++ [⟨⟨pv, pt, (M : Int), 0, []⟩, none, 0⟩], by omega, rfl, by rw [List.length_append, HLL.out]; simp; omega, by rw [HF.out, HFV.out, List.map_append]; simp [segV], SS_2.out, BB_2.out, HNO.out.snoc (fun _ => rfl)⟩
        case measure => simp [intOf]; omega
       ·have e1 : (qv == pv) = false := beq_eq_false_iff_ne.2 hqv
        clear HD hq hqv
        go_wp2_with fail
        go_quiet (fail)
        have hbd := below_drewN (Below.refl wr.heap.size wr) nq
        have HS3 := kide (HSS.out.later hbd)
        have HB3 := kide (HBB.out.trans (hbd.mono HBB.out.size))
        clear hbd
        generalize wr.drewN nq = w3 at *
        go_wp2_with fail
        obtain ⟨M, hM⟩ : ∃ M : Nat, K = i + M := ⟨K - i, by omega⟩
        have hKi : (K : Int) - (i : Int) = (M : Int) := by omega
        have hMw : IntKind.i64.wrap (M : Int) = (M : Int) := by rw [IntKind.wrap_i64]; first | omega | (unfold wrap64; omega)
        have HFV : Hid (formB (ps.drop i) = segV (pv, pt) M :: formB (ps.drop K)) := by
         have h9 := formB_V (k := K) HGP.out (by simp only []; omega) (by have h1 := HRUN.out; have h2 := HZ.out; rw [h2] at h1; rw [h1]; omega)
         rw [show K - i = M by omega] at h9
         exact h9
        have HC0 := kide (HC.out i _ HGP.out).1
        have HC1 := kide (HC.out i _ HGP.out).2
        clear hM HRUN HZ
        refine wp_region_x (SA := fun _ => False) (SB := fun uu => uu.cell? ⟨b2, o2 + i * 2, none⟩ = some (Value.int .i64 pv) ∧ uu.cell? ⟨b2, o2 + i * 2 + 1, none⟩ = some (Value.int .i64 pt)) (k := 999) (by kernel_rfl) ?_
        have hbd : Below w3.heap.size w3 w3.drew := (Below.refl _ _).drew
        have SS_0 := kide (HS3.out.later hbd)
        have BB_0 := kide (HB3.out.trans (hbd.mono HB3.out.size))
        clear hbd HS3 HB3
        generalize w3.drew = u0 at *
        have c0_0 : u0.cell? ⟨b2, o2 + i * 2, none⟩ = some (Value.int .i64 pv) := (BB_0.out.cell (p := ⟨b2, o2 + i * 2, none⟩) lb2).trans HC0.out
        have c1_0 : u0.cell? ⟨b2, o2 + i * 2 + 1, none⟩ = some (Value.int .i64 pt) := (BB_0.out.cell (p := ⟨b2, o2 + i * 2 + 1, none⟩) lb2).trans HC1.out
        have hs0 : Hid ((fun uu => uu.cell? ⟨b2, o2 + i * 2, none⟩ = some (Value.int .i64 pv) ∧ uu.cell? ⟨b2, o2 + i * 2 + 1, none⟩ = some (Value.int .i64 pt)) u0) := ⟨c0_0, c1_0⟩
        try go_simp
        refine tkB (T := (fun _ => True)) (i := 0) (v := Value.slice va ll vc) rfl (by kernel_rfl) (fun _ _ _ h => by first | exact h | exact h.elim) (fun _ _ => trivial) (fun _ _ => trivial) (Sx.behind (by kernel_rfl) hs0.out) (Or.inl ⟨by rfl, fun uu hu => by go_simp⟩) ?_
        try go_simp
        refine tkB (T := (fun _ => True)) (i := 1) (v := Value.slice (some ⟨b2, o2, none⟩) np pc) rfl (by kernel_rfl) (fun _ _ _ h => by first | exact h | exact h.elim) (fun _ _ => trivial) (fun _ _ => trivial) (Sx.behind (by kernel_rfl) hs0.out) (Or.inl ⟨by rfl, fun uu hu => by go_simp⟩) ?_
        try go_simp
        refine tkB (T := (fun _ => True)) (i := 2) (v := Value.int .i64 (i : Int)) rfl (by kernel_rfl) (fun _ _ _ h => by first | exact h | exact h.elim) (fun _ _ => trivial) (fun _ _ => trivial) (Sx.behind (by kernel_rfl) hs0.out) (Or.inl ⟨by rfl, fun uu hu => by go_simp⟩) ?_
        try go_simp
        refine tkB (T := (fun _ => True)) (i := 3) (v := Value.pointer (some ⟨b2, o2 + i * 2, none⟩)) rfl (by kernel_rfl) (fun _ _ _ h => by first | exact h | exact h.elim) (fun _ _ => trivial) (fun _ _ => trivial) (Sx.behind (by kernel_rfl) hs0.out) (Or.inl ⟨by rfl, fun uu hu => by go_simp⟩) ?_
        try go_simp
        refine tkB (T := (fun _ => True)) (i := 4) (v := Value.pointer (some ⟨b2, o2 + i * 2, none⟩)) rfl (by kernel_rfl) (fun _ _ _ h => by first | exact h | exact h.elim) (fun _ _ => trivial) (fun _ _ => trivial) (Sx.behind (by kernel_rfl) hs0.out) (Or.inl ⟨by rfl, fun uu hu => by go_simp⟩) ?_
        try go_simp
        refine tkB (T := (fun uu => uu.cell? ⟨b2, o2 + i * 2, none⟩ = some (Value.int .i64 pv) ∧ uu.cell? ⟨b2, o2 + i * 2 + 1, none⟩ = some (Value.int .i64 pt))) (i := 5) (v := Value.int .i64 pv) rfl (by kernel_rfl) (fun _ _ _ h => by first | exact h | exact h.elim) (fun _ h => h.elim) (fun _ h => h) (Sx.behind (by kernel_rfl) hs0.out) (Or.inl ⟨by rfl, fun uu hu => by obtain ⟨e0, e1⟩ := hu; go_simp⟩) ?_
        try go_simp
        refine tkB (T := (fun _ => True)) (i := 6) (v := Value.slice (some ⟨b2, o2, none⟩) np pc) rfl (by kernel_rfl) (fun _ _ _ h => by first | exact h | exact h.elim) (fun _ _ => trivial) (fun _ _ => trivial) (Sx.behind (by kernel_rfl) hs0.out) (Or.inl ⟨by rfl, fun uu hu => by go_simp⟩) ?_
        try go_simp
        refine tkB (T := (fun _ => True)) (i := 7) (v := Value.int .i64 (i : Int)) rfl (by kernel_rfl) (fun _ _ _ h => by first | exact h | exact h.elim) (fun _ _ => trivial) (fun _ _ => trivial) (Sx.behind (by kernel_rfl) hs0.out) (Or.inl ⟨by rfl, fun uu hu => by go_simp⟩) ?_
        try go_simp
        refine tkB (T := (fun _ => True)) (i := 8) (v := Value.pointer (some ⟨b2, o2 + i * 2, none⟩)) rfl (by kernel_rfl) (fun _ _ _ h => by first | exact h | exact h.elim) (fun _ _ => trivial) (fun _ _ => trivial) (Sx.behind (by kernel_rfl) hs0.out) (Or.inl ⟨by rfl, fun uu hu => by go_simp⟩) ?_
        try go_simp
        refine tkB (T := (fun _ => True)) (i := 9) (v := Value.pointer (some ⟨b2, o2 + i * 2 + 1, none⟩)) rfl (by kernel_rfl) (fun _ _ _ h => by first | exact h | exact h.elim) (fun _ _ => trivial) (fun _ _ => trivial) (Sx.behind (by kernel_rfl) hs0.out) (Or.inl ⟨by rfl, fun uu hu => by go_simp⟩) ?_
        try go_simp
        refine tkB (T := (fun uu => uu.cell? ⟨b2, o2 + i * 2, none⟩ = some (Value.int .i64 pv) ∧ uu.cell? ⟨b2, o2 + i * 2 + 1, none⟩ = some (Value.int .i64 pt))) (i := 10) (v := Value.int .i64 pt) rfl (by kernel_rfl) (fun _ _ _ h => by first | exact h | exact h.elim) (fun _ h => h.elim) (fun _ h => h) (Sx.behind (by kernel_rfl) hs0.out) (Or.inl ⟨by rfl, fun uu hu => by obtain ⟨e0, e1⟩ := hu; go_simp⟩) ?_
        try go_simp
        refine tkB (T := (fun _ => True)) (i := 11) (v := Value.int .i64 (K : Int)) rfl (by kernel_rfl) (fun _ _ _ h => by first | exact h | exact h.elim) (fun _ _ => trivial) (fun _ _ => trivial) (Sx.behind (by kernel_rfl) hs0.out) (Or.inl ⟨by rfl, fun uu hu => by go_simp⟩) ?_
        try go_simp
        refine tkB (T := (fun _ => True)) (i := 12) (v := Value.int .i64 (i : Int)) rfl (by kernel_rfl) (fun _ _ _ h => by first | exact h | exact h.elim) (fun _ _ => trivial) (fun _ _ => trivial) (Sx.behind (by kernel_rfl) hs0.out) (Or.inl ⟨by rfl, fun uu hu => by go_simp⟩) ?_
        try go_simp
        refine tkB (T := (fun _ => True)) (i := 13) (v := Value.int .i64 (M : Int)) rfl (by kernel_rfl) (fun _ _ _ h => by first | exact h | exact h.elim) (fun _ _ => trivial) (fun _ _ => trivial) (Sx.behind (by kernel_rfl) hs0.out) (Or.inl ⟨by rfl, fun uu hu => by go_simp; first | done | (rw [hKi]; exact hMw) | rw [hKi, hMw]⟩) ?_
        try go_simp
        refine tkB (T := (fun _ => True)) (i := 14) (v := Value.agg #[.int .i64 pv, .int .i64 pt, .int .i64 ((M : Nat) : Int), .int .i64 0, .slice none 0 0]) rfl (by kernel_rfl) (fun _ _ _ h => by first | exact h | exact h.elim) (fun _ _ => trivial) (fun _ _ => trivial) (Sx.behind (by kernel_rfl) hs0.out) (Or.inl ⟨by rfl, fun uu hu => by go_simp⟩) ?_
        try go_simp
        refine wpAnyX_ready (rs := [15]) (by kernel_rfl) (by simp) (AllX.cons rfl (fun K hK => ?_) AllX.nil)
        go_simp
        have hbx : Below u0.heap.size u0 (u0.alloc (Obj.cells #[.int .i64 pv, .int .i64 pt, .int .i64 ((M : Nat) : Int), .int .i64 0, .slice none 0 0] 34)) := (Below.refl _ _).alloc (Nat.le_refl _) _
        have SS_1 := kide (SS_0.out.later hbx)
        have BB_1 := kide (BB_0.out.trans (hbx.mono BB_0.out.size))
        have XN := kide (Bz.new u0 #[.int .i64 pv, .int .i64 pt, .int .i64 ((M : Nat) : Int), .int .i64 0, .slice none 0 0] 34)
        obtain ⟨gn, hgn⟩ : ∃ z, u0.heap.size = z := ⟨_, rfl⟩
        rw [hgn] at XN
        simp only [hgn]
        clear hgn hbx
        generalize u0.alloc (Obj.cells #[.int .i64 pv, .int .i64 pt, .int .i64 ((M : Nat) : Int), .int .i64 0, .slice none 0 0] 34) = u1 at *
        have c0_1 : u1.cell? ⟨b2, o2 + i * 2, none⟩ = some (Value.int .i64 pv) := (BB_1.out.cell (p := ⟨b2, o2 + i * 2, none⟩) lb2).trans HC0.out
        have c1_1 : u1.cell? ⟨b2, o2 + i * 2 + 1, none⟩ = some (Value.int .i64 pt) := (BB_1.out.cell (p := ⟨b2, o2 + i * 2 + 1, none⟩) lb2).trans HC1.out
        have hs1 : Hid ((fun uu => uu.cell? ⟨b2, o2 + i * 2, none⟩ = some (Value.int .i64 pv) ∧ uu.cell? ⟨b2, o2 + i * 2 + 1, none⟩ = some (Value.int .i64 pt)) u1) := ⟨c0_1, c1_1⟩
        refine hK _ _ (Sx.behind (by kernel_rfl) hs1.out) ?_
        clear hK K
        try go_simp
        refine wpAnyX_ready (rs := [16]) (by kernel_rfl) (by simp) (AllX.cons rfl (fun K hK => ?_) AllX.nil)
        refine step_appS5 _ rfl _ _ rfl w.heap.size (Value.slice va ll vc) l ⟨⟨pv, pt, (M : Int), 0, []⟩, none, 0⟩ (by first | rfl | simp [Act.eval]) SS_1.out.1 gn 1 (by first | rfl | simp [Act.eval]) (XN.out.cell 0) (XN.out.cell 1) (XN.out.cell 2) (XN.out.cell 3) (XN.out.cell 4) (by have := HLL.out; omega) BB_1.out.size ?_
        intro g9 c9 u2 ho9 hg9
        have SS_2 := kide (SS_1.out.snoc ho9 hg9 (.inl ⟨rfl, fun x e => by cases e⟩))
        have BB_2 := kide (Below.grown BB_1.out hg9 BB_1.out.size (fun j hj => (SS_1.out.1.lt hj).1))
        rw [HLL.out] at SS_2
        simp only [HLL.out]
        clear ho9 hg9
        have c0_2 : u2.cell? ⟨b2, o2 + i * 2, none⟩ = some (Value.int .i64 pv) := (BB_2.out.cell (p := ⟨b2, o2 + i * 2, none⟩) lb2).trans HC0.out
        have c1_2 : u2.cell? ⟨b2, o2 + i * 2 + 1, none⟩ = some (Value.int .i64 pt) := (BB_2.out.cell (p := ⟨b2, o2 + i * 2 + 1, none⟩) lb2).trans HC1.out
        have hs2 : Hid ((fun uu => uu.cell? ⟨b2, o2 + i * 2, none⟩ = some (Value.int .i64 pv) ∧ uu.cell? ⟨b2, o2 + i * 2 + 1, none⟩ = some (Value.int .i64 pt)) u2) := ⟨c0_2, c1_2⟩
        refine hK _ _ (Sx.behind (by kernel_rfl) hs2.out) ?_
        clear hK K
        try go_simp
        refine tkB (T := (fun _ => True)) (i := 17) (v := Value.slice (some ⟨g9, 0, none⟩) (ll + 1) c9) rfl (by kernel_rfl) (fun _ _ _ h => by first | exact h | exact h.elim) (fun _ _ => trivial) (fun _ _ => trivial) (Sx.behind (by kernel_rfl) hs2.out) (Or.inl ⟨by rfl, fun uu hu => by go_simp⟩) ?_
        try go_simp
        refine wpAnyX_done (by kernel_rfl) ?_ _
        go_wp2_with fail
        go_roundw
        case rel => exact ⟨K, l ++ [⟨⟨pv, pt, (M : Int), 0, []⟩, none, 0⟩], by omega, rfl, by rw [List.length_append, HLL.out]; simp; omega, by rw [HF.out, HFV.out, List.map_append]; simp [segV], SS_2.out, BB_2.out, HNO.out.snoc (fun _ => rfl)⟩
        case measure => simp [intOf]; omega
     ·have HZ : Hid (runV (pv, rt) (ps.drop K) = 0) := by
       show _ = _
       rw [List.drop_eq_nil_of_le (by have := HN.out; omega)]
       rfl
      have k0 : ¬ (K : Int) < (np : Int) := by omega
      go_wp2_with fail
      go_quiet (fail)
      have hbd := below_drewN (Below.refl wr.heap.size wr) nq
      have HS3 := kide (HSS.out.later hbd)
      have HB3 := kide (HBB.out.trans (hbd.mono HBB.out.size))
      clear hbd
      generalize wr.drewN nq = w3 at *
      go_wp2_with fail
      obtain ⟨M, hM⟩ : ∃ M : Nat, K = i + M := ⟨K - i, by omega⟩
      have hKi : (K : Int) - (i : Int) = (M : Int) := by omega
      have hMw : IntKind.i64.wrap (M : Int) = (M : Int) := by rw [IntKind.wrap_i64]; first | omega | (unfold wrap64; omega)
      have HFV : Hid (formB (ps.drop i) = segV (pv, pt) M :: formB (ps.drop K)) := by
       have h9 := formB_V (k := K) HGP.out (by simp only []; omega) (by have h1 := HRUN.out; have h2 := HZ.out; rw [h2] at h1; rw [h1]; omega)
       rw [show K - i = M by omega] at h9
       exact h9
      have HC0 := kide (HC.out i _ HGP.out).1
      have HC1 := kide (HC.out i _ HGP.out).2
      clear hM HRUN HZ
      refine wp_region_x (SA := fun _ => False) (SB := fun uu => uu.cell? ⟨b2, o2 + i * 2, none⟩ = some (Value.int .i64 pv) ∧ uu.cell? ⟨b2, o2 + i * 2 + 1, none⟩ = some (Value.int .i64 pt)) (k := 999) (by kernel_rfl) ?_
      have hbd : Below w3.heap.size w3 w3.drew := (Below.refl _ _).drew
      have SS_0 := kide (HS3.out.later hbd)
      have BB_0 := kide (HB3.out.trans (hbd.mono HB3.out.size))
      clear hbd HS3 HB3
      generalize w3.drew = u0 at *
      have c0_0 : u0.cell? ⟨b2, o2 + i * 2, none⟩ = some (Value.int .i64 pv) := (BB_0.out.cell (p := ⟨b2, o2 + i * 2, none⟩) lb2).trans HC0.out
      have c1_0 : u0.cell? ⟨b2, o2 + i * 2 + 1, none⟩ = some (Value.int .i64 pt) := (BB_0.out.cell (p := ⟨b2, o2 + i * 2 + 1, none⟩) lb2).trans HC1.out
      have hs0 : Hid ((fun uu => uu.cell? ⟨b2, o2 + i * 2, none⟩ = some (Value.int .i64 pv) ∧ uu.cell? ⟨b2, o2 + i * 2 + 1, none⟩ = some (Value.int .i64 pt)) u0) := ⟨c0_0, c1_0⟩
      try go_simp
      refine tkB (T := (fun _ => True)) (i := 0) (v := Value.slice va ll vc) rfl (by kernel_rfl) (fun _ _ _ h => by first | exact h | exact h.elim) (fun _ _ => trivial) (fun _ _ => trivial) (Sx.behind (by kernel_rfl) hs0.out) (Or.inl ⟨by rfl, fun uu hu => by go_simp⟩) ?_
      try go_simp
      refine tkB (T := (fun _ => True)) (i := 1) (v := Value.slice (some ⟨b2, o2, none⟩) np pc) rfl (by kernel_rfl) (fun _ _ _ h => by first | exact h | exact h.elim) (fun _ _ => trivial) (fun _ _ => trivial) (Sx.behind (by kernel_rfl) hs0.out) (Or.inl ⟨by rfl, fun uu hu => by go_simp⟩) ?_
      try go_simp
      refine tkB (T := (fun _ => True)) (i := 2) (v := Value.int .i64 (i : Int)) rfl (by kernel_rfl) (fun _ _ _ h => by first | exact h | exact h.elim) (fun _ _ => trivial) (fun _ _ => trivial) (Sx.behind (by kernel_rfl) hs0.out) (Or.inl ⟨by rfl, fun uu hu => by go_simp⟩) ?_
      try go_simp
      refine tkB (T := (fun _ => True)) (i := 3) (v := Value.pointer (some ⟨b2, o2 + i * 2, none⟩)) rfl (by kernel_rfl) (fun _ _ _ h => by first | exact h | exact h.elim) (fun _ _ => trivial) (fun _ _ => trivial) (Sx.behind (by kernel_rfl) hs0.out) (Or.inl ⟨by rfl, fun uu hu => by go_simp⟩) ?_
      try go_simp
      refine tkB (T := (fun _ => True)) (i := 4) (v := Value.pointer (some ⟨b2, o2 + i * 2, none⟩)) rfl (by kernel_rfl) (fun _ _ _ h => by first | exact h | exact h.elim) (fun _ _ => trivial) (fun _ _ => trivial) (Sx.behind (by kernel_rfl) hs0.out) (Or.inl ⟨by rfl, fun uu hu => by go_simp⟩) ?_
      try go_simp
      refine tkB (T := (fun uu => uu.cell? ⟨b2, o2 + i * 2, none⟩ = some (Value.int .i64 pv) ∧ uu.cell? ⟨b2, o2 + i * 2 + 1, none⟩ = some (Value.int .i64 pt))) (i := 5) (v := Value.int .i64 pv) rfl (by kernel_rfl) (fun _ _ _ h => by first | exact h | exact h.elim) (fun _ h => h.elim) (fun _ h => h) (Sx.behind (by kernel_rfl) hs0.out) (Or.inl ⟨by rfl, fun uu hu => by obtain ⟨e0, e1⟩ := hu; go_simp⟩) ?_
      try go_simp
      refine tkB (T := (fun _ => True)) (i := 6) (v := Value.slice (some ⟨b2, o2, none⟩) np pc) rfl (by kernel_rfl) (fun _ _ _ h => by first | exact h | exact h.elim) (fun _ _ => trivial) (fun _ _ => trivial) (Sx.behind (by kernel_rfl) hs0.out) (Or.inl ⟨by rfl, fun uu hu => by go_simp⟩) ?_
      try go_simp
      refine tkB (T := (fun _ => True)) (i := 7) (v := Value.int .i64 (i : Int)) rfl (by kernel_rfl) (fun _ _ _ h => by first | exact h | exact h.elim) (fun _ _ => trivial) (fun _ _ => trivial) (Sx.behind (by kernel_rfl) hs0.out) (Or.inl ⟨by rfl, fun uu hu => by go_simp⟩) ?_
      try go_simp
      refine tkB (T := (fun _ => True)) (i := 8) (v := Value.pointer (some ⟨b2, o2 + i * 2, none⟩)) rfl (by kernel_rfl) (fun _ _ _ h => by first | exact h | exact h.elim) (fun _ _ => trivial) (fun _ _ => trivial) (Sx.behind (by kernel_rfl) hs0.out) (Or.inl ⟨by rfl, fun uu hu => by go_simp⟩) ?_
      try go_simp
      refine tkB (T := (fun _ => True)) (i := 9) (v := Value.pointer (some ⟨b2, o2 + i * 2 + 1, none⟩)) rfl (by kernel_rfl) (fun _ _ _ h => by first | exact h | exact h.elim) (fun _ _ => trivial) (fun _ _ => trivial) (Sx.behind (by kernel_rfl) hs0.out) (Or.inl ⟨by rfl, fun uu hu => by go_simp⟩) ?_
      try go_simp
      refine tkB (T := (fun uu => uu.cell? ⟨b2, o2 + i * 2, none⟩ = some (Value.int .i64 pv) ∧ uu.cell? ⟨b2, o2 + i * 2 + 1, none⟩ = some (Value.int .i64 pt))) (i := 10) (v := Value.int .i64 pt) rfl (by kernel_rfl) (fun _ _ _ h => by first | exact h | exact h.elim) (fun _ h => h.elim) (fun _ h => h) (Sx.behind (by kernel_rfl) hs0.out) (Or.inl ⟨by rfl, fun uu hu => by obtain ⟨e0, e1⟩ := hu; go_simp⟩) ?_
      try go_simp
      refine tkB (T := (fun _ => True)) (i := 11) (v := Value.int .i64 (K : Int)) rfl (by kernel_rfl) (fun _ _ _ h => by first | exact h | exact h.elim) (fun _ _ => trivial) (fun _ _ => trivial) (Sx.behind (by kernel_rfl) hs0.out) (Or.inl ⟨by rfl, fun uu hu => by go_simp⟩) ?_
      try go_simp
      refine tkB (T := (fun _ => True)) (i := 12) (v := Value.int .i64 (i : Int)) rfl (by kernel_rfl) (fun _ _ _ h => by first | exact h | exact h.elim) (fun _ _ => trivial) (fun _ _ => trivial) (Sx.behind (by kernel_rfl) hs0.out) (Or.inl ⟨by rfl, fun uu hu => by go_simp⟩) ?_
      try go_simp
      refine tkB (T := (fun _ => True)) (i := 13) (v := Value.int .i64 (M : Int)) rfl (by kernel_rfl) (fun _ _ _ h => by first | exact h | exact h.elim) (fun _ _ => trivial) (fun _ _ => trivial) (Sx.behind (by kernel_rfl) hs0.out) (Or.inl ⟨by rfl, fun uu hu => by go_simp; first | done | (rw [hKi]; exact hMw) | rw [hKi, hMw]⟩) ?_
      try go_simp
      refine tkB (T := (fun _ => True)) (i := 14) (v := Value.agg #[.int .i64 pv, .int .i64 pt, .int .i64 ((M : Nat) : Int), .int .i64 0, .slice none 0 0]) rfl (by kernel_rfl) (fun _ _ _ h => by first | exact h | exact h.elim) (fun _ _ => trivial) (fun _ _ => trivial) (Sx.behind (by kernel_rfl) hs0.out) (Or.inl ⟨by rfl, fun uu hu => by go_simp⟩) ?_
      try go_simp
      refine wpAnyX_ready (rs := [15]) (by kernel_rfl) (by simp) (AllX.cons rfl (fun K hK => ?_) AllX.nil)
      go_simp
      have hbx : Below u0.heap.size u0 (u0.alloc (Obj.cells #[.int .i64 pv, .int .i64 pt, .int .i64 ((M : Nat) : Int), .int .i64 0, .slice none 0 0] 34)) := (Below.refl _ _).alloc (Nat.le_refl _) _
      have SS_1 := kide (SS_0.out.later hbx)
      have BB_1 := kide (BB_0.out.trans (hbx.mono BB_0.out.size))
      have XN := kide (Bz.new u0 #[.int .i64 pv, .int .i64 pt, .int .i64 ((M : Nat) : Int), .int .i64 0, .slice none 0 0] 34)
      obtain ⟨gn, hgn⟩ : ∃ z, u0.heap.size = z := ⟨_, rfl⟩
      rw [hgn] at XN
      simp only [hgn]
      clear hgn hbx
      generalize u0.alloc (Obj.cells #[.int .i64 pv, .int .i64 pt, .int .i64 ((M : Nat) : Int), .int .i64 0, .slice none 0 0] 34) = u1 at *
      have c0_1 : u1.cell? ⟨b2, o2 + i * 2, none⟩ = some (Value.int .i64 pv) := (BB_1.out.cell (p := ⟨b2, o2 + i * 2, none⟩) lb2).trans HC0.out
      have c1_1 : u1.cell? ⟨b2, o2 + i * 2 + 1, none⟩ = some (Value.int .i64 pt) := (BB_1.out.cell (p := ⟨b2, o2 + i * 2 + 1, none⟩) lb2).trans HC1.out
      have hs1 : Hid ((fun uu => uu.cell? ⟨b2, o2 + i * 2, none⟩ = some (Value.int .i64 pv) ∧ uu.cell? ⟨b2, o2 + i * 2 + 1, none⟩ = some (Value.int .i64 pt)) u1) := ⟨c0_1, c1_1⟩
      refine hK _ _ (Sx.behind (by kernel_rfl) hs1.out) ?_
      clear hK K
      try go_simp
      refine wpAnyX_ready (rs := [16]) (by kernel_rfl) (by simp) (AllX.cons rfl (fun K hK => ?_) AllX.nil)
      refine step_appS5 _ rfl _ _ rfl w.heap.size (Value.slice va ll vc) l ⟨⟨pv, pt, (M : Int), 0, []⟩, none, 0⟩ (by first | rfl | simp [Act.eval]) SS_1.out.1 gn 1 (by first | rfl | simp [Act.eval]) (XN.out.cell 0) (XN.out.cell 1) (XN.out.cell 2) (XN.out.cell 3) (XN.out.cell 4) (by have := HLL.out; omega) BB_1.out.size ?_
      intro g9 c9 u2 ho9 hg9
      have SS_2 := kide (SS_1.out.snoc ho9 hg9 (.inl ⟨rfl, fun x e => by cases e⟩))
      have BB_2 := kide (Below.grown BB_1.out hg9 BB_1.out.size (fun j hj => (SS_1.out.1.lt hj).1))
      rw [HLL.out] at SS_2
      simp only [HLL.out]
      clear ho9 hg9
      have c0_2 : u2.cell? ⟨b2, o2 + i * 2, none⟩ = some (Value.int .i64 pv) := (BB_2.out.cell (p := ⟨b2, o2 + i * 2, none⟩) lb2).trans HC0.out
      have c1_2 : u2.cell? ⟨b2, o2 + i * 2 + 1, none⟩ = some (Value.int .i64 pt) := (BB_2.out.cell (p := ⟨b2, o2 + i * 2 + 1, none⟩) lb2).trans HC1.out
      have hs2 : Hid ((fun uu => uu.cell? ⟨b2, o2 + i * 2, none⟩ = some (Value.int .i64 pv) ∧ uu.cell? ⟨b2, o2 + i * 2 + 1, none⟩ = some (Value.int .i64 pt)) u2) := ⟨c0_2, c1_2⟩
      refine hK _ _ (Sx.behind (by kernel_rfl) hs2.out) ?_
      clear hK K
      try go_simp
      refine tkB (T := (fun _ => True)) (i := 17) (v := Value.slice (some ⟨g9, 0, none⟩) (ll + 1) c9) rfl (by kernel_rfl) (fun _ _ _ h => by first | exact h | exact h.elim) (fun _ _ => trivial) (fun _ _ => trivial) (Sx.behind (by kernel_rfl) hs2.out) (Or.inl ⟨by rfl, fun uu hu => by go_simp⟩) ?_
      try go_simp
      refine wpAnyX_done (by kernel_rfl) ?_ _
      go_wp2_with fail
      go_roundw
      case rel => exact ⟨K, l ++ [⟨⟨pv, pt, (M : Int), 0, []⟩, none, 0⟩], by omega, rfl, by rw [List.length_append, HLL.out]; simp; omega, by rw [HF.out, HFV.out, List.map_append]; simp [segV], SS_2.out, BB_2.out, HNO.out.snoc (fun _ => rfl)⟩
      case measure => simp [intOf]; omega
  ·have e : i = np := by omega
   subst e
   have HE : Hid (l.map Sg.ct = formB ps) := by
    show _ = _
    rw [HF.out, List.drop_eq_nil_of_le (by have := HN.out; omega), formB_nil, List.append_nil]
   have HD : Hid (decide (l.length ≤ 2000) = decide ((ll : Int) ≤ 2000)) := by
    show _ = _
    rw [HLL.out]
    by_cases h : ll ≤ 2000
    ·rw [decide_eq_true h, decide_eq_true (by omega)]
    ·rw [decide_eq_false h, decide_eq_false (by omega)]
   clear hbel
   go_wp2_with fail
   exact bodyPost_ret (v := .tuple #[.slice va ll vc, .bool (decide ((ll : Int) ≤ 2000))]) (by simp [results, Try.results17, go_sem]) rfl ⟨_, l, by rw [HD.out], HE.out, HS.out, HB.out, HNO.out⟩
theorem l5Form_any (pa : Option Addr) (pc np : Nat) (ps : List Ib) (w : World) (hr : RdP w pa ps) (hn : ps.length = np) (hnp : np ≤ 4096) (hok : ∀ p ∈ ps, (p.1 < 0 → 0 ≤ p.2 ∧ p.2 ≤ 1) ∧ (¬ p.1 < 0 → 0 ≤ p.2 ∧ p.2 ≤ 4096)) :
  Calls Try.prog 17 #[.slice pa np pc] w fun e w' => ∃ v l, e = .returned (.tuple #[v, .bool (decide (l.length ≤ 2000))]) ∧ l.map Sg.ct = formB ps ∧ Ss w' w.heap.size v l ∧ Below w.heap.size w w' :=
 (l5FormN_any pa pc np ps w hr hn hnp hok).mono fun e w' ⟨v, l, h1, h2, h3, h4, _⟩ => ⟨v, l, h1, h2, h3, h4⟩

end Go.Proofs.Ytffcklobignlfaa
