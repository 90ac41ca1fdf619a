/- Several texts in one. -/
import Derived.Test.YtnpjgoklpaigjaaGreatDoorGAN
import Derived.Test.YtnpjgoklpaigjaaGreatDoorGAY
import Derived.RangeFuncWrites
import Derived.Test.YtnpjgoklpaigjaaGreatDoorGAB
import Derived.Test.YtnpjgoklpaigjaaGreatDoorGAI
namespace Go.Proofs.YtnpjgoklpaigjaaGreatDoor
open Go.RowKit
set_option linter.unusedVariables false
set_option linter.unusedSimpArgs false
open Go.RowKit Go.WideMaps Go.Maps Go.MapKept Go.ChangeMaps
theorem ad_step {l l' : List Tg} {st : List Tc × List Int} {n md : Tc} {i : Nat} (hm : md = mvT st.2 n) (hl : l.map Tg.ct = st.1) (h : match fndT (l.map Tg.ct) md with | some j => i = j ∧ l' = l | none => i = l.length ∧ l'.map Tg.ct = l.map Tg.ct ++ [md]) : l'.map Tg.ct = (shStep st n).1 ∧ i = plc st n := by
 subst hm
 rw [hl] at h
 unfold shStep plc
 cases e : fndT st.1 (mvT st.2 n) with
 | some j =>
  rw [e] at h
  obtain ⟨rfl, rfl⟩ := h
  exact ⟨hl, rfl⟩
 | none =>
  rw [e] at h
  obtain ⟨h1, h2⟩ := h
  refine ⟨h2, ?_⟩
  rw [h1, ← hl]
  simp
theorem mvT_nil (to : List Int) (op vr a b bw : Int) (ws : List Nat) : mvT to ⟨op, vr, a, b, bw, ws, []⟩ = ⟨op, vr, a, b, bw, ws, []⟩ := rfl
theorem Ni.none0 (w : World) (lo : Nat) : Ni w lo none [] := .inl ⟨rfl, fun x e => by cases e⟩
def KpT (g : Nat) (w w' : World) : Prop := (∀ (b : Nat) (cur : Array Value) (t : TypeId) (fz : Nat × Nat), t ≠ 88 → t ≠ 67 → w.heap[b]? = some (.cells cur t fz) → w'.heap[b]? = w.heap[b]?) ∧ (∀ (b : Nat) (o : Obj), o.isCells = false → b ≠ g → w.heap[b]? = some o → w'.heap[b]? = some o) ∧ w.heap.size ≤ w'.heap.size
theorem KpT.of {g : Nat} {w w' : World} (h : Below w.heap.size w w') : KpT g w w' := ⟨fun b cur t fz _ _ hb => h.block b (lt_of_block hb), fun b o _ _ hb => (h.block b (Array.getElem?_eq_some_iff.1 hb).1).trans hb, h.size⟩
theorem KpT.trans {g : Nat} {w w1 w2 : World} (h : KpT g w w1) (h2 : KpT g w1 w2) : KpT g w w2 := ⟨fun b cur t fz h3 h4 hb => (h2.1 b cur t fz h3 h4 ((h.1 b cur t fz h3 h4 hb).trans hb)).trans (h.1 b cur t fz h3 h4 hb), fun b o ho hg hb => h2.2.1 b o ho hg (h.2.1 b o ho hg hb), Nat.le_trans h.2.2 h2.2.2⟩
theorem KpT.fr {w w' : World} {B s g : Nat} {v : Value} {D : DataW Unit} {l : List Tg} (ha : Ar w B s g v D l) (hf : FrA s g v w w') : KpT g w w' := by
 refine ⟨fun b cur t fz h3 h4 hb => hf.2.2.2.2 b (lt_of_block hb) (fun e => by
  subst e
  have h9 := ha.box
  unfold Bz at h9
  rw [hb] at h9
  cases h9
  exact h3 rfl) (fun e => by
  subst e
  obtain ⟨es, ck, h9⟩ := own_isMapN ha.mp
  rw [hb] at h9
  cases h9) (fun e => by
  obtain ⟨cur', h9⟩ := ha.ts.row.typed e
  rw [hb] at h9
  cases h9
  exact h4 rfl), fun b o ho hg hb => (hf.2.2.2.2 b (Array.getElem?_eq_some_iff.1 hb).1 (fun e => by
  subst e
  have h9 := ha.box
  unfold Bz at h9
  rw [hb] at h9
  cases h9
  cases ho) hg (fun e => by
  obtain ⟨cur', h9⟩ := ha.ts.row.typed e
  rw [hb] at h9
  cases h9
  cases ho)).trans hb, hf.2.2.2.1⟩
def RetSg (w0 w : World) (s g N : Nat) (l0 : List Tg) (ms : List Tc) (e : Ending) (w' : World) : Prop := ∃ (v : Value) (D : DataW Unit) (l : List Tg) (i : Nat), e = .returned (.int .i64 (i : Int)) ∧ Ar w' w0.heap.size s g v D l ∧ l.map Tg.ct = (shAll ms).1 ∧ (shAll ms).2.getLast? = some (i : Int) ∧ Below w0.heap.size w0 w' ∧ KpT g w w' ∧ ∀ x ∈ l, x ∈ l0 ∨ ∀ p, x.ka = some p → N ≤ p.block
theorem addN_any (s g N : Nat) (v : Value) (D : DataW Unit) (l : List Tg) (nd x : Tc) (wa nka ka : Option Addr) (wc nkn nkc kc : Nat) (ks : List Int) (ns : List Tc) (w0 w : World) (h0 : Below w0.heap.size w0 w) (ha : Ar w w0.heap.size s g v D l) (hr : Rd w wa nd.ws) (hw0 : wa = none → wc = 0) (hk : Ni w N ka ks) (hN : ∀ x ∈ l, (∀ p, x.wa = some p → p.block < N) ∧ ∀ p, x.ka = some p → p.block < N) (hBN : w0.heap.size ≤ N) (hNw : N ≤ w.heap.size) (hx : okN ⟨nd.op, nd.vr, nd.a, nd.b, nd.bw, nd.ws, ks⟩) (hl : l.length ≤ 100000) (hm : (⟨nd.op, nd.vr, nd.a, nd.b, nd.bw, nd.ws, ks⟩ : Tc) = mvT (shAll ns).2 x) (hc : l.map Tg.ct = (shAll ns).1) :
  Calls Tryz.prog 42 #[.pointer (some ⟨s, 0, none⟩), .agg #[.int .i64 nd.op, .int .i64 nd.vr, .int .i64 nd.a, .int .i64 nd.b, .int .i64 nd.bw, .slice wa nd.ws.length wc, .slice nka nkn nkc], .slice ka ks.length kc] w (RetSg w0 w s g N l (ns ++ [x])) := by
 refine (arenaAdd_any w0.heap.size s g N v D l nd wa nka ka wc nkn nkc kc ks w ha hr hw0 hk hN hBN hNw hx hl).mono ?_
 rintro e w' ⟨v', D', l', i, rfl, har, hfr, -, hnw, hmt⟩
 obtain ⟨h1, h2⟩ := ad_step hm hc hmt
 refine ⟨v', D', l', i, rfl, har, by rw [shAll_snoc]; exact h1, ?_, Below.fr h0 h0.size ha hfr, KpT.fr ha hfr, hnw⟩
 rw [shAll_snoc, shStep_to, h2]
 simp
theorem addNG_any (s g M N : Nat) (v : Value) (D : DataW Unit) (l : List Tg) (nd x : Tc) (wa nka ka : Option Addr) (wc nkn nkc kc : Nat) (ks : List Int) (ns : List Tc) (w0 w : World) (h0 : Below w0.heap.size w0 w) (ha : Ar w w0.heap.size s g v D l) (hr : Rd w wa nd.ws) (hw0 : wa = none → wc = 0) (hk : Ni w M ka ks) (hN : ∀ x ∈ l, ∀ p, x.wa = some p → p.block < N) (hap : ∀ x ∈ l, ∀ p q, x.ka = some p → ka = some q → p.block ≠ q.block) (hBM : w0.heap.size ≤ M) (hBN : w0.heap.size ≤ N) (hNw : N ≤ w.heap.size) (hx : okN ⟨nd.op, nd.vr, nd.a, nd.b, nd.bw, nd.ws, ks⟩) (hl : l.length ≤ 100000) (hm : (⟨nd.op, nd.vr, nd.a, nd.b, nd.bw, nd.ws, ks⟩ : Tc) = mvT (shAll ns).2 x) (hc : l.map Tg.ct = (shAll ns).1) :
  Calls Tryz.prog 42 #[.pointer (some ⟨s, 0, none⟩), .agg #[.int .i64 nd.op, .int .i64 nd.vr, .int .i64 nd.a, .int .i64 nd.b, .int .i64 nd.bw, .slice wa nd.ws.length wc, .slice nka nkn nkc], .slice ka ks.length kc] w (RetSg w0 w s g M l (ns ++ [x])) := by
 refine (arenaAddG_any w0.heap.size s g M N v D l nd wa nka ka wc nkn nkc kc ks w ha hr hw0 hk hN hap hBM hBN hNw hx hl).mono ?_
 rintro e w' ⟨v', D', l', i, rfl, har, hfr, -, hnw, hmt⟩
 obtain ⟨h1, h2⟩ := ad_step hm hc hmt
 refine ⟨v', D', l', i, rfl, har, by rw [shAll_snoc]; exact h1, ?_, Below.fr h0 h0.size ha hfr, KpT.fr ha hfr, hnw⟩
 rw [shAll_snoc, shStep_to, h2]
 simp

open Go.RowKit Go.WideMaps Go.Maps Go.MapKept Go.ChangeMaps
def sgU (ds : List Dc) (x : Sc) : Prop := x.v = -1 ∧ rightB x.bw x.ws = true ∨ 0 ≤ x.v ∧ x.v < (ds.length : Int) ∧ 0 ≤ x.lo ∧ x.lo ≤ 4096 ∧ 1 ≤ x.wd ∧ x.wd ≤ 4096 ∧ x.wd ≤ dcW ds x.v
theorem in64c {x : Int} (h : -1000000 ≤ x ∧ x ≤ 1000000) : in64 x := ⟨by omega, by omega⟩
theorem Rd.none0 (w : World) : Rd w none [] := ⟨by simp, by simp, .inl rfl⟩
theorem okN_plain (op vr a b : Int) (h1 : in64 op) (h2 : in64 vr) (h3 : in64 a) (h4 : in64 b) {ks : List Int} (hk : ∀ j ∈ ks, 0 ≤ j ∧ j < 1048576) (hl : ks.length ≤ 1048576) : okN ⟨op, vr, a, b, 0, [], ks⟩ :=
  ⟨⟨h1, h2, h3, h4, in64c (x := 0) (by omega), by simp, by simp, hl, fun y hy => by have := hk y hy; exact ⟨by omega, by omega⟩⟩, ⟨.inr ⟨rfl, rfl⟩, by simp⟩, hk⟩
theorem len_shAll {ns : List Tc} (hk : aheadT ns) : (shAll ns).1.length ≤ ns.length ∧ (shAll ns).2.length = ns.length ∧ ∀ x ∈ (shAll ns).2, 0 ≤ x ∧ x < ((shAll ns).1.length : Int) := by
  have h := shTo_f hk ns.length (Nat.le_refl _)
  exact ⟨h.l1, h.l2, h.rg⟩
set_option maxHeartbeats 4000000 in
set_option maxRecDepth 100000 in
theorem addSeg_any (s g : Nat) (v : Value) (D : DataW Unit) (l : List Tg) (da : Option Addr) (dc : Nat) (ds : List Dc) (x : Sc) (wa : Option Addr) (wc : Nat) (ns : List Tc) (w0 w : World) (h0 : Below w0.heap.size w0 w) (ha : Ar w w0.heap.size s g v D l) (hd : RdD w0 da ds) (hr : Rd w0 wa x.ws) (hw0 : wa = none → wc = 0) (hc : l.map Tg.ct = (shAll ns).1) (hk : aheadT ns) (hn : ns.length ≤ 8000) (hx : sgU ds x) (hbw : in64 x.bw) :
    Calls Tryz.prog 41 #[.pointer (some ⟨s, 0, none⟩), .slice da ds.length dc, .agg #[.int .i64 x.v, .int .i64 x.lo, .int .i64 x.wd, .int .i64 x.bw, .slice wa x.ws.length wc]] w (RetSg w0 w s g w.heap.size l (ns ++ unf1 ds ns.length x)) := by
  have hb1 : Below w.heap.size w (w.alloc (Obj.cells #[.int .i64 x.v, .int .i64 x.lo, .int .i64 x.wd, .int .i64 x.bw, .slice wa x.ws.length wc] 73)) := blA _ _
  have HB1 := kide hb1
  have B1 := h0.trans (hb1.mono h0.size)
  have A1 := ha.later hb1
  have X1 := kide (Bz.new w #[.int .i64 x.v, .int .i64 x.lo, .int .i64 x.wd, .int .i64 x.bw, .slice wa x.ws.length wc] 73)
  obtain ⟨hs1, hs2, hs3⟩ := len_shAll hk
  have hll : l.length ≤ 100000 := by have : (l.map Tg.ct).length = l.length := by simp
                                     rw [hc] at this; omega
  rcases hx with ⟨hv, hw⟩ | ⟨hv0, hv1, hlo0, hlo1, hwd0, hwd1, hwd⟩
  · have hu : unf1 ds ns.length x = [⟨2, 0, 0, 0, x.bw, x.ws, []⟩] := by unfold unf1; rw [if_pos (by omega)]
    rw [hu]
    have HAD := kide (addN_any s g _ v D l ⟨2, 0, 0, 0, x.bw, x.ws, []⟩ ⟨2, 0, 0, 0, x.bw, x.ws, []⟩ wa none none wc 0 0 0 [] ns w0 _ B1 A1 (hr.later B1) hw0 (Ni.none0 _ _) A1.ts.below B1.size (Nat.le_refl _) ⟨⟨in64c (x := 2) (by omega), in64c (x := 0) (by omega), in64c (x := 0) (by omega), in64c (x := 0) (by omega), hbw, hr.1, hr.2.1, by simp, by simp⟩, ⟨.inl hw, hr.2.1⟩, by simp⟩ hll (mvT_nil _ _ _ _ _ _ _).symm hc)
    obtain ⟨sv, lo, wd, bw, ws⟩ := x
    simp only [] at *
    subst hv
    obtain ⟨nw, hnw⟩ : ∃ n, ws.length = n := ⟨_, rfl⟩
    rw [hnw] at HAD X1 HB1 ⊢
    clear hb1 B1 A1 h0 ha hd hr hc hk hs1 hs2 hs3 hw hu hnw
    go_enter Tryz.func41, Tryz.ntmps41
    go_wp2_with fail
    refine Calls.mono HAD.out ?_
    rintro e w2 ⟨v2, D2, l2, i, rfl, h1, h2, h3, h4, h5, h6⟩
    go_wp2_with fail
    exact bodyPost_ret (v := .int .i64 (i : Int)) (by simp [results, Tryz.results41, go_sem]) rfl ⟨v2, D2, l2, i, rfl, h1, h2, h3, h4, (KpT.of HB1.out).trans h5, fun y hy => (h6 y hy).imp id fun f p hp => Nat.le_trans HB1.out.size (f p hp)⟩
  · have hvn : ¬ x.v < 0 := by omega
    have hdl := hd.1
    obtain ⟨d, hdd⟩ : ∃ d, ds[x.v.toNat]? = some d := ⟨ds[x.v.toNat]'(by omega), List.getElem?_eq_getElem _⟩
    have hdw : dcW ds x.v = d.2 := by unfold dcW; rw [hdd]; rfl
    rw [hdw] at hwd
    have hu : unf1 ds ns.length x = if x.wd < d.2 then [⟨1, x.v, 0, 0, 0, [], []⟩, ⟨4, 0, x.lo + x.wd - 1, x.lo, 0, [], [(ns.length : Int)]⟩] else [⟨1, x.v, 0, 0, 0, [], []⟩] := by unfold unf1; rw [if_neg hvn, hdw]
    obtain ⟨M, hM⟩ : ∃ M, unf1 ds ns.length x = M := ⟨_, rfl⟩
    rw [hM]
    have HM := kide (hM.symm.trans hu)
    clear hM
    have HAD := kide (addN_any s g _ v D l ⟨1, x.v, 0, 0, 0, [], []⟩ ⟨1, x.v, 0, 0, 0, [], []⟩ none none none 0 0 0 0 [] ns w0 _ B1 A1 (Rd.none0 _) (fun _ => rfl) (Ni.none0 _ _) A1.ts.below B1.size (Nat.le_refl _) (okN_plain 1 x.v 0 0 (in64c (by omega)) ⟨by omega, by omega⟩ (in64c (by omega)) (in64c (by omega)) (by simp) (by simp)) hll (mvT_nil _ _ _ _ _ _ _).symm hc)
    have hk1 : aheadT (ns ++ [⟨1, x.v, 0, 0, 0, [], []⟩]) := hk.snoc (by simp)
    obtain ⟨ht1, ht2, ht3⟩ := len_shAll hk1
    have HT := kide (And.intro ht1 (And.intro ht2 ht3))
    have HD := kide hd
    have HDD := kide hdd
    obtain ⟨sv, lo, wd, bw, ws⟩ := x
    simp only [] at *
    obtain ⟨vn, rfl⟩ : ∃ vn : Nat, sv = (vn : Int) := ⟨sv.toNat, by omega⟩
    obtain ⟨nw, hnw⟩ : ∃ n, ws.length = n := ⟨_, rfl⟩
    rw [hnw] at HAD X1 HB1 ⊢
    have he : (((vn : Nat) : Int) == -1) = false := by simp
    have he1 : ¬ ((vn : Nat) : Int) = -1 := by omega
    have i0 : (vn : Int) < (ds.length : Int) := by omega
    clear hb1 B1 A1 h0 ha hd hr hc hk hs1 hs2 hs3 hu hnw hk1 ht1 ht2 ht3 hdd hdw
    go_enter Tryz.func41, Tryz.ntmps41
    go_wp2_with fail
    refine Calls.mono HAD.out ?_
    rintro e w2 ⟨v2, D2, l2, i, rfl, h1, h2, h3, h4, h5, h6⟩
    have X2 : Bz w2 w.heap.size #[.int .i64 (vn : Int), .int .i64 lo, .int .i64 wd, .int .i64 bw, .slice wa nw wc] 73 := (h5.1 _ _ _ _ (by decide) (by decide) X1.out).trans X1.out
    have q0 := X2.cell 0
    have q1 := X2.cell 1
    have q2 := X2.cell 2
    simp at q0 q1 q2
    obtain ⟨-, -, h | ⟨b3, o3, rfl, hcs⟩⟩ := HD.out.later h4
    · exfalso
      have h9 : ds.length = 0 := by rw [h]; rfl
      omega
    have q3 := (hcs vn d (by simpa using HDD.out)).2
    have HA2 := kide h1
    have HC2 := kide h2
    have HG2 := kide h3
    have HB2 := kide h4
    have HK2 := kide ((KpT.of HB1.out).trans h5)
    have HN2 : Hid (∀ y ∈ l2, y ∈ l ∨ ∀ p, y.ka = some p → w.heap.size ≤ p.block) := kide (fun y hy => (h6 y hy).imp id fun f p hp => Nat.le_trans HB1.out.size (f p hp))
    clear h1 h2 h3 h4 h5 h6 hcs X2 X1 HAD HB1
    by_cases e : wd = d.2
    · have e2 : (wd == d.2) = true := by simpa using e
      have hM2 := HM.out
      rw [if_neg (by omega)] at hM2
      subst hM2
      go_wp2_with fail
      go_quiet (fail)
      go_wp2_with fail
      have hbq : Below w2.heap.size w2 (w2.drewN nq) := below_drewN (Below.refl _ _) _
      replace HA2 := kide (HA2.out.later hbq)
      replace HB2 := kide (HB2.out.trans (hbq.mono HB2.out.size))
      replace HK2 := kide (HK2.out.trans (KpT.of hbq))
      clear hbq q0 q1 q2 q3
      generalize w2.drewN nq = w2 at *
      exact bodyPost_ret (v := .int .i64 (i : Int)) (by simp [results, Tryz.results41, go_sem]) rfl ⟨v2, D2, l2, i, rfl, HA2.out, HC2.out, HG2.out, HB2.out, HK2.out, HN2.out⟩
    · have e2 : (wd == d.2) = false := by simpa using e
      have hM2 := HM.out
      rw [if_pos (by omega)] at hM2
      subst hM2
      clear HM
      have hz1 : wrap64 (lo + wd) = lo + wd := by unfold wrap64; omega
      have hz2 : wrap64 (lo + wd - 1) = lo + wd - 1 := by unfold wrap64; omega
      go_wp2_with fail
      go_quiet (fail)
      go_wp2_with fail
      have hbq : Below w2.heap.size w2 (w2.drewN nq) := below_drewN (Below.refl _ _) _
      replace HA2 := kide (HA2.out.later hbq)
      replace HB2 := kide (HB2.out.trans (hbq.mono HB2.out.size))
      replace HK2 := kide (HK2.out.trans (KpT.of hbq))
      clear hbq q0 q1 q2 q3
      have hsz9 : w2.heap.size = (w2.drewN nq).heap.size := by simp
      rw [hsz9]
      clear hsz9
      generalize w2.drewN nq = w2 at *
      have hbk : Below w2.heap.size w2 (w2.alloc (Obj.cells #[.int .i64 (i : Int)] 2)) := blA _ _
      have hri : 0 ≤ (i : Int) ∧ (i : Int) < ((shAll (ns ++ [⟨1, (vn : Int), 0, 0, 0, [], []⟩])).1.length : Int) := HT.out.2.2 _ (List.mem_of_getLast? HG2.out)
      have hlt1 := HT.out.1
      have hl2 := HT.out.2.1
      rw [List.length_append, List.length_singleton] at hlt1 hl2
      have hll2 : l2.length ≤ 100000 := by
        have h9 : (l2.map Tg.ct).length = l2.length := by simp
        rw [HC2.out] at h9
        omega
      have hgd : (shAll (ns ++ [⟨1, (vn : Int), 0, 0, 0, [], []⟩])).2.getD ns.length 0 = (i : Int) := by
        have h9 := HG2.out
        rw [List.getLast?_eq_getElem?, hl2] at h9
        rw [List.getD_eq_getElem?_getD]
        simp at h9
        rw [h9]
        rfl
      have B3 := HB2.out.trans (hbk.mono HB2.out.size)
      have A3 := HA2.out.later hbk
      have h9 := addN_any s g w2.heap.size v2 D2 l2 ⟨4, 0, lo + wd - 1, lo, 0, [], [(i : Int)]⟩ ⟨4, 0, lo + wd - 1, lo, 0, [], [(ns.length : Int)]⟩ none none (some ⟨w2.heap.size, 0, none⟩) 0 0 0 1 [(i : Int)] (ns ++ [⟨1, (vn : Int), 0, 0, 0, [], []⟩]) w0 _ B3 A3 (Rd.none0 _) (fun _ => rfl) (.inr ⟨w2.heap.size, #[.int .i64 (i : Int)], rfl, Nat.le_refl _, heap_alloc_new _ _, fun j hj => by simp at hj; subst hj; rfl⟩) HA2.out.ts.below HB2.out.size hbk.size (okN_plain 4 0 (lo + wd - 1) lo (in64c (by omega)) (in64c (by omega)) (in64c (by omega)) (in64c (by omega)) (fun j hj => by simp at hj; subst hj; omega) (by simp)) hll2 (by unfold mvT; simp; rw [← hgd, List.getD_eq_getElem?_getD]) HC2.out
      simp only [List.length_cons, List.length_nil, Nat.zero_add] at h9
      refine Calls.mono h9 ?_
      rintro e w3 ⟨v3, D3, l3, i3, rfl, h1, h2, h3, h4, h5, h6⟩
      have HF : Hid (RetSg w0 w s g w.heap.size l (ns ++ [⟨1, (vn : Int), 0, 0, 0, [], []⟩, ⟨4, 0, lo + wd - 1, lo, 0, [], [(ns.length : Int)]⟩]) (.returned (.int .i64 (i3 : Int))) w3) := by
        rw [List.append_assoc] at h2 h3
        exact ⟨v3, D3, l3, i3, rfl, h1, h2, h3, h4, (HK2.out.trans (KpT.of hbk)).trans h5, fun y hy => (h6 y hy).elim (fun h => HN2.out y h) fun f => .inr fun p hp => Nat.le_trans HK2.out.2.2 (f p hp)⟩
      clear h1 h2 h3 h4 h5 h6 h9 hbk hri hlt1 hl2 hll2 hgd B3 A3
      go_wp2_with fail
      exact bodyPost_ret (v := .int .i64 (i3 : Int)) (by simp [results, Tryz.results41, go_sem]) rfl HF.out

end Go.Proofs.YtnpjgoklpaigjaaGreatDoor
