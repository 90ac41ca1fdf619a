/- The grove of a forest. -/
import Derived.Test.YtakicdlfolhhcaaGF
namespace Go.Proofs.Ytakicdlfolhhcaa
set_option linter.unusedVariables false
set_option linter.unusedSimpArgs false
open Go.RowKit

def in64 (k : Int) : Prop := -9223372036854775808 ≤ k ∧ k ≤ 9223372036854775807

def LkAt (w : World) (b o : Nat) (l : Lk) : Prop := w.cell? ⟨b, o, none⟩ = some (.int .i64 l.1) ∧ w.cell? ⟨b, o + 1, none⟩ = some (.int .i64 l.2.1) ∧ w.cell? ⟨b, o + 2, none⟩ = some (.int .i64 l.2.2)
theorem LkAt.later {w w' : World} {b o : Nat} {l : Lk} (h : LkAt w b o l) (hb : Below w.heap.size w w') : LkAt w' b o l := by
  have l' := block_lt_of_cell h.1
  exact ⟨by rw [kcell hb _ _ l']; exact h.1, by rw [kcell hb _ _ l']; exact h.2.1, by rw [kcell hb _ _ l']; exact h.2.2⟩

/-- A slice of links, wherever it lies. -/
def RdK (w : World) (a : Option Addr) (ls : List Lk) : Prop := ls.length ≤ 1048576 ∧ (∀ l ∈ ls, in64 l.1 ∧ in64 l.2.1 ∧ in64 l.2.2) ∧ (ls = [] ∨ ∃ b o, a = some ⟨b, o, none⟩ ∧ ∀ i l, ls[i]? = some l → LkAt w b (o + i * 3) l)
theorem RdK.later {w w' : World} {a : Option Addr} {ls : List Lk} (h : RdK w a ls) (hb : Below w.heap.size w w') : RdK w' a ls := by
  obtain ⟨h1, h2, h3⟩ := h
  refine ⟨h1, h2, ?_⟩
  rcases h3 with h3 | ⟨b, o, rfl, hc⟩
  · exact .inl h3
  · exact .inr ⟨b, o, rfl, fun i l hi => (hc i l hi).later hb⟩

theorem Gv.k0 {w : World} {B G M : Nat} {s : Gs} (h : Gv w B G M s) : w.cell? ⟨G, 0, none⟩ = some s.kc := by rw [cell_of h.gb]; rfl

theorem Gv.kcell {w : World} {B G M : Nat} {s : Gs} (h : Gv w B G M s) (hk : s.kc = s.kv) {kb N kcap : Nat} (hks : s.kc = .slice (some ⟨kb, 0, none⟩) N kcap) {i p : Nat} (hi : s.ps[i]? = some p) : w.cell? ⟨kb, i, none⟩ = some (pt p) := by
  obtain ⟨a, c, e, hc⟩ := h.kform
  obtain ⟨g, rfl, h2⟩ := hc i p hi
  rw [← hk, hks] at e
  cases e
  exact h2

/-- The ties that touch a node. -/
def tlR (ts : List Nat) (ls : List Lk) (j : Nat) : List Nat := ((ts.zip ls).filter fun x => decide (x.2.1.toNat = j) || decide (x.2.2.1.toNat = j)).map Prod.fst
theorem tlR_snoc (ts : List Nat) (ls : List Lk) (h : ts.length = ls.length) (t : Nat) (l : Lk) (j : Nat) : tlR (ts ++ [t]) (ls ++ [l]) j = tlR ts ls j ++ (if l.1.toNat = j ∨ l.2.1.toNat = j then [t] else []) := by
  unfold tlR
  rw [List.zip_append h, List.filter_append, List.map_append]
  congr 1
  simp only [List.zip_cons_cons, List.zip_nil_left, List.filter_cons, List.filter_nil]
  by_cases hc : l.1.toNat = j ∨ l.2.1.toNat = j
  · rw [if_pos (by simpa using hc), if_pos hc]; rfl
  · rw [if_neg (by simpa using hc), if_neg hc]; rfl

/-- Of each tie its undo is known. -/
def Cl (w : World) (s : Gs) : Prop := ∀ (k t : Nat) (l : Lk), s.ts[k]? = some t → s.ls[k]? = some l → Clo w s.ps t l
/-- Each knot has the ties that touch it. -/
def Dg (s : Gs) : Prop := ∀ j, s.tl j = tlR s.ts s.ls j
theorem Cl.kept {w u : World} {s : Gs} (h : Cl w s) (hk : Kt w u) : Cl u s := fun k t l h1 h2 => (h k t l h1 h2).kept hk

theorem Cl.join {w u : World} {s s' : Gs} {a b : Nat} {y : Int} (h : Cl w s) (hn : s.ts.length = s.ls.length) (hj : Jx w u s s' a b y) (hp : s'.ps = s.ps) (hl : s'.ls = s.ls ++ [((a : Int), (b : Int), y)]) : Cl u s' := by
  obtain ⟨hk, t0, ht, -, hc⟩ := hj
  intro k t l h1 h2
  rw [hp]
  rw [ht] at h1
  rw [hl] at h2
  by_cases hlt : k < s.ts.length
  · rw [List.getElem?_append_left hlt] at h1
    rw [List.getElem?_append_left (by omega)] at h2
    exact (h k t l h1 h2).kept hk
  · rw [List.getElem?_append_right (by omega)] at h1 h2
    have hk0 : k - s.ts.length = 0 := by
      have := (List.getElem?_eq_some_iff.1 h1).1
      simp at this; omega
    rw [hk0] at h1
    rw [← hn, hk0] at h2
    simp at h1 h2
    subst h1
    subst h2
    exact hc

theorem Dg.join {w u : World} {s s' : Gs} {a b : Nat} {y : Int} (h : Dg s) (hn : s.ts.length = s.ls.length) (hj : Jx w u s s' a b y) (hl : s'.ls = s.ls ++ [((a : Int), (b : Int), y)]) : Dg s' := by
  obtain ⟨-, t, ht, htl, -⟩ := hj
  intro j
  rw [htl, hl, ht, tlR_snoc _ _ hn, ← h j]
  simp only [Int.toNat_natCast]
  by_cases e1 : j = b
  · rw [if_pos e1, if_pos (.inr e1.symm), e1]
  · rw [if_neg e1]
    by_cases e2 : j = a
    · rw [if_pos e2, if_pos (.inl e2.symm), e2]
    · rw [if_neg e2, if_neg (by rintro (e | e); exact e2 e.symm; exact e1 e.symm), List.append_nil]

/-- What groveOf hands back. -/
def RetG (w : World) (z : Int) (ls : List Lk) (e : Ending) (w' : World) : Prop :=
  Below w.heap.size w w' ∧ ((forR z ls = none ∧ e = .returned (.pointer none)) ∨ ∃ L G s rt dp M, forR z ls = some L ∧ e = .returned (pt G) ∧ Gv w' (w.heap.size + 1) G M s ∧ Nl s ∧ Uf s.ps.length L s.up s.le rt dp ∧ (s.ps.length : Int) = z ∧ s.ls = ls ∧ M ≤ 1048576 ∧ Cl w' s ∧ Dg s)

set_option maxHeartbeats 1000000 in
set_option maxRecDepth 100000 in
theorem groveOf_any (z : Int) (a : Option Addr) (n c : Nat) (ls : List Lk) (w : World) (hr : RdK w a ls) (hn : ls.length = n) :
    Calls Try.prog 43 #[.agg #[.int .i64 z, .slice a n c]] w (RetG w z ls) := by
  have s0 := St.start w (.cells #[.int .i64 z, .slice a n c] 29)
  have g0 := s0.cell 0
  have g1 := s0.cell 1
  simp at g0 g1
  by_cases hz : 0 ≤ z ∧ z ≤ 1000
  case neg =>
    have hf : forR z ls = none := by unfold forR; rw [if_neg hz]
    have S0 := kide s0
    clear hr hn s0
    by_cases h1 : z < 0
    · go_enter Try.func43, Try.ntmps43
      go_wp2_with fail
      go_ret
      exact ⟨S0.out.below, .inl ⟨hf, rfl⟩⟩
    · have h2 : 1000 < z := by omega
      go_enter Try.func43, Try.ntmps43
      go_wp2_with fail
      go_ret
      exact ⟨S0.out.below, .inl ⟨hf, rfl⟩⟩
  case pos =>
    obtain ⟨N, rfl⟩ : ∃ N : Nat, z = (N : Int) := ⟨z.toNat, by omega⟩
    have hN : N ≤ 1000 := by omega
    have S0 := kide s0
    have HR := kide hr
    have HN := kide hn
    clear hr hn s0 hz
    go_enter Try.func43, Try.ntmps43
    go_wp2_with fail
    obtain ⟨B, hB⟩ : ∃ B, w.heap.size + 1 = B := ⟨_, rfl⟩
    have hG0 : Gv ((w.alloc (Obj.cells #[.int .i64 (N : Int), .slice a n c] 29)).alloc (Obj.cells #[.slice none 0 0, .slice none 0 0] 77)) B B 0 (Gs.fresh [] (.slice none 0 0)) := by
      refine ⟨Nat.le_refl _, ?_, ⟨rfl, .inl ⟨rfl, rfl⟩⟩, fun i p hi => ?_, fun i hi => ?_, ⟨rfl, .inl ⟨rfl, rfl⟩⟩, fun k t l ht => ?_, fun i j hi => ?_, fun i hi => ?_⟩
      · have := heap_alloc_new (w.alloc (Obj.cells #[.int .i64 (N : Int), .slice a n c] 29)) (Obj.cells #[.slice none 0 0, .slice none 0 0] 77)
        rw [World.size_alloc] at this
        rw [← hB]
        exact this
      · have : ([] : List Nat)[i]? = some p := hi
        simp at this
      · have : i < ([] : List Nat).length := hi
        simp at this
      · have : ([] : List Nat)[k]? = some t := ht
        simp at this
      · have : i < ([] : List Nat).length := hi
        simp at this
      · have : i < ([] : List Nat).length := hi
        simp at this
    have hS1 : Hid (Below B (w.alloc (Obj.cells #[.int .i64 (N : Int), .slice a n c] 29)) ((w.alloc (Obj.cells #[.int .i64 (N : Int), .slice a n c] 29)).alloc (Obj.cells #[.slice none 0 0, .slice none 0 0] 77))) := (Below.refl _ _).alloc (by rw [← hB]; simp) _
    have HG0 := kide hG0
    have HB := kide hB
    rw [hB]
    clear hG0 hB g0 g1
    go_loopw [18] (fun q wr => ∃ (k : Nat) (ps : List Nat) (kv : Value), k ≤ N ∧ q = .int .i64 (k : Int) ∧ ps.length = k ∧ Gv wr B B 0 (Gs.fresh ps kv) ∧ Below B (w.alloc (Obj.cells #[.int .i64 (N : Int), .slice a n c] 29)) wr) (fun q _ => N - (intOf q).toNat)
    case atStart => exact ⟨0, [], _, Nat.zero_le _, rfl, rfl, HG0.out, hS1.out⟩
    case round =>
      obtain ⟨k, ps, kv, hk, rfl, hpl, hgv, hbl⟩ := hrel
      have HGV := kide hgv
      have HBL := kide hbl
      clear hgv hbl HG0 hS1
      by_cases hlt : k < N
      · have i0 : (k : Int) < (N : Int) := by omega
        have HAD := kide (add_any HGV.out (by omega))
        unfold pt at HAD
        go_wp2_with fail
        refine Calls.mono HAD.out ?_
        rintro e w1 ⟨p, v, rfl, hg1, hb1⟩
        have HG1 := kide hg1
        have HB1 := kide (HBL.out.trans hb1)
        clear hg1 hb1
        go_wp2_with fail
        go_roundw
        case rel => exact ⟨k + 1, ps ++ [p], v, by omega, by go_num, by simp [hpl], HG1.out, HB1.out⟩
        case measure => simp [intOf]; omega
      · have e : k = N := by omega
        subst e
        have hpl' := kide hpl
        have g1 : wr.cell? ⟨w.heap.size, 1, none⟩ = some (.slice a n c) := by
          have h1 : w.heap.size < B := by have := HB.out; omega
          rw [HBL.out.cell (p := ⟨w.heap.size, 1, none⟩) h1]
          simp
        have HG2 := kide HGV.out
        clear hpl HGV
        go_wp2_with fail
        obtain ⟨N, hkN⟩ : ∃ N, N = k := ⟨_, rfl⟩
        subst hkN
        go_loopw [26] (fun q wr => ∃ (j : Nat) (s : Gs) (rt dp L : Nat → Nat), j ≤ n ∧ q = .int .i64 (j : Int) ∧ goF N id (ls.take j) = some L ∧ Gv wr B B j s ∧ Nl s ∧ Uf s.ps.length L s.up s.le rt dp ∧ s.ps.length = N ∧ s.ls = ls.take j ∧ Below B (w.alloc (Obj.cells #[.int .i64 (N : Int), .slice a n c] 29)) wr ∧ Cl wr s ∧ Dg s) (fun q _ => n - (intOf q).toNat)
        case atStart => exact ⟨0, Gs.fresh ps kv, id, fun _ => 0, id, Nat.zero_le _, rfl, rfl, HG2.out, ⟨rfl, rfl, fun _ => rfl, rfl⟩, by
          show Uf ps.length id (fun _ => none) (fun i => (i : Int)) id (fun _ => 0)
          exact Uf.start _, hpl'.out, rfl, HBL.out, fun k t l h => by simp [Gs.fresh] at h, fun j => rfl⟩
        case round =>
          obtain ⟨j, s, rt, dp, L, hj, rfl, hgo, hgv, hnl, huf, hps, hls, hbl, hcl, hdg⟩ := hrel
          have HCL := kide hcl
          have HDG := kide hdg
          clear hcl hdg
          have HGO := kide hgo
          have HGV := kide hgv
          have HNL := kide hnl
          have HUF := kide huf
          have HPS := kide hps
          have HLS := kide hls
          have HBW := kide hbl
          clear hgo hgv hnl huf hps hls hbl HG2 HBL hpl'
          have hn2 : n ≤ 1048576 := by rw [← HN.out]; exact HR.out.1
          by_cases hlt : j < n
          · have i0 : (j : Int) < (n : Int) := by omega
            obtain ⟨⟨la, lb, ly⟩, gx⟩ : ∃ x, ls[j]? = some x := ⟨ls[j]'(by rw [HN.out]; exact hlt), List.getElem?_eq_getElem _⟩
            have hbw : Below w.heap.size w wr := Below.trans ((Below.refl _ _).alloc (Nat.le_refl _) _) (HBW.out.mono (by have := HB.out; omega))
            obtain ⟨-, hin, h | ⟨b2, o2, rfl, hc⟩⟩ := HR.out.later hbw
            · rw [h] at gx; simp at gx
            obtain ⟨p0, p1, p2⟩ := hc j _ gx
            simp only [] at p0 p1 p2
            have hzB : B ≤ wr.heap.size := Nat.le_trans (by have := HB.out; simp; omega) HBW.out.size
            have hbx1 : Below wr.heap.size wr (wr.alloc (Obj.cells #[.int .i64 la, .int .i64 lb, .int .i64 ly] 55)) := (Below.refl _ _).alloc (Nat.le_refl _) _
            have XL := kide (Bx.new wr #[.int .i64 la, .int .i64 lb, .int .i64 ly] 55)
            have HG1 := kide (HGV.out.later hbx1)
            have HC1 := kide (HCL.out.kept (Kt.of_below hbx1))
            have HB1 := kide (HBW.out.trans (hbx1.mono hzB))
            have HTK := kide (goF_take HGO.out gx)
            have hz1 : B ≤ (wr.alloc (Obj.cells #[.int .i64 la, .int .i64 lb, .int .i64 ly] 55)).heap.size := Nat.le_trans hzB hbx1.size
            have GX := kide gx
            clear hc gx hin hbw hbx1
            go_wp2_with fail
            obtain ⟨bx, hbx⟩ : ∃ x, wr.heap.size = x := ⟨_, rfl⟩
            rw [hbx] at XL ⊢
            generalize wr.alloc (Obj.cells #[.int .i64 la, .int .i64 lb, .int .i64 ly] 55) = u1 at *
            have e0 := XL.out.cell 0
            have e1 := XL.out.cell 1
            have e2 := XL.out.cell 2
            simp at e0 e1 e2
            clear hbx p0 p1 p2
            have HHA := kide (fun u (hu : Gv u B B j s) => has_any hu HNL.out.k (by rw [HPS.out]; omega) la)
            have HHB := kide (fun u (hu : Gv u B B j s) => has_any hu HNL.out.k (by rw [HPS.out]; omega) lb)
            have HHY := kide (fun u => whyOk_any ly u)
            unfold pt at HHA HHB
            have HNE : Hid (∀ u, Below B (w.alloc (Obj.cells #[.int .i64 (N : Int), .slice (some ⟨b2, o2, none⟩) n c] 29)) u → True) := fun _ _ => trivial
            rw [HPS.out] at HHA HHB
            by_cases hA : 0 ≤ la ∧ la < (N : Int)
            case neg =>
              have hnone : Hid (forR (N : Int) ls = none) := by
                show _ = _
                unfold forR
                rw [if_pos ⟨by omega, by omega⟩]
                refine goF_none (k := j + 1) ?_
                rw [Int.toNat_natCast, HTK.out, if_neg]
                rw [lkOk_iff]
                rintro ⟨q1, q2, q3, q4⟩
                exact hA q1
              simp only [decide_eq_false hA] at HHA
              refine wp_region_x (SA := fun _ => False) (SB := fun u => u.cell? ⟨bx, 0, none⟩ = some (Value.int .i64 la) ∧ u.cell? ⟨bx, 1, none⟩ = some (Value.int .i64 lb) ∧ u.cell? ⟨bx, 2, none⟩ = some (Value.int .i64 ly)) (k := 999) (by kernel_rfl) ?_
              have hs : Hid ((fun u => u.cell? ⟨bx, 0, none⟩ = some (Value.int .i64 la) ∧ u.cell? ⟨bx, 1, none⟩ = some (Value.int .i64 lb) ∧ u.cell? ⟨bx, 2, none⟩ = some (Value.int .i64 ly)) u1.drew) := ⟨e0, e1, e2⟩
              clear e0 e1 e2
              have HGd : Hid (Gv u1.drew B B j s) := HG1.out.later (Below.refl _ _).drew
              have HBd := kide HB1.out.drew
              have HCd : Hid (Cl u1.drew s) := HC1.out.kept (Kt.of_below (Below.refl _ _).drew)
              have XLd : Hid (Bx u1.drew bx _ 55) := XL.out
              have hzd : B ≤ u1.drew.heap.size := hz1
              generalize u1.drew = u2 at *
              have HHA2 := kide (HHA.out u2 HGd.out)
              have HHB2 := kide (HHB.out u2 HGd.out)
              have HHY2 := kide (HHY.out u2)
              try go_simp
              refine wpAnyX_both (T := fun _ => True) (i := 0) (v := Value.pointer (some ⟨B, 0, none⟩)) rfl (by kernel_rfl) (by kernel_rfl) (by kernel_rfl) (fun _ _ _ h => h) (by decide) (fun _ h => h.elim) (fun _ _ => trivial) (Sx.behind (by kernel_rfl) hs.out) (Or.inl ⟨by rfl, fun u hu => by go_simp⟩) ?_
              try go_simp
              refine wpAnyX_both (T := fun _ => True) (i := 1) (v := Value.pointer (some ⟨bx, 0, none⟩)) rfl (by kernel_rfl) (by kernel_rfl) (by kernel_rfl) (fun _ _ _ h => h) (by decide) (fun _ h => h.elim) (fun _ _ => trivial) (Sx.behind (by kernel_rfl) hs.out) (Or.inl ⟨by rfl, fun u hu => by go_simp⟩) ?_
              try go_simp
              refine wpAnyX_both (T := fun u => u.cell? ⟨bx, 0, none⟩ = some (Value.int .i64 la) ∧ u.cell? ⟨bx, 1, none⟩ = some (Value.int .i64 lb) ∧ u.cell? ⟨bx, 2, none⟩ = some (Value.int .i64 ly)) (i := 2) (v := Value.int .i64 la) rfl (by kernel_rfl) (by kernel_rfl) (by kernel_rfl) (fun _ _ _ h => h) (by decide) (fun _ h => h.elim) (fun _ h => h) (Sx.behind (by kernel_rfl) hs.out) (Or.inl ⟨by rfl, fun u hu => by obtain ⟨e0, e1, e2⟩ := hu; go_simp⟩) ?_
              try go_simp
              refine wpAnyX_ready (rs := [3]) (by kernel_rfl) (by simp) (AllX.cons rfl (fun K hK => ?_) AllX.nil)
              go_simp
              refine Calls.mono HHA2.out ?_
              rintro e w3 ⟨rfl, hw3⟩
              obtain rfl := hw3.symm
              refine hK _ _ (Sx.behind (by kernel_rfl) hs.out) ?_
              clear hK K
              try go_simp
              refine wpAnyX_both (T := fun _ => True) (i := 4) (v := Value.bool true) rfl (by kernel_rfl) (by kernel_rfl) (by kernel_rfl) (fun _ _ _ h => h) (by decide) (fun _ h => h.elim) (fun _ _ => trivial) (Sx.behind (by kernel_rfl) hs.out) (Or.inl ⟨by rfl, fun u hu => by go_simp⟩) ?_
              try go_simp
              refine wpAnyX_both (T := fun _ => True) (i := 5) (v := Value.bool true) rfl (by kernel_rfl) (by kernel_rfl) (by kernel_rfl) (fun _ _ _ h => h) (by decide) (fun _ h => h.elim) (fun _ _ => trivial) (Sx.behind (by kernel_rfl) hs.out) (Or.inl ⟨by rfl, fun u hu => by go_simp⟩) ?_
              try go_simp
              refine wpAnyX_both (T := fun _ => True) (i := 6) (v := undef) rfl (by kernel_rfl) (by kernel_rfl) (by kernel_rfl) (fun _ _ _ h => h) (by decide) (fun _ h => h.elim) (fun _ _ => trivial) (Sx.behind (by kernel_rfl) hs.out) (Or.inr ⟨by rfl, rfl⟩) ?_
              try go_simp
              refine wpAnyX_both (T := fun _ => True) (i := 7) (v := undef) rfl (by kernel_rfl) (by kernel_rfl) (by kernel_rfl) (fun _ _ _ h => h) (by decide) (fun _ h => h.elim) (fun _ _ => trivial) (Sx.behind (by kernel_rfl) hs.out) (Or.inr ⟨by rfl, rfl⟩) ?_
              try go_simp
              refine wpAnyX_both (T := fun _ => True) (i := 8) (v := undef) rfl (by kernel_rfl) (by kernel_rfl) (by kernel_rfl) (fun _ _ _ h => h) (by decide) (fun _ h => h.elim) (fun _ _ => trivial) (Sx.behind (by kernel_rfl) hs.out) (Or.inr ⟨by rfl, rfl⟩) ?_
              try go_simp
              refine wpAnyX_both (T := fun _ => True) (i := 9) (v := undef) rfl (by kernel_rfl) (by kernel_rfl) (by kernel_rfl) (fun _ _ _ h => h) (by decide) (fun _ h => h.elim) (fun _ _ => trivial) (Sx.behind (by kernel_rfl) hs.out) (Or.inr ⟨by rfl, rfl⟩) ?_
              try go_simp
              refine wpAnyX_both (T := fun _ => True) (i := 10) (v := undef) rfl (by kernel_rfl) (by kernel_rfl) (by kernel_rfl) (fun _ _ _ h => h) (by decide) (fun _ h => h.elim) (fun _ _ => trivial) (Sx.behind (by kernel_rfl) hs.out) (Or.inr ⟨by rfl, rfl⟩) ?_
              try go_simp
              refine wpAnyX_both (T := fun _ => True) (i := 11) (v := Value.bool true) rfl (by kernel_rfl) (by kernel_rfl) (by kernel_rfl) (fun _ _ _ h => h) (by decide) (fun _ h => h.elim) (fun _ _ => trivial) (Sx.behind (by kernel_rfl) hs.out) (Or.inl ⟨by rfl, fun u hu => by go_simp⟩) ?_
              try go_simp
              refine wpAnyX_both (T := fun _ => True) (i := 12) (v := Value.bool true) rfl (by kernel_rfl) (by kernel_rfl) (by kernel_rfl) (fun _ _ _ h => h) (by decide) (fun _ h => h.elim) (fun _ _ => trivial) (Sx.behind (by kernel_rfl) hs.out) (Or.inl ⟨by rfl, fun u hu => by go_simp⟩) ?_
              try go_simp
              refine wpAnyX_both (T := fun _ => True) (i := 13) (v := undef) rfl (by kernel_rfl) (by kernel_rfl) (by kernel_rfl) (fun _ _ _ h => h) (by decide) (fun _ h => h.elim) (fun _ _ => trivial) (Sx.behind (by kernel_rfl) hs.out) (Or.inr ⟨by rfl, rfl⟩) ?_
              try go_simp
              refine wpAnyX_both (T := fun _ => True) (i := 14) (v := undef) rfl (by kernel_rfl) (by kernel_rfl) (by kernel_rfl) (fun _ _ _ h => h) (by decide) (fun _ h => h.elim) (fun _ _ => trivial) (Sx.behind (by kernel_rfl) hs.out) (Or.inr ⟨by rfl, rfl⟩) ?_
              try go_simp
              refine wpAnyX_both (T := fun _ => True) (i := 15) (v := undef) rfl (by kernel_rfl) (by kernel_rfl) (by kernel_rfl) (fun _ _ _ h => h) (by decide) (fun _ h => h.elim) (fun _ _ => trivial) (Sx.behind (by kernel_rfl) hs.out) (Or.inr ⟨by rfl, rfl⟩) ?_
              try go_simp
              refine wpAnyX_both (T := fun _ => True) (i := 16) (v := undef) rfl (by kernel_rfl) (by kernel_rfl) (by kernel_rfl) (fun _ _ _ h => h) (by decide) (fun _ h => h.elim) (fun _ _ => trivial) (Sx.behind (by kernel_rfl) hs.out) (Or.inr ⟨by rfl, rfl⟩) ?_
              try go_simp
              refine wpAnyX_both (T := fun _ => True) (i := 17) (v := Value.bool true) rfl (by kernel_rfl) (by kernel_rfl) (by kernel_rfl) (fun _ _ _ h => h) (by decide) (fun _ h => h.elim) (fun _ _ => trivial) (Sx.behind (by kernel_rfl) hs.out) (Or.inl ⟨by rfl, fun u hu => by go_simp⟩) ?_
              try go_simp
              refine wpAnyX_both (T := fun _ => True) (i := 18) (v := Value.bool true) rfl (by kernel_rfl) (by kernel_rfl) (by kernel_rfl) (fun _ _ _ h => h) (by decide) (fun _ h => h.elim) (fun _ _ => trivial) (Sx.behind (by kernel_rfl) hs.out) (Or.inl ⟨by rfl, fun u hu => by go_simp⟩) ?_
              try go_simp
              refine wpAnyX_both (T := fun _ => True) (i := 19) (v := undef) rfl (by kernel_rfl) (by kernel_rfl) (by kernel_rfl) (fun _ _ _ h => h) (by decide) (fun _ h => h.elim) (fun _ _ => trivial) (Sx.behind (by kernel_rfl) hs.out) (Or.inr ⟨by rfl, rfl⟩) ?_
              try go_simp
              refine wpAnyX_both (T := fun _ => True) (i := 20) (v := undef) rfl (by kernel_rfl) (by kernel_rfl) (by kernel_rfl) (fun _ _ _ h => h) (by decide) (fun _ h => h.elim) (fun _ _ => trivial) (Sx.behind (by kernel_rfl) hs.out) (Or.inr ⟨by rfl, rfl⟩) ?_
              try go_simp
              refine wpAnyX_both (T := fun _ => True) (i := 21) (v := undef) rfl (by kernel_rfl) (by kernel_rfl) (by kernel_rfl) (fun _ _ _ h => h) (by decide) (fun _ h => h.elim) (fun _ _ => trivial) (Sx.behind (by kernel_rfl) hs.out) (Or.inr ⟨by rfl, rfl⟩) ?_
              try go_simp
              refine wpAnyX_both (T := fun _ => True) (i := 22) (v := undef) rfl (by kernel_rfl) (by kernel_rfl) (by kernel_rfl) (fun _ _ _ h => h) (by decide) (fun _ h => h.elim) (fun _ _ => trivial) (Sx.behind (by kernel_rfl) hs.out) (Or.inr ⟨by rfl, rfl⟩) ?_
              try go_simp
              refine wpAnyX_both (T := fun _ => True) (i := 23) (v := undef) rfl (by kernel_rfl) (by kernel_rfl) (by kernel_rfl) (fun _ _ _ h => h) (by decide) (fun _ h => h.elim) (fun _ _ => trivial) (Sx.behind (by kernel_rfl) hs.out) (Or.inr ⟨by rfl, rfl⟩) ?_
              try go_simp
              refine wpAnyX_both (T := fun _ => True) (i := 24) (v := undef) rfl (by kernel_rfl) (by kernel_rfl) (by kernel_rfl) (fun _ _ _ h => h) (by decide) (fun _ h => h.elim) (fun _ _ => trivial) (Sx.behind (by kernel_rfl) hs.out) (Or.inr ⟨by rfl, rfl⟩) ?_
              try go_simp
              refine wpAnyX_both (T := fun _ => True) (i := 25) (v := undef) rfl (by kernel_rfl) (by kernel_rfl) (by kernel_rfl) (fun _ _ _ h => h) (by decide) (fun _ h => h.elim) (fun _ _ => trivial) (Sx.behind (by kernel_rfl) hs.out) (Or.inr ⟨by rfl, rfl⟩) ?_
              try go_simp
              refine wpAnyX_both (T := fun _ => True) (i := 26) (v := undef) rfl (by kernel_rfl) (by kernel_rfl) (by kernel_rfl) (fun _ _ _ h => h) (by decide) (fun _ h => h.elim) (fun _ _ => trivial) (Sx.behind (by kernel_rfl) hs.out) (Or.inr ⟨by rfl, rfl⟩) ?_
              try go_simp
              refine wpAnyX_both (T := fun _ => True) (i := 27) (v := undef) rfl (by kernel_rfl) (by kernel_rfl) (by kernel_rfl) (fun _ _ _ h => h) (by decide) (fun _ h => h.elim) (fun _ _ => trivial) (Sx.behind (by kernel_rfl) hs.out) (Or.inr ⟨by rfl, rfl⟩) ?_
              try go_simp
              refine wpAnyX_both (T := fun _ => True) (i := 28) (v := undef) rfl (by kernel_rfl) (by kernel_rfl) (by kernel_rfl) (fun _ _ _ h => h) (by decide) (fun _ h => h.elim) (fun _ _ => trivial) (Sx.behind (by kernel_rfl) hs.out) (Or.inr ⟨by rfl, rfl⟩) ?_
              try go_simp
              refine wpAnyX_both (T := fun _ => True) (i := 29) (v := undef) rfl (by kernel_rfl) (by kernel_rfl) (by kernel_rfl) (fun _ _ _ h => h) (by decide) (fun _ h => h.elim) (fun _ _ => trivial) (Sx.behind (by kernel_rfl) hs.out) (Or.inr ⟨by rfl, rfl⟩) ?_
              try go_simp
              refine wpAnyX_both (T := fun _ => True) (i := 30) (v := undef) rfl (by kernel_rfl) (by kernel_rfl) (by kernel_rfl) (fun _ _ _ h => h) (by decide) (fun _ h => h.elim) (fun _ _ => trivial) (Sx.behind (by kernel_rfl) hs.out) (Or.inr ⟨by rfl, rfl⟩) ?_
              try go_simp
              refine wpAnyX_both (T := fun _ => True) (i := 31) (v := undef) rfl (by kernel_rfl) (by kernel_rfl) (by kernel_rfl) (fun _ _ _ h => h) (by decide) (fun _ h => h.elim) (fun _ _ => trivial) (Sx.behind (by kernel_rfl) hs.out) (Or.inr ⟨by rfl, rfl⟩) ?_
              try go_simp
              refine wpAnyX_both (T := fun _ => True) (i := 32) (v := undef) rfl (by kernel_rfl) (by kernel_rfl) (by kernel_rfl) (fun _ _ _ h => h) (by decide) (fun _ h => h.elim) (fun _ _ => trivial) (Sx.behind (by kernel_rfl) hs.out) (Or.inr ⟨by rfl, rfl⟩) ?_
              try go_simp
              refine wpAnyX_both (T := fun _ => True) (i := 33) (v := undef) rfl (by kernel_rfl) (by kernel_rfl) (by kernel_rfl) (fun _ _ _ h => h) (by decide) (fun _ h => h.elim) (fun _ _ => trivial) (Sx.behind (by kernel_rfl) hs.out) (Or.inr ⟨by rfl, rfl⟩) ?_
              try go_simp
              refine wpAnyX_both (T := fun _ => True) (i := 34) (v := undef) rfl (by kernel_rfl) (by kernel_rfl) (by kernel_rfl) (fun _ _ _ h => h) (by decide) (fun _ h => h.elim) (fun _ _ => trivial) (Sx.behind (by kernel_rfl) hs.out) (Or.inr ⟨by rfl, rfl⟩) ?_
              try go_simp
              refine wpAnyX_both (T := fun _ => True) (i := 35) (v := undef) rfl (by kernel_rfl) (by kernel_rfl) (by kernel_rfl) (fun _ _ _ h => h) (by decide) (fun _ h => h.elim) (fun _ _ => trivial) (Sx.behind (by kernel_rfl) hs.out) (Or.inr ⟨by rfl, rfl⟩) ?_
              try go_simp
              refine wpAnyX_both (T := fun _ => True) (i := 36) (v := undef) rfl (by kernel_rfl) (by kernel_rfl) (by kernel_rfl) (fun _ _ _ h => h) (by decide) (fun _ h => h.elim) (fun _ _ => trivial) (Sx.behind (by kernel_rfl) hs.out) (Or.inr ⟨by rfl, rfl⟩) ?_
              try go_simp
              refine wpAnyX_both (T := fun _ => True) (i := 37) (v := undef) rfl (by kernel_rfl) (by kernel_rfl) (by kernel_rfl) (fun _ _ _ h => h) (by decide) (fun _ h => h.elim) (fun _ _ => trivial) (Sx.behind (by kernel_rfl) hs.out) (Or.inr ⟨by rfl, rfl⟩) ?_
              try go_simp
              refine wpAnyX_both (T := fun _ => True) (i := 38) (v := undef) rfl (by kernel_rfl) (by kernel_rfl) (by kernel_rfl) (fun _ _ _ h => h) (by decide) (fun _ h => h.elim) (fun _ _ => trivial) (Sx.behind (by kernel_rfl) hs.out) (Or.inr ⟨by rfl, rfl⟩) ?_
              try go_simp
              refine wpAnyX_both (T := fun _ => True) (i := 39) (v := undef) rfl (by kernel_rfl) (by kernel_rfl) (by kernel_rfl) (fun _ _ _ h => h) (by decide) (fun _ h => h.elim) (fun _ _ => trivial) (Sx.behind (by kernel_rfl) hs.out) (Or.inr ⟨by rfl, rfl⟩) ?_
              try go_simp
              refine wpAnyX_both (T := fun _ => True) (i := 40) (v := Value.bool true) rfl (by kernel_rfl) (by kernel_rfl) (by kernel_rfl) (fun _ _ _ h => h) (by decide) (fun _ h => h.elim) (fun _ _ => trivial) (Sx.behind (by kernel_rfl) hs.out) (Or.inl ⟨by rfl, fun u hu => by go_simp⟩) ?_
              try go_simp
              refine wpAnyX_done (by kernel_rfl) ?_ _
              skip
              go_wp2_with fail
              go_ret
              exact ⟨Below.trans ((Below.refl _ _).alloc (Nat.le_refl _) _) (HBd.out.mono (by have := HB.out; omega)), .inl ⟨hnone.out, rfl⟩⟩
            simp only [decide_eq_true hA] at HHA
            by_cases hB2 : 0 ≤ lb ∧ lb < (N : Int)
            case neg =>
              have hnone : Hid (forR (N : Int) ls = none) := by
                show _ = _
                unfold forR
                rw [if_pos ⟨by omega, by omega⟩]
                refine goF_none (k := j + 1) ?_
                rw [Int.toNat_natCast, HTK.out, if_neg]
                rw [lkOk_iff]
                rintro ⟨q1, q2, q3, q4⟩
                exact hB2 q2
              simp only [decide_eq_false hB2] at HHB
              refine wp_region_x (SA := fun _ => False) (SB := fun u => u.cell? ⟨bx, 0, none⟩ = some (Value.int .i64 la) ∧ u.cell? ⟨bx, 1, none⟩ = some (Value.int .i64 lb) ∧ u.cell? ⟨bx, 2, none⟩ = some (Value.int .i64 ly)) (k := 999) (by kernel_rfl) ?_
              have hs : Hid ((fun u => u.cell? ⟨bx, 0, none⟩ = some (Value.int .i64 la) ∧ u.cell? ⟨bx, 1, none⟩ = some (Value.int .i64 lb) ∧ u.cell? ⟨bx, 2, none⟩ = some (Value.int .i64 ly)) u1.drew) := ⟨e0, e1, e2⟩
              clear e0 e1 e2
              have HGd : Hid (Gv u1.drew B B j s) := HG1.out.later (Below.refl _ _).drew
              have HBd := kide HB1.out.drew
              have HCd : Hid (Cl u1.drew s) := HC1.out.kept (Kt.of_below (Below.refl _ _).drew)
              have XLd : Hid (Bx u1.drew bx _ 55) := XL.out
              have hzd : B ≤ u1.drew.heap.size := hz1
              generalize u1.drew = u2 at *
              have HHA2 := kide (HHA.out u2 HGd.out)
              have HHB2 := kide (HHB.out u2 HGd.out)
              have HHY2 := kide (HHY.out u2)
              try go_simp
              refine wpAnyX_both (T := fun _ => True) (i := 0) (v := Value.pointer (some ⟨B, 0, none⟩)) rfl (by kernel_rfl) (by kernel_rfl) (by kernel_rfl) (fun _ _ _ h => h) (by decide) (fun _ h => h.elim) (fun _ _ => trivial) (Sx.behind (by kernel_rfl) hs.out) (Or.inl ⟨by rfl, fun u hu => by go_simp⟩) ?_
              try go_simp
              refine wpAnyX_both (T := fun _ => True) (i := 1) (v := Value.pointer (some ⟨bx, 0, none⟩)) rfl (by kernel_rfl) (by kernel_rfl) (by kernel_rfl) (fun _ _ _ h => h) (by decide) (fun _ h => h.elim) (fun _ _ => trivial) (Sx.behind (by kernel_rfl) hs.out) (Or.inl ⟨by rfl, fun u hu => by go_simp⟩) ?_
              try go_simp
              refine wpAnyX_both (T := fun u => u.cell? ⟨bx, 0, none⟩ = some (Value.int .i64 la) ∧ u.cell? ⟨bx, 1, none⟩ = some (Value.int .i64 lb) ∧ u.cell? ⟨bx, 2, none⟩ = some (Value.int .i64 ly)) (i := 2) (v := Value.int .i64 la) rfl (by kernel_rfl) (by kernel_rfl) (by kernel_rfl) (fun _ _ _ h => h) (by decide) (fun _ h => h.elim) (fun _ h => h) (Sx.behind (by kernel_rfl) hs.out) (Or.inl ⟨by rfl, fun u hu => by obtain ⟨e0, e1, e2⟩ := hu; go_simp⟩) ?_
              try go_simp
              refine wpAnyX_ready (rs := [3]) (by kernel_rfl) (by simp) (AllX.cons rfl (fun K hK => ?_) AllX.nil)
              go_simp
              refine Calls.mono HHA2.out ?_
              rintro e w3 ⟨rfl, hw3⟩
              obtain rfl := hw3.symm
              refine hK _ _ (Sx.behind (by kernel_rfl) hs.out) ?_
              clear hK K
              try go_simp
              refine wpAnyX_both (T := fun _ => True) (i := 4) (v := Value.bool false) rfl (by kernel_rfl) (by kernel_rfl) (by kernel_rfl) (fun _ _ _ h => h) (by decide) (fun _ h => h.elim) (fun _ _ => trivial) (Sx.behind (by kernel_rfl) hs.out) (Or.inl ⟨by rfl, fun u hu => by go_simp⟩) ?_
              try go_simp
              refine wpAnyX_both (T := fun _ => True) (i := 5) (v := Value.bool false) rfl (by kernel_rfl) (by kernel_rfl) (by kernel_rfl) (fun _ _ _ h => h) (by decide) (fun _ h => h.elim) (fun _ _ => trivial) (Sx.behind (by kernel_rfl) hs.out) (Or.inl ⟨by rfl, fun u hu => by go_simp⟩) ?_
              try go_simp
              refine wpAnyX_both (T := fun _ => True) (i := 6) (v := Value.pointer (some ⟨B, 0, none⟩)) rfl (by kernel_rfl) (by kernel_rfl) (by kernel_rfl) (fun _ _ _ h => h) (by decide) (fun _ h => h.elim) (fun _ _ => trivial) (Sx.behind (by kernel_rfl) hs.out) (Or.inl ⟨by rfl, fun u hu => by go_simp⟩) ?_
              try go_simp
              refine wpAnyX_both (T := fun _ => True) (i := 7) (v := Value.pointer (some ⟨bx, 1, none⟩)) rfl (by kernel_rfl) (by kernel_rfl) (by kernel_rfl) (fun _ _ _ h => h) (by decide) (fun _ h => h.elim) (fun _ _ => trivial) (Sx.behind (by kernel_rfl) hs.out) (Or.inl ⟨by rfl, fun u hu => by go_simp⟩) ?_
              try go_simp
              refine wpAnyX_both (T := fun u => u.cell? ⟨bx, 0, none⟩ = some (Value.int .i64 la) ∧ u.cell? ⟨bx, 1, none⟩ = some (Value.int .i64 lb) ∧ u.cell? ⟨bx, 2, none⟩ = some (Value.int .i64 ly)) (i := 8) (v := Value.int .i64 lb) rfl (by kernel_rfl) (by kernel_rfl) (by kernel_rfl) (fun _ _ _ h => h) (by decide) (fun _ h => h.elim) (fun _ h => h) (Sx.behind (by kernel_rfl) hs.out) (Or.inl ⟨by rfl, fun u hu => by obtain ⟨e0, e1, e2⟩ := hu; go_simp⟩) ?_
              try go_simp
              refine wpAnyX_ready (rs := [9]) (by kernel_rfl) (by simp) (AllX.cons rfl (fun K hK => ?_) AllX.nil)
              go_simp
              refine Calls.mono HHB2.out ?_
              rintro e w3 ⟨rfl, hw3⟩
              obtain rfl := hw3.symm
              refine hK _ _ (Sx.behind (by kernel_rfl) hs.out) ?_
              clear hK K
              try go_simp
              refine wpAnyX_both (T := fun _ => True) (i := 10) (v := Value.bool true) rfl (by kernel_rfl) (by kernel_rfl) (by kernel_rfl) (fun _ _ _ h => h) (by decide) (fun _ h => h.elim) (fun _ _ => trivial) (Sx.behind (by kernel_rfl) hs.out) (Or.inl ⟨by rfl, fun u hu => by go_simp⟩) ?_
              try go_simp
              refine wpAnyX_both (T := fun _ => True) (i := 11) (v := Value.bool true) rfl (by kernel_rfl) (by kernel_rfl) (by kernel_rfl) (fun _ _ _ h => h) (by decide) (fun _ h => h.elim) (fun _ _ => trivial) (Sx.behind (by kernel_rfl) hs.out) (Or.inl ⟨by rfl, fun u hu => by go_simp⟩) ?_
              try go_simp
              refine wpAnyX_both (T := fun _ => True) (i := 12) (v := Value.bool true) rfl (by kernel_rfl) (by kernel_rfl) (by kernel_rfl) (fun _ _ _ h => h) (by decide) (fun _ h => h.elim) (fun _ _ => trivial) (Sx.behind (by kernel_rfl) hs.out) (Or.inl ⟨by rfl, fun u hu => by go_simp⟩) ?_
              try go_simp
              refine wpAnyX_both (T := fun _ => True) (i := 13) (v := undef) rfl (by kernel_rfl) (by kernel_rfl) (by kernel_rfl) (fun _ _ _ h => h) (by decide) (fun _ h => h.elim) (fun _ _ => trivial) (Sx.behind (by kernel_rfl) hs.out) (Or.inr ⟨by rfl, rfl⟩) ?_
              try go_simp
              refine wpAnyX_both (T := fun _ => True) (i := 14) (v := undef) rfl (by kernel_rfl) (by kernel_rfl) (by kernel_rfl) (fun _ _ _ h => h) (by decide) (fun _ h => h.elim) (fun _ _ => trivial) (Sx.behind (by kernel_rfl) hs.out) (Or.inr ⟨by rfl, rfl⟩) ?_
              try go_simp
              refine wpAnyX_both (T := fun _ => True) (i := 15) (v := undef) rfl (by kernel_rfl) (by kernel_rfl) (by kernel_rfl) (fun _ _ _ h => h) (by decide) (fun _ h => h.elim) (fun _ _ => trivial) (Sx.behind (by kernel_rfl) hs.out) (Or.inr ⟨by rfl, rfl⟩) ?_
              try go_simp
              refine wpAnyX_both (T := fun _ => True) (i := 16) (v := undef) rfl (by kernel_rfl) (by kernel_rfl) (by kernel_rfl) (fun _ _ _ h => h) (by decide) (fun _ h => h.elim) (fun _ _ => trivial) (Sx.behind (by kernel_rfl) hs.out) (Or.inr ⟨by rfl, rfl⟩) ?_
              try go_simp
              refine wpAnyX_both (T := fun _ => True) (i := 17) (v := Value.bool true) rfl (by kernel_rfl) (by kernel_rfl) (by kernel_rfl) (fun _ _ _ h => h) (by decide) (fun _ h => h.elim) (fun _ _ => trivial) (Sx.behind (by kernel_rfl) hs.out) (Or.inl ⟨by rfl, fun u hu => by go_simp⟩) ?_
              try go_simp
              refine wpAnyX_both (T := fun _ => True) (i := 18) (v := Value.bool true) rfl (by kernel_rfl) (by kernel_rfl) (by kernel_rfl) (fun _ _ _ h => h) (by decide) (fun _ h => h.elim) (fun _ _ => trivial) (Sx.behind (by kernel_rfl) hs.out) (Or.inl ⟨by rfl, fun u hu => by go_simp⟩) ?_
              try go_simp
              refine wpAnyX_both (T := fun _ => True) (i := 19) (v := undef) rfl (by kernel_rfl) (by kernel_rfl) (by kernel_rfl) (fun _ _ _ h => h) (by decide) (fun _ h => h.elim) (fun _ _ => trivial) (Sx.behind (by kernel_rfl) hs.out) (Or.inr ⟨by rfl, rfl⟩) ?_
              try go_simp
              refine wpAnyX_both (T := fun _ => True) (i := 20) (v := undef) rfl (by kernel_rfl) (by kernel_rfl) (by kernel_rfl) (fun _ _ _ h => h) (by decide) (fun _ h => h.elim) (fun _ _ => trivial) (Sx.behind (by kernel_rfl) hs.out) (Or.inr ⟨by rfl, rfl⟩) ?_
              try go_simp
              refine wpAnyX_both (T := fun _ => True) (i := 21) (v := undef) rfl (by kernel_rfl) (by kernel_rfl) (by kernel_rfl) (fun _ _ _ h => h) (by decide) (fun _ h => h.elim) (fun _ _ => trivial) (Sx.behind (by kernel_rfl) hs.out) (Or.inr ⟨by rfl, rfl⟩) ?_
              try go_simp
              refine wpAnyX_both (T := fun _ => True) (i := 22) (v := undef) rfl (by kernel_rfl) (by kernel_rfl) (by kernel_rfl) (fun _ _ _ h => h) (by decide) (fun _ h => h.elim) (fun _ _ => trivial) (Sx.behind (by kernel_rfl) hs.out) (Or.inr ⟨by rfl, rfl⟩) ?_
              try go_simp
              refine wpAnyX_both (T := fun _ => True) (i := 23) (v := undef) rfl (by kernel_rfl) (by kernel_rfl) (by kernel_rfl) (fun _ _ _ h => h) (by decide) (fun _ h => h.elim) (fun _ _ => trivial) (Sx.behind (by kernel_rfl) hs.out) (Or.inr ⟨by rfl, rfl⟩) ?_
              try go_simp
              refine wpAnyX_both (T := fun _ => True) (i := 24) (v := undef) rfl (by kernel_rfl) (by kernel_rfl) (by kernel_rfl) (fun _ _ _ h => h) (by decide) (fun _ h => h.elim) (fun _ _ => trivial) (Sx.behind (by kernel_rfl) hs.out) (Or.inr ⟨by rfl, rfl⟩) ?_
              try go_simp
              refine wpAnyX_both (T := fun _ => True) (i := 25) (v := undef) rfl (by kernel_rfl) (by kernel_rfl) (by kernel_rfl) (fun _ _ _ h => h) (by decide) (fun _ h => h.elim) (fun _ _ => trivial) (Sx.behind (by kernel_rfl) hs.out) (Or.inr ⟨by rfl, rfl⟩) ?_
              try go_simp
              refine wpAnyX_both (T := fun _ => True) (i := 26) (v := undef) rfl (by kernel_rfl) (by kernel_rfl) (by kernel_rfl) (fun _ _ _ h => h) (by decide) (fun _ h => h.elim) (fun _ _ => trivial) (Sx.behind (by kernel_rfl) hs.out) (Or.inr ⟨by rfl, rfl⟩) ?_
              try go_simp
              refine wpAnyX_both (T := fun _ => True) (i := 27) (v := undef) rfl (by kernel_rfl) (by kernel_rfl) (by kernel_rfl) (fun _ _ _ h => h) (by decide) (fun _ h => h.elim) (fun _ _ => trivial) (Sx.behind (by kernel_rfl) hs.out) (Or.inr ⟨by rfl, rfl⟩) ?_
              try go_simp
              refine wpAnyX_both (T := fun _ => True) (i := 28) (v := undef) rfl (by kernel_rfl) (by kernel_rfl) (by kernel_rfl) (fun _ _ _ h => h) (by decide) (fun _ h => h.elim) (fun _ _ => trivial) (Sx.behind (by kernel_rfl) hs.out) (Or.inr ⟨by rfl, rfl⟩) ?_
              try go_simp
              refine wpAnyX_both (T := fun _ => True) (i := 29) (v := undef) rfl (by kernel_rfl) (by kernel_rfl) (by kernel_rfl) (fun _ _ _ h => h) (by decide) (fun _ h => h.elim) (fun _ _ => trivial) (Sx.behind (by kernel_rfl) hs.out) (Or.inr ⟨by rfl, rfl⟩) ?_
              try go_simp
              refine wpAnyX_both (T := fun _ => True) (i := 30) (v := undef) rfl (by kernel_rfl) (by kernel_rfl) (by kernel_rfl) (fun _ _ _ h => h) (by decide) (fun _ h => h.elim) (fun _ _ => trivial) (Sx.behind (by kernel_rfl) hs.out) (Or.inr ⟨by rfl, rfl⟩) ?_
              try go_simp
              refine wpAnyX_both (T := fun _ => True) (i := 31) (v := undef) rfl (by kernel_rfl) (by kernel_rfl) (by kernel_rfl) (fun _ _ _ h => h) (by decide) (fun _ h => h.elim) (fun _ _ => trivial) (Sx.behind (by kernel_rfl) hs.out) (Or.inr ⟨by rfl, rfl⟩) ?_
              try go_simp
              refine wpAnyX_both (T := fun _ => True) (i := 32) (v := undef) rfl (by kernel_rfl) (by kernel_rfl) (by kernel_rfl) (fun _ _ _ h => h) (by decide) (fun _ h => h.elim) (fun _ _ => trivial) (Sx.behind (by kernel_rfl) hs.out) (Or.inr ⟨by rfl, rfl⟩) ?_
              try go_simp
              refine wpAnyX_both (T := fun _ => True) (i := 33) (v := undef) rfl (by kernel_rfl) (by kernel_rfl) (by kernel_rfl) (fun _ _ _ h => h) (by decide) (fun _ h => h.elim) (fun _ _ => trivial) (Sx.behind (by kernel_rfl) hs.out) (Or.inr ⟨by rfl, rfl⟩) ?_
              try go_simp
              refine wpAnyX_both (T := fun _ => True) (i := 34) (v := undef) rfl (by kernel_rfl) (by kernel_rfl) (by kernel_rfl) (fun _ _ _ h => h) (by decide) (fun _ h => h.elim) (fun _ _ => trivial) (Sx.behind (by kernel_rfl) hs.out) (Or.inr ⟨by rfl, rfl⟩) ?_
              try go_simp
              refine wpAnyX_both (T := fun _ => True) (i := 35) (v := undef) rfl (by kernel_rfl) (by kernel_rfl) (by kernel_rfl) (fun _ _ _ h => h) (by decide) (fun _ h => h.elim) (fun _ _ => trivial) (Sx.behind (by kernel_rfl) hs.out) (Or.inr ⟨by rfl, rfl⟩) ?_
              try go_simp
              refine wpAnyX_both (T := fun _ => True) (i := 36) (v := undef) rfl (by kernel_rfl) (by kernel_rfl) (by kernel_rfl) (fun _ _ _ h => h) (by decide) (fun _ h => h.elim) (fun _ _ => trivial) (Sx.behind (by kernel_rfl) hs.out) (Or.inr ⟨by rfl, rfl⟩) ?_
              try go_simp
              refine wpAnyX_both (T := fun _ => True) (i := 37) (v := undef) rfl (by kernel_rfl) (by kernel_rfl) (by kernel_rfl) (fun _ _ _ h => h) (by decide) (fun _ h => h.elim) (fun _ _ => trivial) (Sx.behind (by kernel_rfl) hs.out) (Or.inr ⟨by rfl, rfl⟩) ?_
              try go_simp
              refine wpAnyX_both (T := fun _ => True) (i := 38) (v := undef) rfl (by kernel_rfl) (by kernel_rfl) (by kernel_rfl) (fun _ _ _ h => h) (by decide) (fun _ h => h.elim) (fun _ _ => trivial) (Sx.behind (by kernel_rfl) hs.out) (Or.inr ⟨by rfl, rfl⟩) ?_
              try go_simp
              refine wpAnyX_both (T := fun _ => True) (i := 39) (v := undef) rfl (by kernel_rfl) (by kernel_rfl) (by kernel_rfl) (fun _ _ _ h => h) (by decide) (fun _ h => h.elim) (fun _ _ => trivial) (Sx.behind (by kernel_rfl) hs.out) (Or.inr ⟨by rfl, rfl⟩) ?_
              try go_simp
              refine wpAnyX_both (T := fun _ => True) (i := 40) (v := Value.bool true) rfl (by kernel_rfl) (by kernel_rfl) (by kernel_rfl) (fun _ _ _ h => h) (by decide) (fun _ h => h.elim) (fun _ _ => trivial) (Sx.behind (by kernel_rfl) hs.out) (Or.inl ⟨by rfl, fun u hu => by go_simp⟩) ?_
              try go_simp
              refine wpAnyX_done (by kernel_rfl) ?_ _
              skip
              go_wp2_with fail
              go_ret
              exact ⟨Below.trans ((Below.refl _ _).alloc (Nat.le_refl _) _) (HBd.out.mono (by have := HB.out; omega)), .inl ⟨hnone.out, rfl⟩⟩
            simp only [decide_eq_true hB2] at HHB
            by_cases hY : 0 ≤ ly ∧ ly ≤ 1000000
            case neg =>
              have hnone : Hid (forR (N : Int) ls = none) := by
                show _ = _
                unfold forR
                rw [if_pos ⟨by omega, by omega⟩]
                refine goF_none (k := j + 1) ?_
                rw [Int.toNat_natCast, HTK.out, if_neg]
                rw [lkOk_iff]
                rintro ⟨q1, q2, q3, q4⟩
                exact hY q3
              simp only [decide_eq_false hY] at HHY
              refine wp_region_x (SA := fun _ => False) (SB := fun u => u.cell? ⟨bx, 0, none⟩ = some (Value.int .i64 la) ∧ u.cell? ⟨bx, 1, none⟩ = some (Value.int .i64 lb) ∧ u.cell? ⟨bx, 2, none⟩ = some (Value.int .i64 ly)) (k := 999) (by kernel_rfl) ?_
              have hs : Hid ((fun u => u.cell? ⟨bx, 0, none⟩ = some (Value.int .i64 la) ∧ u.cell? ⟨bx, 1, none⟩ = some (Value.int .i64 lb) ∧ u.cell? ⟨bx, 2, none⟩ = some (Value.int .i64 ly)) u1.drew) := ⟨e0, e1, e2⟩
              clear e0 e1 e2
              have HGd : Hid (Gv u1.drew B B j s) := HG1.out.later (Below.refl _ _).drew
              have HBd := kide HB1.out.drew
              have HCd : Hid (Cl u1.drew s) := HC1.out.kept (Kt.of_below (Below.refl _ _).drew)
              have XLd : Hid (Bx u1.drew bx _ 55) := XL.out
              have hzd : B ≤ u1.drew.heap.size := hz1
              generalize u1.drew = u2 at *
              have HHA2 := kide (HHA.out u2 HGd.out)
              have HHB2 := kide (HHB.out u2 HGd.out)
              have HHY2 := kide (HHY.out u2)
              try go_simp
              refine wpAnyX_both (T := fun _ => True) (i := 0) (v := Value.pointer (some ⟨B, 0, none⟩)) rfl (by kernel_rfl) (by kernel_rfl) (by kernel_rfl) (fun _ _ _ h => h) (by decide) (fun _ h => h.elim) (fun _ _ => trivial) (Sx.behind (by kernel_rfl) hs.out) (Or.inl ⟨by rfl, fun u hu => by go_simp⟩) ?_
              try go_simp
              refine wpAnyX_both (T := fun _ => True) (i := 1) (v := Value.pointer (some ⟨bx, 0, none⟩)) rfl (by kernel_rfl) (by kernel_rfl) (by kernel_rfl) (fun _ _ _ h => h) (by decide) (fun _ h => h.elim) (fun _ _ => trivial) (Sx.behind (by kernel_rfl) hs.out) (Or.inl ⟨by rfl, fun u hu => by go_simp⟩) ?_
              try go_simp
              refine wpAnyX_both (T := fun u => u.cell? ⟨bx, 0, none⟩ = some (Value.int .i64 la) ∧ u.cell? ⟨bx, 1, none⟩ = some (Value.int .i64 lb) ∧ u.cell? ⟨bx, 2, none⟩ = some (Value.int .i64 ly)) (i := 2) (v := Value.int .i64 la) rfl (by kernel_rfl) (by kernel_rfl) (by kernel_rfl) (fun _ _ _ h => h) (by decide) (fun _ h => h.elim) (fun _ h => h) (Sx.behind (by kernel_rfl) hs.out) (Or.inl ⟨by rfl, fun u hu => by obtain ⟨e0, e1, e2⟩ := hu; go_simp⟩) ?_
              try go_simp
              refine wpAnyX_ready (rs := [3]) (by kernel_rfl) (by simp) (AllX.cons rfl (fun K hK => ?_) AllX.nil)
              go_simp
              refine Calls.mono HHA2.out ?_
              rintro e w3 ⟨rfl, hw3⟩
              obtain rfl := hw3.symm
              refine hK _ _ (Sx.behind (by kernel_rfl) hs.out) ?_
              clear hK K
              try go_simp
              refine wpAnyX_both (T := fun _ => True) (i := 4) (v := Value.bool false) rfl (by kernel_rfl) (by kernel_rfl) (by kernel_rfl) (fun _ _ _ h => h) (by decide) (fun _ h => h.elim) (fun _ _ => trivial) (Sx.behind (by kernel_rfl) hs.out) (Or.inl ⟨by rfl, fun u hu => by go_simp⟩) ?_
              try go_simp
              refine wpAnyX_both (T := fun _ => True) (i := 5) (v := Value.bool false) rfl (by kernel_rfl) (by kernel_rfl) (by kernel_rfl) (fun _ _ _ h => h) (by decide) (fun _ h => h.elim) (fun _ _ => trivial) (Sx.behind (by kernel_rfl) hs.out) (Or.inl ⟨by rfl, fun u hu => by go_simp⟩) ?_
              try go_simp
              refine wpAnyX_both (T := fun _ => True) (i := 6) (v := Value.pointer (some ⟨B, 0, none⟩)) rfl (by kernel_rfl) (by kernel_rfl) (by kernel_rfl) (fun _ _ _ h => h) (by decide) (fun _ h => h.elim) (fun _ _ => trivial) (Sx.behind (by kernel_rfl) hs.out) (Or.inl ⟨by rfl, fun u hu => by go_simp⟩) ?_
              try go_simp
              refine wpAnyX_both (T := fun _ => True) (i := 7) (v := Value.pointer (some ⟨bx, 1, none⟩)) rfl (by kernel_rfl) (by kernel_rfl) (by kernel_rfl) (fun _ _ _ h => h) (by decide) (fun _ h => h.elim) (fun _ _ => trivial) (Sx.behind (by kernel_rfl) hs.out) (Or.inl ⟨by rfl, fun u hu => by go_simp⟩) ?_
              try go_simp
              refine wpAnyX_both (T := fun u => u.cell? ⟨bx, 0, none⟩ = some (Value.int .i64 la) ∧ u.cell? ⟨bx, 1, none⟩ = some (Value.int .i64 lb) ∧ u.cell? ⟨bx, 2, none⟩ = some (Value.int .i64 ly)) (i := 8) (v := Value.int .i64 lb) rfl (by kernel_rfl) (by kernel_rfl) (by kernel_rfl) (fun _ _ _ h => h) (by decide) (fun _ h => h.elim) (fun _ h => h) (Sx.behind (by kernel_rfl) hs.out) (Or.inl ⟨by rfl, fun u hu => by obtain ⟨e0, e1, e2⟩ := hu; go_simp⟩) ?_
              try go_simp
              refine wpAnyX_ready (rs := [9]) (by kernel_rfl) (by simp) (AllX.cons rfl (fun K hK => ?_) AllX.nil)
              go_simp
              refine Calls.mono HHB2.out ?_
              rintro e w3 ⟨rfl, hw3⟩
              obtain rfl := hw3.symm
              refine hK _ _ (Sx.behind (by kernel_rfl) hs.out) ?_
              clear hK K
              try go_simp
              refine wpAnyX_both (T := fun _ => True) (i := 10) (v := Value.bool false) rfl (by kernel_rfl) (by kernel_rfl) (by kernel_rfl) (fun _ _ _ h => h) (by decide) (fun _ h => h.elim) (fun _ _ => trivial) (Sx.behind (by kernel_rfl) hs.out) (Or.inl ⟨by rfl, fun u hu => by go_simp⟩) ?_
              try go_simp
              refine wpAnyX_both (T := fun _ => True) (i := 11) (v := Value.bool false) rfl (by kernel_rfl) (by kernel_rfl) (by kernel_rfl) (fun _ _ _ h => h) (by decide) (fun _ h => h.elim) (fun _ _ => trivial) (Sx.behind (by kernel_rfl) hs.out) (Or.inl ⟨by rfl, fun u hu => by go_simp⟩) ?_
              try go_simp
              refine wpAnyX_both (T := fun _ => True) (i := 12) (v := Value.bool false) rfl (by kernel_rfl) (by kernel_rfl) (by kernel_rfl) (fun _ _ _ h => h) (by decide) (fun _ h => h.elim) (fun _ _ => trivial) (Sx.behind (by kernel_rfl) hs.out) (Or.inl ⟨by rfl, fun u hu => by go_simp⟩) ?_
              try go_simp
              refine wpAnyX_both (T := fun _ => True) (i := 13) (v := Value.pointer (some ⟨bx, 2, none⟩)) rfl (by kernel_rfl) (by kernel_rfl) (by kernel_rfl) (fun _ _ _ h => h) (by decide) (fun _ h => h.elim) (fun _ _ => trivial) (Sx.behind (by kernel_rfl) hs.out) (Or.inl ⟨by rfl, fun u hu => by go_simp⟩) ?_
              try go_simp
              refine wpAnyX_both (T := fun u => u.cell? ⟨bx, 0, none⟩ = some (Value.int .i64 la) ∧ u.cell? ⟨bx, 1, none⟩ = some (Value.int .i64 lb) ∧ u.cell? ⟨bx, 2, none⟩ = some (Value.int .i64 ly)) (i := 14) (v := Value.int .i64 ly) rfl (by kernel_rfl) (by kernel_rfl) (by kernel_rfl) (fun _ _ _ h => h) (by decide) (fun _ h => h.elim) (fun _ h => h) (Sx.behind (by kernel_rfl) hs.out) (Or.inl ⟨by rfl, fun u hu => by obtain ⟨e0, e1, e2⟩ := hu; go_simp⟩) ?_
              try go_simp
              refine wpAnyX_ready (rs := [15]) (by kernel_rfl) (by simp) (AllX.cons rfl (fun K hK => ?_) AllX.nil)
              go_simp
              refine Calls.mono HHY2.out ?_
              rintro e w3 ⟨rfl, hw3⟩
              obtain rfl := hw3.symm
              refine hK _ _ (Sx.behind (by kernel_rfl) hs.out) ?_
              clear hK K
              try go_simp
              refine wpAnyX_both (T := fun _ => True) (i := 16) (v := Value.bool true) rfl (by kernel_rfl) (by kernel_rfl) (by kernel_rfl) (fun _ _ _ h => h) (by decide) (fun _ h => h.elim) (fun _ _ => trivial) (Sx.behind (by kernel_rfl) hs.out) (Or.inl ⟨by rfl, fun u hu => by go_simp⟩) ?_
              try go_simp
              refine wpAnyX_both (T := fun _ => True) (i := 17) (v := Value.bool true) rfl (by kernel_rfl) (by kernel_rfl) (by kernel_rfl) (fun _ _ _ h => h) (by decide) (fun _ h => h.elim) (fun _ _ => trivial) (Sx.behind (by kernel_rfl) hs.out) (Or.inl ⟨by rfl, fun u hu => by go_simp⟩) ?_
              try go_simp
              refine wpAnyX_both (T := fun _ => True) (i := 18) (v := Value.bool true) rfl (by kernel_rfl) (by kernel_rfl) (by kernel_rfl) (fun _ _ _ h => h) (by decide) (fun _ h => h.elim) (fun _ _ => trivial) (Sx.behind (by kernel_rfl) hs.out) (Or.inl ⟨by rfl, fun u hu => by go_simp⟩) ?_
              try go_simp
              refine wpAnyX_both (T := fun _ => True) (i := 19) (v := undef) rfl (by kernel_rfl) (by kernel_rfl) (by kernel_rfl) (fun _ _ _ h => h) (by decide) (fun _ h => h.elim) (fun _ _ => trivial) (Sx.behind (by kernel_rfl) hs.out) (Or.inr ⟨by rfl, rfl⟩) ?_
              try go_simp
              refine wpAnyX_both (T := fun _ => True) (i := 20) (v := undef) rfl (by kernel_rfl) (by kernel_rfl) (by kernel_rfl) (fun _ _ _ h => h) (by decide) (fun _ h => h.elim) (fun _ _ => trivial) (Sx.behind (by kernel_rfl) hs.out) (Or.inr ⟨by rfl, rfl⟩) ?_
              try go_simp
              refine wpAnyX_both (T := fun _ => True) (i := 21) (v := undef) rfl (by kernel_rfl) (by kernel_rfl) (by kernel_rfl) (fun _ _ _ h => h) (by decide) (fun _ h => h.elim) (fun _ _ => trivial) (Sx.behind (by kernel_rfl) hs.out) (Or.inr ⟨by rfl, rfl⟩) ?_
              try go_simp
              refine wpAnyX_both (T := fun _ => True) (i := 22) (v := undef) rfl (by kernel_rfl) (by kernel_rfl) (by kernel_rfl) (fun _ _ _ h => h) (by decide) (fun _ h => h.elim) (fun _ _ => trivial) (Sx.behind (by kernel_rfl) hs.out) (Or.inr ⟨by rfl, rfl⟩) ?_
              try go_simp
              refine wpAnyX_both (T := fun _ => True) (i := 23) (v := undef) rfl (by kernel_rfl) (by kernel_rfl) (by kernel_rfl) (fun _ _ _ h => h) (by decide) (fun _ h => h.elim) (fun _ _ => trivial) (Sx.behind (by kernel_rfl) hs.out) (Or.inr ⟨by rfl, rfl⟩) ?_
              try go_simp
              refine wpAnyX_both (T := fun _ => True) (i := 24) (v := undef) rfl (by kernel_rfl) (by kernel_rfl) (by kernel_rfl) (fun _ _ _ h => h) (by decide) (fun _ h => h.elim) (fun _ _ => trivial) (Sx.behind (by kernel_rfl) hs.out) (Or.inr ⟨by rfl, rfl⟩) ?_
              try go_simp
              refine wpAnyX_both (T := fun _ => True) (i := 25) (v := undef) rfl (by kernel_rfl) (by kernel_rfl) (by kernel_rfl) (fun _ _ _ h => h) (by decide) (fun _ h => h.elim) (fun _ _ => trivial) (Sx.behind (by kernel_rfl) hs.out) (Or.inr ⟨by rfl, rfl⟩) ?_
              try go_simp
              refine wpAnyX_both (T := fun _ => True) (i := 26) (v := undef) rfl (by kernel_rfl) (by kernel_rfl) (by kernel_rfl) (fun _ _ _ h => h) (by decide) (fun _ h => h.elim) (fun _ _ => trivial) (Sx.behind (by kernel_rfl) hs.out) (Or.inr ⟨by rfl, rfl⟩) ?_
              try go_simp
              refine wpAnyX_both (T := fun _ => True) (i := 27) (v := undef) rfl (by kernel_rfl) (by kernel_rfl) (by kernel_rfl) (fun _ _ _ h => h) (by decide) (fun _ h => h.elim) (fun _ _ => trivial) (Sx.behind (by kernel_rfl) hs.out) (Or.inr ⟨by rfl, rfl⟩) ?_
              try go_simp
              refine wpAnyX_both (T := fun _ => True) (i := 28) (v := undef) rfl (by kernel_rfl) (by kernel_rfl) (by kernel_rfl) (fun _ _ _ h => h) (by decide) (fun _ h => h.elim) (fun _ _ => trivial) (Sx.behind (by kernel_rfl) hs.out) (Or.inr ⟨by rfl, rfl⟩) ?_
              try go_simp
              refine wpAnyX_both (T := fun _ => True) (i := 29) (v := undef) rfl (by kernel_rfl) (by kernel_rfl) (by kernel_rfl) (fun _ _ _ h => h) (by decide) (fun _ h => h.elim) (fun _ _ => trivial) (Sx.behind (by kernel_rfl) hs.out) (Or.inr ⟨by rfl, rfl⟩) ?_
              try go_simp
              refine wpAnyX_both (T := fun _ => True) (i := 30) (v := undef) rfl (by kernel_rfl) (by kernel_rfl) (by kernel_rfl) (fun _ _ _ h => h) (by decide) (fun _ h => h.elim) (fun _ _ => trivial) (Sx.behind (by kernel_rfl) hs.out) (Or.inr ⟨by rfl, rfl⟩) ?_
              try go_simp
              refine wpAnyX_both (T := fun _ => True) (i := 31) (v := undef) rfl (by kernel_rfl) (by kernel_rfl) (by kernel_rfl) (fun _ _ _ h => h) (by decide) (fun _ h => h.elim) (fun _ _ => trivial) (Sx.behind (by kernel_rfl) hs.out) (Or.inr ⟨by rfl, rfl⟩) ?_
              try go_simp
              refine wpAnyX_both (T := fun _ => True) (i := 32) (v := undef) rfl (by kernel_rfl) (by kernel_rfl) (by kernel_rfl) (fun _ _ _ h => h) (by decide) (fun _ h => h.elim) (fun _ _ => trivial) (Sx.behind (by kernel_rfl) hs.out) (Or.inr ⟨by rfl, rfl⟩) ?_
              try go_simp
              refine wpAnyX_both (T := fun _ => True) (i := 33) (v := undef) rfl (by kernel_rfl) (by kernel_rfl) (by kernel_rfl) (fun _ _ _ h => h) (by decide) (fun _ h => h.elim) (fun _ _ => trivial) (Sx.behind (by kernel_rfl) hs.out) (Or.inr ⟨by rfl, rfl⟩) ?_
              try go_simp
              refine wpAnyX_both (T := fun _ => True) (i := 34) (v := undef) rfl (by kernel_rfl) (by kernel_rfl) (by kernel_rfl) (fun _ _ _ h => h) (by decide) (fun _ h => h.elim) (fun _ _ => trivial) (Sx.behind (by kernel_rfl) hs.out) (Or.inr ⟨by rfl, rfl⟩) ?_
              try go_simp
              refine wpAnyX_both (T := fun _ => True) (i := 35) (v := undef) rfl (by kernel_rfl) (by kernel_rfl) (by kernel_rfl) (fun _ _ _ h => h) (by decide) (fun _ h => h.elim) (fun _ _ => trivial) (Sx.behind (by kernel_rfl) hs.out) (Or.inr ⟨by rfl, rfl⟩) ?_
              try go_simp
              refine wpAnyX_both (T := fun _ => True) (i := 36) (v := undef) rfl (by kernel_rfl) (by kernel_rfl) (by kernel_rfl) (fun _ _ _ h => h) (by decide) (fun _ h => h.elim) (fun _ _ => trivial) (Sx.behind (by kernel_rfl) hs.out) (Or.inr ⟨by rfl, rfl⟩) ?_
              try go_simp
              refine wpAnyX_both (T := fun _ => True) (i := 37) (v := undef) rfl (by kernel_rfl) (by kernel_rfl) (by kernel_rfl) (fun _ _ _ h => h) (by decide) (fun _ h => h.elim) (fun _ _ => trivial) (Sx.behind (by kernel_rfl) hs.out) (Or.inr ⟨by rfl, rfl⟩) ?_
              try go_simp
              refine wpAnyX_both (T := fun _ => True) (i := 38) (v := undef) rfl (by kernel_rfl) (by kernel_rfl) (by kernel_rfl) (fun _ _ _ h => h) (by decide) (fun _ h => h.elim) (fun _ _ => trivial) (Sx.behind (by kernel_rfl) hs.out) (Or.inr ⟨by rfl, rfl⟩) ?_
              try go_simp
              refine wpAnyX_both (T := fun _ => True) (i := 39) (v := undef) rfl (by kernel_rfl) (by kernel_rfl) (by kernel_rfl) (fun _ _ _ h => h) (by decide) (fun _ h => h.elim) (fun _ _ => trivial) (Sx.behind (by kernel_rfl) hs.out) (Or.inr ⟨by rfl, rfl⟩) ?_
              try go_simp
              refine wpAnyX_both (T := fun _ => True) (i := 40) (v := Value.bool true) rfl (by kernel_rfl) (by kernel_rfl) (by kernel_rfl) (fun _ _ _ h => h) (by decide) (fun _ h => h.elim) (fun _ _ => trivial) (Sx.behind (by kernel_rfl) hs.out) (Or.inl ⟨by rfl, fun u hu => by go_simp⟩) ?_
              try go_simp
              refine wpAnyX_done (by kernel_rfl) ?_ _
              skip
              go_wp2_with fail
              go_ret
              exact ⟨Below.trans ((Below.refl _ _).alloc (Nat.le_refl _) _) (HBd.out.mono (by have := HB.out; omega)), .inl ⟨hnone.out, rfl⟩⟩
            simp only [decide_eq_true hY] at HHY
            obtain ⟨na, rfl⟩ : ∃ m : Nat, la = (m : Int) := ⟨la.toNat, by omega⟩
            obtain ⟨nb, rfl⟩ : ∃ m : Nat, lb = (m : Int) := ⟨lb.toNat, by omega⟩
            have hna : na < s.ps.length := by rw [HPS.out]; omega
            have hnb : nb < s.ps.length := by rw [HPS.out]; omega
            obtain ⟨pA, hpA⟩ : ∃ p, s.ps[na]? = some p := ⟨_, List.getElem?_eq_getElem hna⟩
            obtain ⟨pB, hpB⟩ : ∃ p, s.ps[nb]? = some p := ⟨_, List.getElem?_eq_getElem hnb⟩
            have HPA := kide hpA
            have HPB := kide hpB
            obtain ⟨kb, kcap, hks⟩ : ∃ kb kcap, s.kc = .slice (some ⟨kb, 0, none⟩) N kcap := by
              rw [HNL.out.k]
              rcases HG1.out.kr.2 with ⟨-, h0⟩ | ⟨g, cap, cur, h0, -⟩
              · omega
              · exact ⟨g, cap, by rw [h0, HPS.out]⟩
            have HKS := kide hks
            have e3 := (HG1.out.k0).trans (congrArg some hks)
            have e4 := HG1.out.kcell HNL.out.k hks hpA
            have e5 := HG1.out.kcell HNL.out.k hks hpB
            have HJ := kide (fun u (hu : Gv u B B j s) (hz : B ≤ u.heap.size) (hx : Bx u bx #[.int .i64 (na : Int), .int .i64 (nb : Int), .int .i64 ly] 55) => join_any hu HNL.out hz HUF.out na nb pA pB hpA hpB ly (by omega) (by rw [HNL.out.n, HLS.out]; simp; omega) bx _ _ hx (by decide) (by decide) (by decide))
            unfold pt at HJ e4 e5
            clear hpA hpB hks hna hnb
            by_cases hsm : rt na = rt nb
            case pos =>
              have HSM := kide hsm
              have hnone : Hid (forR (N : Int) ls = none) := by
                show _ = _
                unfold forR
                rw [if_pos ⟨by omega, by omega⟩]
                refine goF_none (k := j + 1) ?_
                rw [Int.toNat_natCast, HTK.out, if_neg]
                rw [lkOk_iff]
                rintro ⟨q1, q2, q3, q4⟩
                exact q4 (by simpa using (HUF.out.eqv na (by rw [HPS.out]; omega) nb (by rw [HPS.out]; omega)).1 hsm)
              clear hsm
              refine wp_region_x (SA := fun _ => False) (SB := fun u => u.cell? ⟨bx, 0, none⟩ = some (Value.int .i64 (na : Int)) ∧ u.cell? ⟨bx, 1, none⟩ = some (Value.int .i64 (nb : Int)) ∧ u.cell? ⟨bx, 2, none⟩ = some (Value.int .i64 ly) ∧ u.cell? ⟨B, 0, none⟩ = some (Value.slice (some ⟨kb, 0, none⟩) N kcap) ∧ u.cell? ⟨kb, na, none⟩ = some (Value.pointer (some ⟨pA, 0, none⟩)) ∧ u.cell? ⟨kb, nb, none⟩ = some (Value.pointer (some ⟨pB, 0, none⟩))) (k := 999) (by kernel_rfl) ?_
              have hs : Hid ((fun u => u.cell? ⟨bx, 0, none⟩ = some (Value.int .i64 (na : Int)) ∧ u.cell? ⟨bx, 1, none⟩ = some (Value.int .i64 (nb : Int)) ∧ u.cell? ⟨bx, 2, none⟩ = some (Value.int .i64 ly) ∧ u.cell? ⟨B, 0, none⟩ = some (Value.slice (some ⟨kb, 0, none⟩) N kcap) ∧ u.cell? ⟨kb, na, none⟩ = some (Value.pointer (some ⟨pA, 0, none⟩)) ∧ u.cell? ⟨kb, nb, none⟩ = some (Value.pointer (some ⟨pB, 0, none⟩))) u1.drew) := ⟨e0, e1, e2, e3, e4, e5⟩
              clear e0 e1 e2 e3 e4 e5
              have HGd : Hid (Gv u1.drew B B j s) := HG1.out.later (Below.refl _ _).drew
              have HBd := kide HB1.out.drew
              have HCd : Hid (Cl u1.drew s) := HC1.out.kept (Kt.of_below (Below.refl _ _).drew)
              have XLd : Hid (Bx u1.drew bx _ 55) := XL.out
              have hzd : B ≤ u1.drew.heap.size := hz1
              generalize u1.drew = u2 at *
              have HHA2 := kide (HHA.out u2 HGd.out)
              have HHB2 := kide (HHB.out u2 HGd.out)
              have HHY2 := kide (HHY.out u2)
              have HJN := kide (HJ.out u2 HGd.out hzd XLd.out)
              try go_simp
              refine wpAnyX_both (T := fun _ => True) (i := 0) (v := Value.pointer (some ⟨B, 0, none⟩)) rfl (by kernel_rfl) (by kernel_rfl) (by kernel_rfl) (fun _ _ _ h => h) (by decide) (fun _ h => h.elim) (fun _ _ => trivial) (Sx.behind (by kernel_rfl) hs.out) (Or.inl ⟨by rfl, fun u hu => by go_simp⟩) ?_
              try go_simp
              refine wpAnyX_both (T := fun _ => True) (i := 1) (v := Value.pointer (some ⟨bx, 0, none⟩)) rfl (by kernel_rfl) (by kernel_rfl) (by kernel_rfl) (fun _ _ _ h => h) (by decide) (fun _ h => h.elim) (fun _ _ => trivial) (Sx.behind (by kernel_rfl) hs.out) (Or.inl ⟨by rfl, fun u hu => by go_simp⟩) ?_
              try go_simp
              refine wpAnyX_both (T := fun u => u.cell? ⟨bx, 0, none⟩ = some (Value.int .i64 (na : Int)) ∧ u.cell? ⟨bx, 1, none⟩ = some (Value.int .i64 (nb : Int)) ∧ u.cell? ⟨bx, 2, none⟩ = some (Value.int .i64 ly) ∧ u.cell? ⟨B, 0, none⟩ = some (Value.slice (some ⟨kb, 0, none⟩) N kcap) ∧ u.cell? ⟨kb, na, none⟩ = some (Value.pointer (some ⟨pA, 0, none⟩)) ∧ u.cell? ⟨kb, nb, none⟩ = some (Value.pointer (some ⟨pB, 0, none⟩))) (i := 2) (v := Value.int .i64 (na : Int)) rfl (by kernel_rfl) (by kernel_rfl) (by kernel_rfl) (fun _ _ _ h => h) (by decide) (fun _ h => h.elim) (fun _ h => h) (Sx.behind (by kernel_rfl) hs.out) (Or.inl ⟨by rfl, fun u hu => by obtain ⟨e0, e1, e2, e3, e4, e5⟩ := hu; go_simp⟩) ?_
              try go_simp
              refine wpAnyX_ready (rs := [3]) (by kernel_rfl) (by simp) (AllX.cons rfl (fun K hK => ?_) AllX.nil)
              go_simp
              refine Calls.mono HHA2.out ?_
              rintro e w3 ⟨rfl, hw3⟩
              obtain rfl := hw3.symm
              refine hK _ _ (Sx.behind (by kernel_rfl) hs.out) ?_
              clear hK K
              try go_simp
              refine wpAnyX_both (T := fun _ => True) (i := 4) (v := Value.bool false) rfl (by kernel_rfl) (by kernel_rfl) (by kernel_rfl) (fun _ _ _ h => h) (by decide) (fun _ h => h.elim) (fun _ _ => trivial) (Sx.behind (by kernel_rfl) hs.out) (Or.inl ⟨by rfl, fun u hu => by go_simp⟩) ?_
              try go_simp
              refine wpAnyX_both (T := fun _ => True) (i := 5) (v := Value.bool false) rfl (by kernel_rfl) (by kernel_rfl) (by kernel_rfl) (fun _ _ _ h => h) (by decide) (fun _ h => h.elim) (fun _ _ => trivial) (Sx.behind (by kernel_rfl) hs.out) (Or.inl ⟨by rfl, fun u hu => by go_simp⟩) ?_
              try go_simp
              refine wpAnyX_both (T := fun _ => True) (i := 6) (v := Value.pointer (some ⟨B, 0, none⟩)) rfl (by kernel_rfl) (by kernel_rfl) (by kernel_rfl) (fun _ _ _ h => h) (by decide) (fun _ h => h.elim) (fun _ _ => trivial) (Sx.behind (by kernel_rfl) hs.out) (Or.inl ⟨by rfl, fun u hu => by go_simp⟩) ?_
              try go_simp
              refine wpAnyX_both (T := fun _ => True) (i := 7) (v := Value.pointer (some ⟨bx, 1, none⟩)) rfl (by kernel_rfl) (by kernel_rfl) (by kernel_rfl) (fun _ _ _ h => h) (by decide) (fun _ h => h.elim) (fun _ _ => trivial) (Sx.behind (by kernel_rfl) hs.out) (Or.inl ⟨by rfl, fun u hu => by go_simp⟩) ?_
              try go_simp
              refine wpAnyX_both (T := fun u => u.cell? ⟨bx, 0, none⟩ = some (Value.int .i64 (na : Int)) ∧ u.cell? ⟨bx, 1, none⟩ = some (Value.int .i64 (nb : Int)) ∧ u.cell? ⟨bx, 2, none⟩ = some (Value.int .i64 ly) ∧ u.cell? ⟨B, 0, none⟩ = some (Value.slice (some ⟨kb, 0, none⟩) N kcap) ∧ u.cell? ⟨kb, na, none⟩ = some (Value.pointer (some ⟨pA, 0, none⟩)) ∧ u.cell? ⟨kb, nb, none⟩ = some (Value.pointer (some ⟨pB, 0, none⟩))) (i := 8) (v := Value.int .i64 (nb : Int)) rfl (by kernel_rfl) (by kernel_rfl) (by kernel_rfl) (fun _ _ _ h => h) (by decide) (fun _ h => h.elim) (fun _ h => h) (Sx.behind (by kernel_rfl) hs.out) (Or.inl ⟨by rfl, fun u hu => by obtain ⟨e0, e1, e2, e3, e4, e5⟩ := hu; go_simp⟩) ?_
              try go_simp
              refine wpAnyX_ready (rs := [9]) (by kernel_rfl) (by simp) (AllX.cons rfl (fun K hK => ?_) AllX.nil)
              go_simp
              refine Calls.mono HHB2.out ?_
              rintro e w3 ⟨rfl, hw3⟩
              obtain rfl := hw3.symm
              refine hK _ _ (Sx.behind (by kernel_rfl) hs.out) ?_
              clear hK K
              try go_simp
              refine wpAnyX_both (T := fun _ => True) (i := 10) (v := Value.bool false) rfl (by kernel_rfl) (by kernel_rfl) (by kernel_rfl) (fun _ _ _ h => h) (by decide) (fun _ h => h.elim) (fun _ _ => trivial) (Sx.behind (by kernel_rfl) hs.out) (Or.inl ⟨by rfl, fun u hu => by go_simp⟩) ?_
              try go_simp
              refine wpAnyX_both (T := fun _ => True) (i := 11) (v := Value.bool false) rfl (by kernel_rfl) (by kernel_rfl) (by kernel_rfl) (fun _ _ _ h => h) (by decide) (fun _ h => h.elim) (fun _ _ => trivial) (Sx.behind (by kernel_rfl) hs.out) (Or.inl ⟨by rfl, fun u hu => by go_simp⟩) ?_
              try go_simp
              refine wpAnyX_both (T := fun _ => True) (i := 12) (v := Value.bool false) rfl (by kernel_rfl) (by kernel_rfl) (by kernel_rfl) (fun _ _ _ h => h) (by decide) (fun _ h => h.elim) (fun _ _ => trivial) (Sx.behind (by kernel_rfl) hs.out) (Or.inl ⟨by rfl, fun u hu => by go_simp⟩) ?_
              try go_simp
              refine wpAnyX_both (T := fun _ => True) (i := 13) (v := Value.pointer (some ⟨bx, 2, none⟩)) rfl (by kernel_rfl) (by kernel_rfl) (by kernel_rfl) (fun _ _ _ h => h) (by decide) (fun _ h => h.elim) (fun _ _ => trivial) (Sx.behind (by kernel_rfl) hs.out) (Or.inl ⟨by rfl, fun u hu => by go_simp⟩) ?_
              try go_simp
              refine wpAnyX_both (T := fun u => u.cell? ⟨bx, 0, none⟩ = some (Value.int .i64 (na : Int)) ∧ u.cell? ⟨bx, 1, none⟩ = some (Value.int .i64 (nb : Int)) ∧ u.cell? ⟨bx, 2, none⟩ = some (Value.int .i64 ly) ∧ u.cell? ⟨B, 0, none⟩ = some (Value.slice (some ⟨kb, 0, none⟩) N kcap) ∧ u.cell? ⟨kb, na, none⟩ = some (Value.pointer (some ⟨pA, 0, none⟩)) ∧ u.cell? ⟨kb, nb, none⟩ = some (Value.pointer (some ⟨pB, 0, none⟩))) (i := 14) (v := Value.int .i64 ly) rfl (by kernel_rfl) (by kernel_rfl) (by kernel_rfl) (fun _ _ _ h => h) (by decide) (fun _ h => h.elim) (fun _ h => h) (Sx.behind (by kernel_rfl) hs.out) (Or.inl ⟨by rfl, fun u hu => by obtain ⟨e0, e1, e2, e3, e4, e5⟩ := hu; go_simp⟩) ?_
              try go_simp
              refine wpAnyX_ready (rs := [15]) (by kernel_rfl) (by simp) (AllX.cons rfl (fun K hK => ?_) AllX.nil)
              go_simp
              refine Calls.mono HHY2.out ?_
              rintro e w3 ⟨rfl, hw3⟩
              obtain rfl := hw3.symm
              refine hK _ _ (Sx.behind (by kernel_rfl) hs.out) ?_
              clear hK K
              try go_simp
              refine wpAnyX_both (T := fun _ => True) (i := 16) (v := Value.bool false) rfl (by kernel_rfl) (by kernel_rfl) (by kernel_rfl) (fun _ _ _ h => h) (by decide) (fun _ h => h.elim) (fun _ _ => trivial) (Sx.behind (by kernel_rfl) hs.out) (Or.inl ⟨by rfl, fun u hu => by go_simp⟩) ?_
              try go_simp
              refine wpAnyX_both (T := fun _ => True) (i := 17) (v := Value.bool false) rfl (by kernel_rfl) (by kernel_rfl) (by kernel_rfl) (fun _ _ _ h => h) (by decide) (fun _ h => h.elim) (fun _ _ => trivial) (Sx.behind (by kernel_rfl) hs.out) (Or.inl ⟨by rfl, fun u hu => by go_simp⟩) ?_
              try go_simp
              refine wpAnyX_both (T := fun _ => True) (i := 18) (v := Value.bool false) rfl (by kernel_rfl) (by kernel_rfl) (by kernel_rfl) (fun _ _ _ h => h) (by decide) (fun _ h => h.elim) (fun _ _ => trivial) (Sx.behind (by kernel_rfl) hs.out) (Or.inl ⟨by rfl, fun u hu => by go_simp⟩) ?_
              try go_simp
              refine wpAnyX_both (T := fun _ => True) (i := 19) (v := Value.pointer (some ⟨B, 0, none⟩)) rfl (by kernel_rfl) (by kernel_rfl) (by kernel_rfl) (fun _ _ _ h => h) (by decide) (fun _ h => h.elim) (fun _ _ => trivial) (Sx.behind (by kernel_rfl) hs.out) (Or.inl ⟨by rfl, fun u hu => by go_simp⟩) ?_
              try go_simp
              refine wpAnyX_both (T := fun _ => True) (i := 20) (v := Value.pointer (some ⟨B, 0, none⟩)) rfl (by kernel_rfl) (by kernel_rfl) (by kernel_rfl) (fun _ _ _ h => h) (by decide) (fun _ h => h.elim) (fun _ _ => trivial) (Sx.behind (by kernel_rfl) hs.out) (Or.inl ⟨by rfl, fun u hu => by go_simp⟩) ?_
              try go_simp
              refine wpAnyX_both (T := fun _ => True) (i := 21) (v := Value.pointer (some ⟨B, 0, none⟩)) rfl (by kernel_rfl) (by kernel_rfl) (by kernel_rfl) (fun _ _ _ h => h) (by decide) (fun _ h => h.elim) (fun _ _ => trivial) (Sx.behind (by kernel_rfl) hs.out) (Or.inl ⟨by rfl, fun u hu => by go_simp⟩) ?_
              try go_simp
              refine wpAnyX_both (T := fun _ => True) (i := 22) (v := Value.pointer (some ⟨B, 0, none⟩)) rfl (by kernel_rfl) (by kernel_rfl) (by kernel_rfl) (fun _ _ _ h => h) (by decide) (fun _ h => h.elim) (fun _ _ => trivial) (Sx.behind (by kernel_rfl) hs.out) (Or.inl ⟨by rfl, fun u hu => by go_simp⟩) ?_
              try go_simp
              refine wpAnyX_both (T := fun u => u.cell? ⟨bx, 0, none⟩ = some (Value.int .i64 (na : Int)) ∧ u.cell? ⟨bx, 1, none⟩ = some (Value.int .i64 (nb : Int)) ∧ u.cell? ⟨bx, 2, none⟩ = some (Value.int .i64 ly) ∧ u.cell? ⟨B, 0, none⟩ = some (Value.slice (some ⟨kb, 0, none⟩) N kcap) ∧ u.cell? ⟨kb, na, none⟩ = some (Value.pointer (some ⟨pA, 0, none⟩)) ∧ u.cell? ⟨kb, nb, none⟩ = some (Value.pointer (some ⟨pB, 0, none⟩))) (i := 23) (v := Value.slice (some ⟨kb, 0, none⟩) N kcap) rfl (by kernel_rfl) (by kernel_rfl) (by kernel_rfl) (fun _ _ _ h => h) (by decide) (fun _ h => h.elim) (fun _ h => h) (Sx.behind (by kernel_rfl) hs.out) (Or.inl ⟨by rfl, fun u hu => by obtain ⟨e0, e1, e2, e3, e4, e5⟩ := hu; go_simp⟩) ?_
              try go_simp
              refine wpAnyX_both (T := fun _ => True) (i := 24) (v := Value.pointer (some ⟨bx, 0, none⟩)) rfl (by kernel_rfl) (by kernel_rfl) (by kernel_rfl) (fun _ _ _ h => h) (by decide) (fun _ h => h.elim) (fun _ _ => trivial) (Sx.behind (by kernel_rfl) hs.out) (Or.inl ⟨by rfl, fun u hu => by go_simp⟩) ?_
              try go_simp
              refine wpAnyX_both (T := fun u => u.cell? ⟨bx, 0, none⟩ = some (Value.int .i64 (na : Int)) ∧ u.cell? ⟨bx, 1, none⟩ = some (Value.int .i64 (nb : Int)) ∧ u.cell? ⟨bx, 2, none⟩ = some (Value.int .i64 ly) ∧ u.cell? ⟨B, 0, none⟩ = some (Value.slice (some ⟨kb, 0, none⟩) N kcap) ∧ u.cell? ⟨kb, na, none⟩ = some (Value.pointer (some ⟨pA, 0, none⟩)) ∧ u.cell? ⟨kb, nb, none⟩ = some (Value.pointer (some ⟨pB, 0, none⟩))) (i := 25) (v := Value.int .i64 (na : Int)) rfl (by kernel_rfl) (by kernel_rfl) (by kernel_rfl) (fun _ _ _ h => h) (by decide) (fun _ h => h.elim) (fun _ h => h) (Sx.behind (by kernel_rfl) hs.out) (Or.inl ⟨by rfl, fun u hu => by obtain ⟨e0, e1, e2, e3, e4, e5⟩ := hu; go_simp⟩) ?_
              try go_simp
              refine wpAnyX_both (T := fun _ => True) (i := 26) (v := Value.pointer (some ⟨kb, na, none⟩)) rfl (by kernel_rfl) (by kernel_rfl) (by kernel_rfl) (fun _ _ _ h => h) (by decide) (fun _ h => h.elim) (fun _ _ => trivial) (Sx.behind (by kernel_rfl) hs.out) (Or.inl ⟨by rfl, fun u hu => by go_simp⟩) ?_
              try go_simp
              refine wpAnyX_both (T := fun u => u.cell? ⟨bx, 0, none⟩ = some (Value.int .i64 (na : Int)) ∧ u.cell? ⟨bx, 1, none⟩ = some (Value.int .i64 (nb : Int)) ∧ u.cell? ⟨bx, 2, none⟩ = some (Value.int .i64 ly) ∧ u.cell? ⟨B, 0, none⟩ = some (Value.slice (some ⟨kb, 0, none⟩) N kcap) ∧ u.cell? ⟨kb, na, none⟩ = some (Value.pointer (some ⟨pA, 0, none⟩)) ∧ u.cell? ⟨kb, nb, none⟩ = some (Value.pointer (some ⟨pB, 0, none⟩))) (i := 27) (v := Value.pointer (some ⟨pA, 0, none⟩)) rfl (by kernel_rfl) (by kernel_rfl) (by kernel_rfl) (fun _ _ _ h => h) (by decide) (fun _ h => h.elim) (fun _ h => h) (Sx.behind (by kernel_rfl) hs.out) (Or.inl ⟨by rfl, fun u hu => by obtain ⟨e0, e1, e2, e3, e4, e5⟩ := hu; go_simp⟩) ?_
              try go_simp
              refine wpAnyX_both (T := fun _ => True) (i := 28) (v := Value.pointer (some ⟨B, 0, none⟩)) rfl (by kernel_rfl) (by kernel_rfl) (by kernel_rfl) (fun _ _ _ h => h) (by decide) (fun _ h => h.elim) (fun _ _ => trivial) (Sx.behind (by kernel_rfl) hs.out) (Or.inl ⟨by rfl, fun u hu => by go_simp⟩) ?_
              try go_simp
              refine wpAnyX_both (T := fun _ => True) (i := 29) (v := Value.pointer (some ⟨B, 0, none⟩)) rfl (by kernel_rfl) (by kernel_rfl) (by kernel_rfl) (fun _ _ _ h => h) (by decide) (fun _ h => h.elim) (fun _ _ => trivial) (Sx.behind (by kernel_rfl) hs.out) (Or.inl ⟨by rfl, fun u hu => by go_simp⟩) ?_
              try go_simp
              refine wpAnyX_both (T := fun _ => True) (i := 30) (v := Value.pointer (some ⟨B, 0, none⟩)) rfl (by kernel_rfl) (by kernel_rfl) (by kernel_rfl) (fun _ _ _ h => h) (by decide) (fun _ h => h.elim) (fun _ _ => trivial) (Sx.behind (by kernel_rfl) hs.out) (Or.inl ⟨by rfl, fun u hu => by go_simp⟩) ?_
              try go_simp
              refine wpAnyX_both (T := fun u => u.cell? ⟨bx, 0, none⟩ = some (Value.int .i64 (na : Int)) ∧ u.cell? ⟨bx, 1, none⟩ = some (Value.int .i64 (nb : Int)) ∧ u.cell? ⟨bx, 2, none⟩ = some (Value.int .i64 ly) ∧ u.cell? ⟨B, 0, none⟩ = some (Value.slice (some ⟨kb, 0, none⟩) N kcap) ∧ u.cell? ⟨kb, na, none⟩ = some (Value.pointer (some ⟨pA, 0, none⟩)) ∧ u.cell? ⟨kb, nb, none⟩ = some (Value.pointer (some ⟨pB, 0, none⟩))) (i := 31) (v := Value.slice (some ⟨kb, 0, none⟩) N kcap) rfl (by kernel_rfl) (by kernel_rfl) (by kernel_rfl) (fun _ _ _ h => h) (by decide) (fun _ h => h.elim) (fun _ h => h) (Sx.behind (by kernel_rfl) hs.out) (Or.inl ⟨by rfl, fun u hu => by obtain ⟨e0, e1, e2, e3, e4, e5⟩ := hu; go_simp⟩) ?_
              try go_simp
              refine wpAnyX_both (T := fun _ => True) (i := 32) (v := Value.pointer (some ⟨bx, 1, none⟩)) rfl (by kernel_rfl) (by kernel_rfl) (by kernel_rfl) (fun _ _ _ h => h) (by decide) (fun _ h => h.elim) (fun _ _ => trivial) (Sx.behind (by kernel_rfl) hs.out) (Or.inl ⟨by rfl, fun u hu => by go_simp⟩) ?_
              try go_simp
              refine wpAnyX_both (T := fun u => u.cell? ⟨bx, 0, none⟩ = some (Value.int .i64 (na : Int)) ∧ u.cell? ⟨bx, 1, none⟩ = some (Value.int .i64 (nb : Int)) ∧ u.cell? ⟨bx, 2, none⟩ = some (Value.int .i64 ly) ∧ u.cell? ⟨B, 0, none⟩ = some (Value.slice (some ⟨kb, 0, none⟩) N kcap) ∧ u.cell? ⟨kb, na, none⟩ = some (Value.pointer (some ⟨pA, 0, none⟩)) ∧ u.cell? ⟨kb, nb, none⟩ = some (Value.pointer (some ⟨pB, 0, none⟩))) (i := 33) (v := Value.int .i64 (nb : Int)) rfl (by kernel_rfl) (by kernel_rfl) (by kernel_rfl) (fun _ _ _ h => h) (by decide) (fun _ h => h.elim) (fun _ h => h) (Sx.behind (by kernel_rfl) hs.out) (Or.inl ⟨by rfl, fun u hu => by obtain ⟨e0, e1, e2, e3, e4, e5⟩ := hu; go_simp⟩) ?_
              try go_simp
              refine wpAnyX_both (T := fun _ => True) (i := 34) (v := Value.pointer (some ⟨kb, nb, none⟩)) rfl (by kernel_rfl) (by kernel_rfl) (by kernel_rfl) (fun _ _ _ h => h) (by decide) (fun _ h => h.elim) (fun _ _ => trivial) (Sx.behind (by kernel_rfl) hs.out) (Or.inl ⟨by rfl, fun u hu => by go_simp⟩) ?_
              try go_simp
              refine wpAnyX_both (T := fun u => u.cell? ⟨bx, 0, none⟩ = some (Value.int .i64 (na : Int)) ∧ u.cell? ⟨bx, 1, none⟩ = some (Value.int .i64 (nb : Int)) ∧ u.cell? ⟨bx, 2, none⟩ = some (Value.int .i64 ly) ∧ u.cell? ⟨B, 0, none⟩ = some (Value.slice (some ⟨kb, 0, none⟩) N kcap) ∧ u.cell? ⟨kb, na, none⟩ = some (Value.pointer (some ⟨pA, 0, none⟩)) ∧ u.cell? ⟨kb, nb, none⟩ = some (Value.pointer (some ⟨pB, 0, none⟩))) (i := 35) (v := Value.pointer (some ⟨pB, 0, none⟩)) rfl (by kernel_rfl) (by kernel_rfl) (by kernel_rfl) (fun _ _ _ h => h) (by decide) (fun _ h => h.elim) (fun _ h => h) (Sx.behind (by kernel_rfl) hs.out) (Or.inl ⟨by rfl, fun u hu => by obtain ⟨e0, e1, e2, e3, e4, e5⟩ := hu; go_simp⟩) ?_
              try go_simp
              refine wpAnyX_both (T := fun _ => True) (i := 36) (v := Value.pointer (some ⟨bx, 2, none⟩)) rfl (by kernel_rfl) (by kernel_rfl) (by kernel_rfl) (fun _ _ _ h => h) (by decide) (fun _ h => h.elim) (fun _ _ => trivial) (Sx.behind (by kernel_rfl) hs.out) (Or.inl ⟨by rfl, fun u hu => by go_simp⟩) ?_
              try go_simp
              refine wpAnyX_both (T := fun u => u.cell? ⟨bx, 0, none⟩ = some (Value.int .i64 (na : Int)) ∧ u.cell? ⟨bx, 1, none⟩ = some (Value.int .i64 (nb : Int)) ∧ u.cell? ⟨bx, 2, none⟩ = some (Value.int .i64 ly) ∧ u.cell? ⟨B, 0, none⟩ = some (Value.slice (some ⟨kb, 0, none⟩) N kcap) ∧ u.cell? ⟨kb, na, none⟩ = some (Value.pointer (some ⟨pA, 0, none⟩)) ∧ u.cell? ⟨kb, nb, none⟩ = some (Value.pointer (some ⟨pB, 0, none⟩))) (i := 37) (v := Value.int .i64 ly) rfl (by kernel_rfl) (by kernel_rfl) (by kernel_rfl) (fun _ _ _ h => h) (by decide) (fun _ h => h.elim) (fun _ h => h) (Sx.behind (by kernel_rfl) hs.out) (Or.inl ⟨by rfl, fun u hu => by obtain ⟨e0, e1, e2, e3, e4, e5⟩ := hu; go_simp⟩) ?_
              try go_simp
              refine wpAnyX_ready (rs := [38]) (by kernel_rfl) (by simp) (AllX.cons rfl (fun K hK => ?_) AllX.nil)
              go_simp
              refine Calls.mono HJN.out ?_
              rintro e w3 (⟨-, rfl, hg3, hbj, hxj⟩ | ⟨hj, -⟩)
              rotate_left
              · exact absurd HSM.out hj
              have HB3 := kide hbj
              have HB3x := kide (HBd.out.trans hbj)
              have hs2 : Hid ((fun u => u.cell? ⟨bx, 0, none⟩ = some (Value.int .i64 (na : Int)) ∧ u.cell? ⟨bx, 1, none⟩ = some (Value.int .i64 (nb : Int)) ∧ u.cell? ⟨bx, 2, none⟩ = some (Value.int .i64 ly) ∧ u.cell? ⟨B, 0, none⟩ = some (Value.slice (some ⟨kb, 0, none⟩) N kcap) ∧ u.cell? ⟨kb, na, none⟩ = some (Value.pointer (some ⟨pA, 0, none⟩)) ∧ u.cell? ⟨kb, nb, none⟩ = some (Value.pointer (some ⟨pB, 0, none⟩))) w3) := ⟨hxj.cell 0, hxj.cell 1, hxj.cell 2, (hg3.k0).trans (congrArg some HKS.out), hg3.kcell HNL.out.k HKS.out HPA.out, hg3.kcell HNL.out.k HKS.out HPB.out⟩
              clear hg3 hbj hxj
              refine hK _ _ (Sx.behind (by kernel_rfl) hs2.out) ?_
              clear hK K
              try go_simp
              refine wpAnyX_both (T := fun _ => True) (i := 39) (v := Value.bool true) rfl (by kernel_rfl) (by kernel_rfl) (by kernel_rfl) (fun _ _ _ h => h) (by decide) (fun _ h => h.elim) (fun _ _ => trivial) (Sx.behind (by kernel_rfl) hs2.out) (Or.inl ⟨by rfl, fun u hu => by go_simp⟩) ?_
              try go_simp
              refine wpAnyX_both (T := fun _ => True) (i := 40) (v := Value.bool true) rfl (by kernel_rfl) (by kernel_rfl) (by kernel_rfl) (fun _ _ _ h => h) (by decide) (fun _ h => h.elim) (fun _ _ => trivial) (Sx.behind (by kernel_rfl) hs2.out) (Or.inl ⟨by rfl, fun u hu => by go_simp⟩) ?_
              try go_simp
              refine wpAnyX_done (by kernel_rfl) ?_ _
              skip
              go_wp2_with fail
              go_ret
              exact ⟨Below.trans ((Below.refl _ _).alloc (Nat.le_refl _) _) (HB3x.out.mono (by have := HB.out; omega)), .inl ⟨hnone.out, rfl⟩⟩
            have HDF := kide hsm
            have hsome : Hid (goF N id (ls.take (j + 1)) = some (mrg L na nb)) := by
              show _ = _
              rw [HTK.out, if_pos]
              · simp
              rw [lkOk_iff]
              exact ⟨hA, hB2, hY, fun q => hsm ((HUF.out.eqv na (by rw [HPS.out]; omega) nb (by rw [HPS.out]; omega)).2 (by simpa using q))⟩
            clear hsm
            refine wp_region_x (SA := fun _ => False) (SB := fun u => u.cell? ⟨bx, 0, none⟩ = some (Value.int .i64 (na : Int)) ∧ u.cell? ⟨bx, 1, none⟩ = some (Value.int .i64 (nb : Int)) ∧ u.cell? ⟨bx, 2, none⟩ = some (Value.int .i64 ly) ∧ u.cell? ⟨B, 0, none⟩ = some (Value.slice (some ⟨kb, 0, none⟩) N kcap) ∧ u.cell? ⟨kb, na, none⟩ = some (Value.pointer (some ⟨pA, 0, none⟩)) ∧ u.cell? ⟨kb, nb, none⟩ = some (Value.pointer (some ⟨pB, 0, none⟩))) (k := 999) (by kernel_rfl) ?_
            have hs : Hid ((fun u => u.cell? ⟨bx, 0, none⟩ = some (Value.int .i64 (na : Int)) ∧ u.cell? ⟨bx, 1, none⟩ = some (Value.int .i64 (nb : Int)) ∧ u.cell? ⟨bx, 2, none⟩ = some (Value.int .i64 ly) ∧ u.cell? ⟨B, 0, none⟩ = some (Value.slice (some ⟨kb, 0, none⟩) N kcap) ∧ u.cell? ⟨kb, na, none⟩ = some (Value.pointer (some ⟨pA, 0, none⟩)) ∧ u.cell? ⟨kb, nb, none⟩ = some (Value.pointer (some ⟨pB, 0, none⟩))) u1.drew) := ⟨e0, e1, e2, e3, e4, e5⟩
            clear e0 e1 e2 e3 e4 e5
            have HGd : Hid (Gv u1.drew B B j s) := HG1.out.later (Below.refl _ _).drew
            have HBd := kide HB1.out.drew
            have HCd : Hid (Cl u1.drew s) := HC1.out.kept (Kt.of_below (Below.refl _ _).drew)
            have XLd : Hid (Bx u1.drew bx _ 55) := XL.out
            have hzd : B ≤ u1.drew.heap.size := hz1
            generalize u1.drew = u2 at *
            have HHA2 := kide (HHA.out u2 HGd.out)
            have HHB2 := kide (HHB.out u2 HGd.out)
            have HHY2 := kide (HHY.out u2)
            have HJN := kide (HJ.out u2 HGd.out hzd XLd.out)
            try go_simp
            refine wpAnyX_both (T := fun _ => True) (i := 0) (v := Value.pointer (some ⟨B, 0, none⟩)) rfl (by kernel_rfl) (by kernel_rfl) (by kernel_rfl) (fun _ _ _ h => h) (by decide) (fun _ h => h.elim) (fun _ _ => trivial) (Sx.behind (by kernel_rfl) hs.out) (Or.inl ⟨by rfl, fun u hu => by go_simp⟩) ?_
            try go_simp
            refine wpAnyX_both (T := fun _ => True) (i := 1) (v := Value.pointer (some ⟨bx, 0, none⟩)) rfl (by kernel_rfl) (by kernel_rfl) (by kernel_rfl) (fun _ _ _ h => h) (by decide) (fun _ h => h.elim) (fun _ _ => trivial) (Sx.behind (by kernel_rfl) hs.out) (Or.inl ⟨by rfl, fun u hu => by go_simp⟩) ?_
            try go_simp
            refine wpAnyX_both (T := fun u => u.cell? ⟨bx, 0, none⟩ = some (Value.int .i64 (na : Int)) ∧ u.cell? ⟨bx, 1, none⟩ = some (Value.int .i64 (nb : Int)) ∧ u.cell? ⟨bx, 2, none⟩ = some (Value.int .i64 ly) ∧ u.cell? ⟨B, 0, none⟩ = some (Value.slice (some ⟨kb, 0, none⟩) N kcap) ∧ u.cell? ⟨kb, na, none⟩ = some (Value.pointer (some ⟨pA, 0, none⟩)) ∧ u.cell? ⟨kb, nb, none⟩ = some (Value.pointer (some ⟨pB, 0, none⟩))) (i := 2) (v := Value.int .i64 (na : Int)) rfl (by kernel_rfl) (by kernel_rfl) (by kernel_rfl) (fun _ _ _ h => h) (by decide) (fun _ h => h.elim) (fun _ h => h) (Sx.behind (by kernel_rfl) hs.out) (Or.inl ⟨by rfl, fun u hu => by obtain ⟨e0, e1, e2, e3, e4, e5⟩ := hu; go_simp⟩) ?_
            try go_simp
            refine wpAnyX_ready (rs := [3]) (by kernel_rfl) (by simp) (AllX.cons rfl (fun K hK => ?_) AllX.nil)
            go_simp
            refine Calls.mono HHA2.out ?_
            rintro e w3 ⟨rfl, hw3⟩
            obtain rfl := hw3.symm
            refine hK _ _ (Sx.behind (by kernel_rfl) hs.out) ?_
            clear hK K
            try go_simp
            refine wpAnyX_both (T := fun _ => True) (i := 4) (v := Value.bool false) rfl (by kernel_rfl) (by kernel_rfl) (by kernel_rfl) (fun _ _ _ h => h) (by decide) (fun _ h => h.elim) (fun _ _ => trivial) (Sx.behind (by kernel_rfl) hs.out) (Or.inl ⟨by rfl, fun u hu => by go_simp⟩) ?_
            try go_simp
            refine wpAnyX_both (T := fun _ => True) (i := 5) (v := Value.bool false) rfl (by kernel_rfl) (by kernel_rfl) (by kernel_rfl) (fun _ _ _ h => h) (by decide) (fun _ h => h.elim) (fun _ _ => trivial) (Sx.behind (by kernel_rfl) hs.out) (Or.inl ⟨by rfl, fun u hu => by go_simp⟩) ?_
            try go_simp
            refine wpAnyX_both (T := fun _ => True) (i := 6) (v := Value.pointer (some ⟨B, 0, none⟩)) rfl (by kernel_rfl) (by kernel_rfl) (by kernel_rfl) (fun _ _ _ h => h) (by decide) (fun _ h => h.elim) (fun _ _ => trivial) (Sx.behind (by kernel_rfl) hs.out) (Or.inl ⟨by rfl, fun u hu => by go_simp⟩) ?_
            try go_simp
            refine wpAnyX_both (T := fun _ => True) (i := 7) (v := Value.pointer (some ⟨bx, 1, none⟩)) rfl (by kernel_rfl) (by kernel_rfl) (by kernel_rfl) (fun _ _ _ h => h) (by decide) (fun _ h => h.elim) (fun _ _ => trivial) (Sx.behind (by kernel_rfl) hs.out) (Or.inl ⟨by rfl, fun u hu => by go_simp⟩) ?_
            try go_simp
            refine wpAnyX_both (T := fun u => u.cell? ⟨bx, 0, none⟩ = some (Value.int .i64 (na : Int)) ∧ u.cell? ⟨bx, 1, none⟩ = some (Value.int .i64 (nb : Int)) ∧ u.cell? ⟨bx, 2, none⟩ = some (Value.int .i64 ly) ∧ u.cell? ⟨B, 0, none⟩ = some (Value.slice (some ⟨kb, 0, none⟩) N kcap) ∧ u.cell? ⟨kb, na, none⟩ = some (Value.pointer (some ⟨pA, 0, none⟩)) ∧ u.cell? ⟨kb, nb, none⟩ = some (Value.pointer (some ⟨pB, 0, none⟩))) (i := 8) (v := Value.int .i64 (nb : Int)) rfl (by kernel_rfl) (by kernel_rfl) (by kernel_rfl) (fun _ _ _ h => h) (by decide) (fun _ h => h.elim) (fun _ h => h) (Sx.behind (by kernel_rfl) hs.out) (Or.inl ⟨by rfl, fun u hu => by obtain ⟨e0, e1, e2, e3, e4, e5⟩ := hu; go_simp⟩) ?_
            try go_simp
            refine wpAnyX_ready (rs := [9]) (by kernel_rfl) (by simp) (AllX.cons rfl (fun K hK => ?_) AllX.nil)
            go_simp
            refine Calls.mono HHB2.out ?_
            rintro e w3 ⟨rfl, hw3⟩
            obtain rfl := hw3.symm
            refine hK _ _ (Sx.behind (by kernel_rfl) hs.out) ?_
            clear hK K
            try go_simp
            refine wpAnyX_both (T := fun _ => True) (i := 10) (v := Value.bool false) rfl (by kernel_rfl) (by kernel_rfl) (by kernel_rfl) (fun _ _ _ h => h) (by decide) (fun _ h => h.elim) (fun _ _ => trivial) (Sx.behind (by kernel_rfl) hs.out) (Or.inl ⟨by rfl, fun u hu => by go_simp⟩) ?_
            try go_simp
            refine wpAnyX_both (T := fun _ => True) (i := 11) (v := Value.bool false) rfl (by kernel_rfl) (by kernel_rfl) (by kernel_rfl) (fun _ _ _ h => h) (by decide) (fun _ h => h.elim) (fun _ _ => trivial) (Sx.behind (by kernel_rfl) hs.out) (Or.inl ⟨by rfl, fun u hu => by go_simp⟩) ?_
            try go_simp
            refine wpAnyX_both (T := fun _ => True) (i := 12) (v := Value.bool false) rfl (by kernel_rfl) (by kernel_rfl) (by kernel_rfl) (fun _ _ _ h => h) (by decide) (fun _ h => h.elim) (fun _ _ => trivial) (Sx.behind (by kernel_rfl) hs.out) (Or.inl ⟨by rfl, fun u hu => by go_simp⟩) ?_
            try go_simp
            refine wpAnyX_both (T := fun _ => True) (i := 13) (v := Value.pointer (some ⟨bx, 2, none⟩)) rfl (by kernel_rfl) (by kernel_rfl) (by kernel_rfl) (fun _ _ _ h => h) (by decide) (fun _ h => h.elim) (fun _ _ => trivial) (Sx.behind (by kernel_rfl) hs.out) (Or.inl ⟨by rfl, fun u hu => by go_simp⟩) ?_
            try go_simp
            refine wpAnyX_both (T := fun u => u.cell? ⟨bx, 0, none⟩ = some (Value.int .i64 (na : Int)) ∧ u.cell? ⟨bx, 1, none⟩ = some (Value.int .i64 (nb : Int)) ∧ u.cell? ⟨bx, 2, none⟩ = some (Value.int .i64 ly) ∧ u.cell? ⟨B, 0, none⟩ = some (Value.slice (some ⟨kb, 0, none⟩) N kcap) ∧ u.cell? ⟨kb, na, none⟩ = some (Value.pointer (some ⟨pA, 0, none⟩)) ∧ u.cell? ⟨kb, nb, none⟩ = some (Value.pointer (some ⟨pB, 0, none⟩))) (i := 14) (v := Value.int .i64 ly) rfl (by kernel_rfl) (by kernel_rfl) (by kernel_rfl) (fun _ _ _ h => h) (by decide) (fun _ h => h.elim) (fun _ h => h) (Sx.behind (by kernel_rfl) hs.out) (Or.inl ⟨by rfl, fun u hu => by obtain ⟨e0, e1, e2, e3, e4, e5⟩ := hu; go_simp⟩) ?_
            try go_simp
            refine wpAnyX_ready (rs := [15]) (by kernel_rfl) (by simp) (AllX.cons rfl (fun K hK => ?_) AllX.nil)
            go_simp
            refine Calls.mono HHY2.out ?_
            rintro e w3 ⟨rfl, hw3⟩
            obtain rfl := hw3.symm
            refine hK _ _ (Sx.behind (by kernel_rfl) hs.out) ?_
            clear hK K
            try go_simp
            refine wpAnyX_both (T := fun _ => True) (i := 16) (v := Value.bool false) rfl (by kernel_rfl) (by kernel_rfl) (by kernel_rfl) (fun _ _ _ h => h) (by decide) (fun _ h => h.elim) (fun _ _ => trivial) (Sx.behind (by kernel_rfl) hs.out) (Or.inl ⟨by rfl, fun u hu => by go_simp⟩) ?_
            try go_simp
            refine wpAnyX_both (T := fun _ => True) (i := 17) (v := Value.bool false) rfl (by kernel_rfl) (by kernel_rfl) (by kernel_rfl) (fun _ _ _ h => h) (by decide) (fun _ h => h.elim) (fun _ _ => trivial) (Sx.behind (by kernel_rfl) hs.out) (Or.inl ⟨by rfl, fun u hu => by go_simp⟩) ?_
            try go_simp
            refine wpAnyX_both (T := fun _ => True) (i := 18) (v := Value.bool false) rfl (by kernel_rfl) (by kernel_rfl) (by kernel_rfl) (fun _ _ _ h => h) (by decide) (fun _ h => h.elim) (fun _ _ => trivial) (Sx.behind (by kernel_rfl) hs.out) (Or.inl ⟨by rfl, fun u hu => by go_simp⟩) ?_
            try go_simp
            refine wpAnyX_both (T := fun _ => True) (i := 19) (v := Value.pointer (some ⟨B, 0, none⟩)) rfl (by kernel_rfl) (by kernel_rfl) (by kernel_rfl) (fun _ _ _ h => h) (by decide) (fun _ h => h.elim) (fun _ _ => trivial) (Sx.behind (by kernel_rfl) hs.out) (Or.inl ⟨by rfl, fun u hu => by go_simp⟩) ?_
            try go_simp
            refine wpAnyX_both (T := fun _ => True) (i := 20) (v := Value.pointer (some ⟨B, 0, none⟩)) rfl (by kernel_rfl) (by kernel_rfl) (by kernel_rfl) (fun _ _ _ h => h) (by decide) (fun _ h => h.elim) (fun _ _ => trivial) (Sx.behind (by kernel_rfl) hs.out) (Or.inl ⟨by rfl, fun u hu => by go_simp⟩) ?_
            try go_simp
            refine wpAnyX_both (T := fun _ => True) (i := 21) (v := Value.pointer (some ⟨B, 0, none⟩)) rfl (by kernel_rfl) (by kernel_rfl) (by kernel_rfl) (fun _ _ _ h => h) (by decide) (fun _ h => h.elim) (fun _ _ => trivial) (Sx.behind (by kernel_rfl) hs.out) (Or.inl ⟨by rfl, fun u hu => by go_simp⟩) ?_
            try go_simp
            refine wpAnyX_both (T := fun _ => True) (i := 22) (v := Value.pointer (some ⟨B, 0, none⟩)) rfl (by kernel_rfl) (by kernel_rfl) (by kernel_rfl) (fun _ _ _ h => h) (by decide) (fun _ h => h.elim) (fun _ _ => trivial) (Sx.behind (by kernel_rfl) hs.out) (Or.inl ⟨by rfl, fun u hu => by go_simp⟩) ?_
            try go_simp
            refine wpAnyX_both (T := fun u => u.cell? ⟨bx, 0, none⟩ = some (Value.int .i64 (na : Int)) ∧ u.cell? ⟨bx, 1, none⟩ = some (Value.int .i64 (nb : Int)) ∧ u.cell? ⟨bx, 2, none⟩ = some (Value.int .i64 ly) ∧ u.cell? ⟨B, 0, none⟩ = some (Value.slice (some ⟨kb, 0, none⟩) N kcap) ∧ u.cell? ⟨kb, na, none⟩ = some (Value.pointer (some ⟨pA, 0, none⟩)) ∧ u.cell? ⟨kb, nb, none⟩ = some (Value.pointer (some ⟨pB, 0, none⟩))) (i := 23) (v := Value.slice (some ⟨kb, 0, none⟩) N kcap) rfl (by kernel_rfl) (by kernel_rfl) (by kernel_rfl) (fun _ _ _ h => h) (by decide) (fun _ h => h.elim) (fun _ h => h) (Sx.behind (by kernel_rfl) hs.out) (Or.inl ⟨by rfl, fun u hu => by obtain ⟨e0, e1, e2, e3, e4, e5⟩ := hu; go_simp⟩) ?_
            try go_simp
            refine wpAnyX_both (T := fun _ => True) (i := 24) (v := Value.pointer (some ⟨bx, 0, none⟩)) rfl (by kernel_rfl) (by kernel_rfl) (by kernel_rfl) (fun _ _ _ h => h) (by decide) (fun _ h => h.elim) (fun _ _ => trivial) (Sx.behind (by kernel_rfl) hs.out) (Or.inl ⟨by rfl, fun u hu => by go_simp⟩) ?_
            try go_simp
            refine wpAnyX_both (T := fun u => u.cell? ⟨bx, 0, none⟩ = some (Value.int .i64 (na : Int)) ∧ u.cell? ⟨bx, 1, none⟩ = some (Value.int .i64 (nb : Int)) ∧ u.cell? ⟨bx, 2, none⟩ = some (Value.int .i64 ly) ∧ u.cell? ⟨B, 0, none⟩ = some (Value.slice (some ⟨kb, 0, none⟩) N kcap) ∧ u.cell? ⟨kb, na, none⟩ = some (Value.pointer (some ⟨pA, 0, none⟩)) ∧ u.cell? ⟨kb, nb, none⟩ = some (Value.pointer (some ⟨pB, 0, none⟩))) (i := 25) (v := Value.int .i64 (na : Int)) rfl (by kernel_rfl) (by kernel_rfl) (by kernel_rfl) (fun _ _ _ h => h) (by decide) (fun _ h => h.elim) (fun _ h => h) (Sx.behind (by kernel_rfl) hs.out) (Or.inl ⟨by rfl, fun u hu => by obtain ⟨e0, e1, e2, e3, e4, e5⟩ := hu; go_simp⟩) ?_
            try go_simp
            refine wpAnyX_both (T := fun _ => True) (i := 26) (v := Value.pointer (some ⟨kb, na, none⟩)) rfl (by kernel_rfl) (by kernel_rfl) (by kernel_rfl) (fun _ _ _ h => h) (by decide) (fun _ h => h.elim) (fun _ _ => trivial) (Sx.behind (by kernel_rfl) hs.out) (Or.inl ⟨by rfl, fun u hu => by go_simp⟩) ?_
            try go_simp
            refine wpAnyX_both (T := fun u => u.cell? ⟨bx, 0, none⟩ = some (Value.int .i64 (na : Int)) ∧ u.cell? ⟨bx, 1, none⟩ = some (Value.int .i64 (nb : Int)) ∧ u.cell? ⟨bx, 2, none⟩ = some (Value.int .i64 ly) ∧ u.cell? ⟨B, 0, none⟩ = some (Value.slice (some ⟨kb, 0, none⟩) N kcap) ∧ u.cell? ⟨kb, na, none⟩ = some (Value.pointer (some ⟨pA, 0, none⟩)) ∧ u.cell? ⟨kb, nb, none⟩ = some (Value.pointer (some ⟨pB, 0, none⟩))) (i := 27) (v := Value.pointer (some ⟨pA, 0, none⟩)) rfl (by kernel_rfl) (by kernel_rfl) (by kernel_rfl) (fun _ _ _ h => h) (by decide) (fun _ h => h.elim) (fun _ h => h) (Sx.behind (by kernel_rfl) hs.out) (Or.inl ⟨by rfl, fun u hu => by obtain ⟨e0, e1, e2, e3, e4, e5⟩ := hu; go_simp⟩) ?_
            try go_simp
            refine wpAnyX_both (T := fun _ => True) (i := 28) (v := Value.pointer (some ⟨B, 0, none⟩)) rfl (by kernel_rfl) (by kernel_rfl) (by kernel_rfl) (fun _ _ _ h => h) (by decide) (fun _ h => h.elim) (fun _ _ => trivial) (Sx.behind (by kernel_rfl) hs.out) (Or.inl ⟨by rfl, fun u hu => by go_simp⟩) ?_
            try go_simp
            refine wpAnyX_both (T := fun _ => True) (i := 29) (v := Value.pointer (some ⟨B, 0, none⟩)) rfl (by kernel_rfl) (by kernel_rfl) (by kernel_rfl) (fun _ _ _ h => h) (by decide) (fun _ h => h.elim) (fun _ _ => trivial) (Sx.behind (by kernel_rfl) hs.out) (Or.inl ⟨by rfl, fun u hu => by go_simp⟩) ?_
            try go_simp
            refine wpAnyX_both (T := fun _ => True) (i := 30) (v := Value.pointer (some ⟨B, 0, none⟩)) rfl (by kernel_rfl) (by kernel_rfl) (by kernel_rfl) (fun _ _ _ h => h) (by decide) (fun _ h => h.elim) (fun _ _ => trivial) (Sx.behind (by kernel_rfl) hs.out) (Or.inl ⟨by rfl, fun u hu => by go_simp⟩) ?_
            try go_simp
            refine wpAnyX_both (T := fun u => u.cell? ⟨bx, 0, none⟩ = some (Value.int .i64 (na : Int)) ∧ u.cell? ⟨bx, 1, none⟩ = some (Value.int .i64 (nb : Int)) ∧ u.cell? ⟨bx, 2, none⟩ = some (Value.int .i64 ly) ∧ u.cell? ⟨B, 0, none⟩ = some (Value.slice (some ⟨kb, 0, none⟩) N kcap) ∧ u.cell? ⟨kb, na, none⟩ = some (Value.pointer (some ⟨pA, 0, none⟩)) ∧ u.cell? ⟨kb, nb, none⟩ = some (Value.pointer (some ⟨pB, 0, none⟩))) (i := 31) (v := Value.slice (some ⟨kb, 0, none⟩) N kcap) rfl (by kernel_rfl) (by kernel_rfl) (by kernel_rfl) (fun _ _ _ h => h) (by decide) (fun _ h => h.elim) (fun _ h => h) (Sx.behind (by kernel_rfl) hs.out) (Or.inl ⟨by rfl, fun u hu => by obtain ⟨e0, e1, e2, e3, e4, e5⟩ := hu; go_simp⟩) ?_
            try go_simp
            refine wpAnyX_both (T := fun _ => True) (i := 32) (v := Value.pointer (some ⟨bx, 1, none⟩)) rfl (by kernel_rfl) (by kernel_rfl) (by kernel_rfl) (fun _ _ _ h => h) (by decide) (fun _ h => h.elim) (fun _ _ => trivial) (Sx.behind (by kernel_rfl) hs.out) (Or.inl ⟨by rfl, fun u hu => by go_simp⟩) ?_
            try go_simp
            refine wpAnyX_both (T := fun u => u.cell? ⟨bx, 0, none⟩ = some (Value.int .i64 (na : Int)) ∧ u.cell? ⟨bx, 1, none⟩ = some (Value.int .i64 (nb : Int)) ∧ u.cell? ⟨bx, 2, none⟩ = some (Value.int .i64 ly) ∧ u.cell? ⟨B, 0, none⟩ = some (Value.slice (some ⟨kb, 0, none⟩) N kcap) ∧ u.cell? ⟨kb, na, none⟩ = some (Value.pointer (some ⟨pA, 0, none⟩)) ∧ u.cell? ⟨kb, nb, none⟩ = some (Value.pointer (some ⟨pB, 0, none⟩))) (i := 33) (v := Value.int .i64 (nb : Int)) rfl (by kernel_rfl) (by kernel_rfl) (by kernel_rfl) (fun _ _ _ h => h) (by decide) (fun _ h => h.elim) (fun _ h => h) (Sx.behind (by kernel_rfl) hs.out) (Or.inl ⟨by rfl, fun u hu => by obtain ⟨e0, e1, e2, e3, e4, e5⟩ := hu; go_simp⟩) ?_
            try go_simp
            refine wpAnyX_both (T := fun _ => True) (i := 34) (v := Value.pointer (some ⟨kb, nb, none⟩)) rfl (by kernel_rfl) (by kernel_rfl) (by kernel_rfl) (fun _ _ _ h => h) (by decide) (fun _ h => h.elim) (fun _ _ => trivial) (Sx.behind (by kernel_rfl) hs.out) (Or.inl ⟨by rfl, fun u hu => by go_simp⟩) ?_
            try go_simp
            refine wpAnyX_both (T := fun u => u.cell? ⟨bx, 0, none⟩ = some (Value.int .i64 (na : Int)) ∧ u.cell? ⟨bx, 1, none⟩ = some (Value.int .i64 (nb : Int)) ∧ u.cell? ⟨bx, 2, none⟩ = some (Value.int .i64 ly) ∧ u.cell? ⟨B, 0, none⟩ = some (Value.slice (some ⟨kb, 0, none⟩) N kcap) ∧ u.cell? ⟨kb, na, none⟩ = some (Value.pointer (some ⟨pA, 0, none⟩)) ∧ u.cell? ⟨kb, nb, none⟩ = some (Value.pointer (some ⟨pB, 0, none⟩))) (i := 35) (v := Value.pointer (some ⟨pB, 0, none⟩)) rfl (by kernel_rfl) (by kernel_rfl) (by kernel_rfl) (fun _ _ _ h => h) (by decide) (fun _ h => h.elim) (fun _ h => h) (Sx.behind (by kernel_rfl) hs.out) (Or.inl ⟨by rfl, fun u hu => by obtain ⟨e0, e1, e2, e3, e4, e5⟩ := hu; go_simp⟩) ?_
            try go_simp
            refine wpAnyX_both (T := fun _ => True) (i := 36) (v := Value.pointer (some ⟨bx, 2, none⟩)) rfl (by kernel_rfl) (by kernel_rfl) (by kernel_rfl) (fun _ _ _ h => h) (by decide) (fun _ h => h.elim) (fun _ _ => trivial) (Sx.behind (by kernel_rfl) hs.out) (Or.inl ⟨by rfl, fun u hu => by go_simp⟩) ?_
            try go_simp
            refine wpAnyX_both (T := fun u => u.cell? ⟨bx, 0, none⟩ = some (Value.int .i64 (na : Int)) ∧ u.cell? ⟨bx, 1, none⟩ = some (Value.int .i64 (nb : Int)) ∧ u.cell? ⟨bx, 2, none⟩ = some (Value.int .i64 ly) ∧ u.cell? ⟨B, 0, none⟩ = some (Value.slice (some ⟨kb, 0, none⟩) N kcap) ∧ u.cell? ⟨kb, na, none⟩ = some (Value.pointer (some ⟨pA, 0, none⟩)) ∧ u.cell? ⟨kb, nb, none⟩ = some (Value.pointer (some ⟨pB, 0, none⟩))) (i := 37) (v := Value.int .i64 ly) rfl (by kernel_rfl) (by kernel_rfl) (by kernel_rfl) (fun _ _ _ h => h) (by decide) (fun _ h => h.elim) (fun _ h => h) (Sx.behind (by kernel_rfl) hs.out) (Or.inl ⟨by rfl, fun u hu => by obtain ⟨e0, e1, e2, e3, e4, e5⟩ := hu; go_simp⟩) ?_
            try go_simp
            refine wpAnyX_ready (rs := [38]) (by kernel_rfl) (by simp) (AllX.cons rfl (fun K hK => ?_) AllX.nil)
            go_simp
            refine Calls.mono HJN.out ?_
            rintro e w3 (⟨hj, -⟩ | ⟨-, rfl, s3, rt3, dp3, hg3, hn3, hu3, hp3, hl3, hbj, hxj, hk3, hj3⟩)
            · exact absurd hj HDF.out
            have HB3 := kide hbj
            have HG3 := kide hg3
            have HN3 := kide hn3
            have HU3 := kide hu3
            have HP3 := kide hp3
            have HL3 := kide hl3
            have HJ3 := kide hj3
            have hs2 : Hid ((fun u => u.cell? ⟨bx, 0, none⟩ = some (Value.int .i64 (na : Int)) ∧ u.cell? ⟨bx, 1, none⟩ = some (Value.int .i64 (nb : Int)) ∧ u.cell? ⟨bx, 2, none⟩ = some (Value.int .i64 ly) ∧ u.cell? ⟨B, 0, none⟩ = some (Value.slice (some ⟨kb, 0, none⟩) N kcap) ∧ u.cell? ⟨kb, na, none⟩ = some (Value.pointer (some ⟨pA, 0, none⟩)) ∧ u.cell? ⟨kb, nb, none⟩ = some (Value.pointer (some ⟨pB, 0, none⟩))) w3) := ⟨hxj.cell 0, hxj.cell 1, hxj.cell 2, (hg3.k0).trans (congrArg some (hk3.trans HKS.out)), hg3.kcell hn3.k (hk3.trans HKS.out) (by rw [hp3]; exact HPA.out), hg3.kcell hn3.k (hk3.trans HKS.out) (by rw [hp3]; exact HPB.out)⟩
            clear hbj hg3 hn3 hu3 hp3 hl3 hxj hk3 hj3
            refine hK _ _ (Sx.behind (by kernel_rfl) hs2.out) ?_
            clear hK K
            try go_simp
            refine wpAnyX_both (T := fun _ => True) (i := 39) (v := Value.bool false) rfl (by kernel_rfl) (by kernel_rfl) (by kernel_rfl) (fun _ _ _ h => h) (by decide) (fun _ h => h.elim) (fun _ _ => trivial) (Sx.behind (by kernel_rfl) hs2.out) (Or.inl ⟨by rfl, fun u hu => by go_simp⟩) ?_
            try go_simp
            refine wpAnyX_both (T := fun _ => True) (i := 40) (v := Value.bool false) rfl (by kernel_rfl) (by kernel_rfl) (by kernel_rfl) (fun _ _ _ h => h) (by decide) (fun _ h => h.elim) (fun _ _ => trivial) (Sx.behind (by kernel_rfl) hs2.out) (Or.inl ⟨by rfl, fun u hu => by go_simp⟩) ?_
            try go_simp
            refine wpAnyX_done (by kernel_rfl) ?_ _
            skip
            have HB5 := kide (HBd.out.trans HB3.out)
            go_wp2_with fail
            go_roundw
            case rel => exact ⟨j + 1, s3, rt3, dp3, mrg L na nb, by omega, by go_num, hsome.out, HG3.out, HN3.out, by rw [HP3.out]; exact HU3.out, by rw [HP3.out]; exact HPS.out, by rw [HL3.out, HLS.out, List.take_add_one, GX.out]; rfl, HB5.out, HCd.out.join HNL.out.n HJ3.out HP3.out HL3.out, HDG.out.join HNL.out.n HJ3.out HL3.out⟩
            case measure => simp [intOf]; omega
          · have hjn : j = n := by omega
            have hful : Hid (ls.take j = ls) := by show _ = _; rw [List.take_of_length_le (by rw [HN.out]; omega)]
            have hres : Hid (forR (N : Int) ls = some L) := by
              show _ = _
              unfold forR
              rw [if_pos ⟨by omega, by omega⟩, Int.toNat_natCast, ← hful.out]
              exact HGO.out
            go_wp2_with fail
            go_ret
            exact ⟨Below.trans ((Below.refl _ _).alloc (Nat.le_refl _) _) (HBW.out.mono (by have := HB.out; omega)), .inr ⟨L, B, s, rt, dp, j, hres.out, rfl, by rw [HB.out]; exact HGV.out, HNL.out, HUF.out, by rw [HPS.out], by rw [HLS.out, hful.out], by omega, HCL.out, HDG.out⟩⟩

end Go.Proofs.Ytakicdlfolhhcaa
