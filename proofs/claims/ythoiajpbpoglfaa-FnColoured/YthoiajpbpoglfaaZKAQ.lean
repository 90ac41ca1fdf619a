/- Several texts in one. -/
import Derived.Test.YthoiajpbpoglfaaHTQ
import Derived.Test.YthoiajpbpoglfaaZKAI
import Derived.Test.YthoiajpbpoglfaaZKAK
import Derived.Test.YthoiajpbpoglfaaZKAP
import Derived.Test.YthoiajpbpoglfaaZKAR

/- The words of a painter, told. -/
namespace Go.Proofs.Ythoiajpbpoglfaa
set_option linter.unusedVariables false
set_option linter.unusedSimpArgs false
open Go.RowKit

/-- A number as words. -/
def numW (V x : Int) : List Nat := (ofR V x).2.1
theorem of_in {V x : Int} (h1 : 1 ≤ V) (h2 : V ≤ 4096) (h3 : 0 ≤ x) (h4 : x.toNat < 2 ^ V.toNat) : ofR V x = (V, numW V x, true) := by
  unfold numW ofR
  rw [if_pos ⟨h1, h2, h3, h4⟩]
theorem numW_ok (W n : Int) : (numW W n).length ≤ 1048576 ∧ ∀ x ∈ numW W n, x < 18446744073709551616 := by
  unfold numW ofR
  split
  · refine ⟨?_, pack_lt _⟩
    simp only [pack_len, nBits_len]
    omega
  · exact ⟨by simp [noR], by simp [noR]⟩
def wct (ks : List Int) (τ : Nat → Int) (k : Nat) : List (Int × List Nat) := (List.range k).map fun i => (ks.getD i 0, numW (ks.getD i 0) (τ i))
theorem wct_snoc {ks : List Int} {τ : Nat → Int} (k : Nat) : wct ks τ (k + 1) = wct ks τ k ++ [(ks.getD k 0, numW (ks.getD k 0) (τ k))] := by
  unfold wct
  rw [List.range_succ, List.map_append]
  rfl

/-- Some words have been told. -/
structure Tw (u : World) (B : Nat) (v : Value) (l : List Bw) (ks : List Int) (τ : Nat → Int) (k : Nat) : Prop where
  bs : Bs u B v l
  ct : l.map Bw.ct = wct ks τ k
theorem Tw.later {u u' : World} {B : Nat} {v : Value} {l : List Bw} {ks : List Int} {τ : Nat → Int} {k : Nat} (h : Tw u B v l ks τ k) (hb : Below u.heap.size u u') : Tw u' B v l ks τ k := ⟨h.bs.later hb, h.ct⟩
theorem Tw.push {u u' : World} {B : Nat} {v v' : Value} {l : List Bw} {x : Bw} {ks : List Int} {τ : Nat → Int} {k : Nat} (h : Tw u B v l ks τ k) (ho : OB2 u' B v' (l ++ [x])) (hg : u.grownBy u' v.ownBlock) (hx : Nw u B x.a x.ws) (hd : DjB (l ++ [x])) (e : wct ks τ (k + 1) = wct ks τ k ++ [x.ct]) : Tw u' B v' (l ++ [x]) ks τ (k + 1) := by
  have hk : ∀ {a : Option Addr} {xs : List Nat}, Nw u B a xs → Nw u' B a xs := fun hn => hn.kept fun b cur hc => hg.block b (lt_of_block hc) (fun e9 => by
    obtain ⟨cur', h9⟩ := h.bs.row.typed e9.symm
    rw [hc] at h9
    simp at h9)
  refine ⟨⟨ho, fun y hy => ?_, hd⟩, by rw [e, List.map_append, h.ct]; rfl⟩
  rcases List.mem_append.1 hy with hy | hy
  · exact hk (h.bs.nw y hy)
  · rw [List.mem_singleton.1 hy]; exact hk hx
theorem Tw.len {u : World} {B : Nat} {v : Value} {l : List Bw} {ks : List Int} {τ : Nat → Int} {k : Nat} (h : Tw u B v l ks τ k) : l.length = k := by
  have h9 := congrArg List.length h.ct
  unfold wct at h9
  rw [List.length_map, List.length_map, List.length_range] at h9
  exact h9

set_option maxHeartbeats 1000000 in
set_option maxRecDepth 100000 in
theorem told_told {w0 w : World} {P0 H K n vc g cp : Nat} {va : Option Addr} {nv : Value} {nr : List Int} {τ : Nat → Int} {vis most : Int} {ov mv : Nat → Value} {cr : Nat → Int} {xo bd : Nat → List Int} (ks : List Int) (hn : ks.length = n) (hn2 : n ≤ 200) (hk : ∀ x ∈ ks, 1 ≤ x ∧ x ≤ 4096) (hr : RdI w0 va ks)
    (hτ : ∀ i, i < n → 0 ≤ τ i ∧ τ i < 9223372036854775808 ∧ (τ i).toNat < 2 ^ (ks.getD i 0).toNat)
    (h : Pt w0 w P0 H K va n vc nv (.slice (some ⟨g, 0, none⟩) n cp) nr (lsOf τ n) vis most ov mv cr xo bd) :
    Calls Try.prog 37 #[.pointer (some ⟨P0, 0, none⟩)] w fun e w' => ∃ a c l, e = .returned (.slice a n c) ∧ Bs w' w.heap.size (.slice a n c) l ∧ l.map Bw.ct = wct ks τ n ∧ Below w.heap.size w w' := by
  have HR := kide hr
  have HKS := kide (And.intro hn hk)
  have HP := kide h
  have p3 := h.px.cell 3
  have p0 := h.px.cell 0
  simp at p3 p0
  have lp := h.px.lt
  clear h hk
  go_enter Try.func37, Try.ntmps37
  go_wp2_with fail
  clear p3 p0 lp hn
  go_loopw [3, 13] (fun v i wr => ∃ (k : Nat) (l : List Bw), k ≤ n ∧ i = .int .i64 (k : Int) ∧ Tw wr w.heap.size v l ks τ k ∧ Below w.heap.size w wr) (fun _ i _ => n - (intOf i).toNat)
  case atStart => exact ⟨0, [], Nat.zero_le _, rfl, ⟨Bs.nil _ _, rfl⟩, Below.refl _ _⟩
  case round =>
    obtain ⟨k, l, hk, rfl, ht, hb⟩ := hrel
    have HT := kide ht
    have HBK := kide hb
    by_cases hlt : k < n
    · have i0 : (k : Int) < (n : Int) := by omega
      have i1 : (k : Int) ≥ 0 := by omega
      have hp := HP.out.later hb
      obtain ⟨-, -, h9 | ⟨kb, ko, rfl, hkc⟩⟩ := HR.out.later hp.bel
      · have := HKS.out.1; rw [h9] at this; simp at this; omega
      have q0 := hkc k (by rw [HKS.out.1]; exact hlt)
      have hx1 := HKS.out.2 (ks.getD k 0) (by rw [List.getD, List.getElem?_eq_getElem (by rw [HKS.out.1]; exact hlt)]; exact List.getElem_mem _)
      have HSN := kide (wct_snoc (ks := ks) (τ := τ) k)
      have hty := hτ k hlt
      generalize ks.getD k 0 = x at *
      have p3 := hp.px.cell 3
      have p0 := hp.px.cell 0
      have c4 := hp.row.cellO (i := k) (by rw [lsOf_len]; exact hlt)
      rw [lsOf_get hlt] at c4
      simp at p3 p0 c4
      have lp := hp.px.lt
      have HLT : Hid (k < n) := hlt
      have HX1 := kide hx1
      have HL : Hid (l.length = k) := ht.len
      generalize τ k = y at *
      have hof := of_in (x := y) hx1.1 hx1.2 hty.1 hty.2.2
      have HY := kide hty
      obtain ⟨NW, HNW⟩ : ∃ NW, Hid (numW x y = NW) := ⟨_, rfl⟩
      rw [HNW.out] at hof HSN
      clear ht hb hp hkc hlt hk hx1 hty
      go_wp2_with fail
      refine Calls.mono (implOf_any _ _ _ (by have := HY.out; omega)) ?_
      rw [hof]
      rintro e w2 ⟨aw, cw, rfl, hfr, hb2⟩
      simp only [] at hfr ⊢
      have hbe : Below w2.heap.size w2 (w2.alloc (Obj.cells #[Value.int .i64 x, Value.slice aw NW.length cw] 48)) := (Below.refl _ _).alloc (Nat.le_refl _) _
      have T2 := HT.out.later (hb2.trans (hbe.mono hb2.size))
      have B2 := HBK.out.trans ((hb2.trans (hbe.mono hb2.size)).mono HBK.out.size)
      have N2 : Nw w2 wr.heap.size aw NW := by
        rcases hfr with ⟨h1, h2⟩ | ⟨gg, h1, h2, h3⟩
        · rw [h1, h2]; exact .inl ⟨rfl, fun x h => by cases h⟩
        · rw [h1]; exact h3.nw h2
      have DJ := kide (HT.out.bs.dj.snoc (x := ⟨x, aw, cw, NW⟩) HT.out.bs.nw (fun p hp => (nw_lt N2 hp).1))
      have N3 := (N2.mono HBK.out.size).later hbe
      have X2 := Bz.new w2 #[Value.int .i64 x, Value.slice aw NW.length cw] 48
      clear hfr N2 p3 p0 c4 q0 lp HT HBK hbe hof
      have l2 := X2.lt
      have hul : l.length ≤ 1073741824 := by rw [HL.out]; have := HLT.out; omega
      have hba : Below (w2.alloc (Obj.cells #[Value.int .i64 x, Value.slice aw NW.length cw] 48)).heap.size (w2.alloc (Obj.cells #[Value.int .i64 x, Value.slice aw NW.length cw] 48)) ((w2.alloc (Obj.cells #[Value.int .i64 x, Value.slice aw NW.length cw] 48)).alloc (Obj.cells #[Value.int .i64 x, Value.slice aw NW.length cw] 48)) := (Below.refl _ _).alloc (Nat.le_refl _) _
      have T3 := T2.later hba
      have N4 := N3.later hba
      have B3 := B2.trans (hba.mono B2.size)
      clear T2 N3 B2
      go_wp2_with (at_builtin; refine wpList_appB2 (y := ⟨x, aw, cw, NW⟩) rfl _ _ rfl w.heap.size u3 l rfl T3.bs.row _ 1 rfl (by simp) (by simp) hul B3.size ?_)
      intro g5 cap5 w5 hos hg5
      have B5 := kide (B3.grown hg5 B3.size (fun b hb => (T3.bs.row.lt hb).1))
      have T5 := kide (T3.push hos hg5 N4 DJ.out (by rw [HSN.out]; rfl))
      clear B3 T3 N4 hos hg5 hba hul l2 X2 hb2
      go_wp2_with fail
      go_roundw
      case rel => exact ⟨k + 1, _, HLT.out, by go_num, by simpa using T5.out, B5.out⟩
      case measure => have := HLT.out; simp only [intOf]; omega
    · have e9 : k = n := by omega
      subst e9
      have hl := ht.len
      obtain ⟨a, c, rfl, hrd⟩ := ht.bs.row.rd (by omega) (fun x hx => by
        have h9 : x.ct ∈ wct ks τ k := ht.ct ▸ List.mem_map_of_mem hx
        obtain ⟨i, hi, e⟩ := List.mem_map.1 h9
        have hi9 := List.mem_range.1 hi
        have hV2 := HKS.out.2 (ks.getD i 0) (by rw [List.getD, List.getElem?_eq_getElem (by rw [HKS.out.1]; exact hi9)]; exact List.getElem_mem _)
        have e1 : x.wd = ks.getD i 0 := (congrArg Prod.fst e).symm
        have e2 : x.ws = numW (ks.getD i 0) (τ i) := (congrArg Prod.snd e).symm
        refine ⟨(ht.bs.nw x hx).rd ?_ ?_, by rw [e1]; unfold in64; omega⟩
        · rw [e2]; exact (numW_ok _ _).1
        · rw [e2]; exact (numW_ok _ _).2)
      rw [hl]
      have hct := ht.ct
      go_wp2_with fail
      go_ret
      have hbs := ht.bs
      rw [hl] at hbs
      exact ⟨a, c, l, rfl, hbs, hct, hb⟩

end Go.Proofs.Ythoiajpbpoglfaa

/- A word is free by the bars of a graph where it is free by the others and what is barred. No program in sight. -/
namespace Go.Proofs.Ythoiajpbpoglfaa
set_option linter.unusedVariables false
set_option linter.unusedSimpArgs false
open Go.RowKit

theorem ex_cons {α : Type} {p : α → Prop} {s : α} {t : List α} : (∃ u, u ∈ s :: t ∧ p u) ↔ p s ∨ ∃ u, u ∈ t ∧ p u := by simp
theorem mem_stepX : ∀ (ys : List Yc) (xo : Nat → List Int) (i : Nat) (y : Int), y ∈ (ys.foldl stepX xo) i ↔ y ∈ xo i ∨ ∃ s ∈ ys, s.lo ≠ -1 ∧ ((s.v.toNat = i ∧ y = s.lo) ∨ (s.lo.toNat = i ∧ y = s.v))
  | [], xo, i, y => by simp
  | s :: t, xo, i, y => by
    rw [List.foldl_cons, mem_stepX t]
    have key : y ∈ stepX xo s i ↔ y ∈ xo i ∨ (s.lo ≠ -1 ∧ ((s.v.toNat = i ∧ y = s.lo) ∨ (s.lo.toNat = i ∧ y = s.v))) := by
      by_cases e : s.lo = -1
      · rw [show stepX xo s = _ from if_pos e]; simp [e]
      · rw [show stepX xo s = _ from if_neg e]
        unfold upd
        by_cases e1 : i = s.lo.toNat
        · rw [if_pos e1]
          by_cases e2 : i = s.v.toNat
          · rw [if_pos (by omega), ← e2]
            have e3 : s.v.toNat = i := e2.symm
            have e4 : s.lo.toNat = i := e1.symm
            simp [e3, e4, e, or_assoc]
          · rw [if_neg (by omega), ← e1]
            have e3 : ¬ s.v.toNat = i := fun h => e2 h.symm
            simp [e3, e]
        · rw [if_neg e1]
          have e4 : ¬ s.lo.toNat = i := fun h => e1 h.symm
          by_cases e2 : i = s.v.toNat
          · rw [if_pos e2, ← e2]
            simp [e4, e]
          · rw [if_neg e2]
            have e3 : ¬ s.v.toNat = i := fun h => e2 h.symm
            simp [e3, e4]
    rw [key]
    simp only [ex_cons, or_assoc]
theorem mem_stepD : ∀ (ys : List Yc) (bd : Nat → List Int) (i : Nat) (y : Int), y ∈ (ys.foldl stepD bd) i ↔ y ∈ bd i ∨ ∃ s ∈ ys, s.lo = -1 ∧ s.v.toNat = i ∧ smW s.ws = some y
  | [], bd, i, y => by simp
  | s :: t, bd, i, y => by
    rw [List.foldl_cons, mem_stepD t]
    have key : y ∈ stepD bd s i ↔ y ∈ bd i ∨ (s.lo = -1 ∧ s.v.toNat = i ∧ smW s.ws = some y) := by
      by_cases e : s.lo = -1
      · rw [show stepD bd s = _ from if_pos e]
        unfold upd
        by_cases e2 : i = s.v.toNat
        · rw [if_pos e2, ← e2]; simp [e]
        · rw [if_neg e2]
          have e3 : ¬ s.v.toNat = i := fun h => e2 h.symm
          simp [e3]
      · rw [show stepD bd s = _ from if_neg e]; simp [e]
    rw [key]
    simp only [ex_cons, or_assoc]

theorem mem_xoF {n : Nat} {bs : List Yc} (hg : ∀ s ∈ bs, gdB n s) (i : Nat) (y : Int) : y ∈ xoF (setY [] (bs.map nrmC)) i ↔ ∃ s ∈ bs, s.lo ≠ -1 ∧ ((s.v = (i : Int) ∧ y = s.lo) ∨ (s.lo = (i : Int) ∧ y = s.v)) := by
  unfold xoF
  rw [mem_stepX]
  simp only [List.not_mem_nil, false_or]
  constructor
  · rintro ⟨s, hs, h1, h2⟩
    rcases (setY_mem _ _ _).1 hs with h0 | h0
    · cases h0
    obtain ⟨u, hu, rfl⟩ := List.mem_map.1 h0
    refine ⟨u, hu, ?_⟩
    obtain ⟨⟨a1, a2⟩, a3⟩ := hg u hu
    unfold nrmC at h1 h2
    by_cases e : u.lo = -1
    · rw [if_pos e] at h1; exact absurd e h1
    · rw [if_neg e] at h1 h2
      simp only [] at h1 h2
      refine ⟨e, ?_⟩
      omega
  · rintro ⟨u, hu, h1, h2⟩
    refine ⟨nrmC u, (setY_mem _ _ _).2 (.inr (List.mem_map.2 ⟨u, hu, rfl⟩)), ?_⟩
    obtain ⟨⟨a1, a2⟩, a3⟩ := hg u hu
    unfold nrmC
    rw [if_neg h1]
    simp only []
    omega
theorem mem_bdF {n : Nat} {bs : List Yc} (hg : ∀ s ∈ bs, gdB n s) (i : Nat) (y : Int) : y ∈ bdF (setY [] (bs.map nrmC)) i ↔ ∃ s ∈ bs, s.lo = -1 ∧ s.v = (i : Int) ∧ smW s.ws = some y := by
  unfold bdF
  rw [mem_stepD]
  simp only [List.not_mem_nil, false_or]
  constructor
  · rintro ⟨s, hs, h1, h2, h3⟩
    rcases (setY_mem _ _ _).1 hs with h0 | h0
    · cases h0
    obtain ⟨u, hu, rfl⟩ := List.mem_map.1 h0
    obtain ⟨⟨a1, a2⟩, a3⟩ := hg u hu
    unfold nrmC at h1 h2 h3
    by_cases e : u.lo = -1
    · rw [if_pos e] at h1 h2 h3; exact ⟨u, hu, e, by omega, h3⟩
    · rw [if_neg e] at h1
      simp only [] at h1
      omega
  · rintro ⟨u, hu, h1, h2, h3⟩
    refine ⟨nrmC u, (setY_mem _ _ _).2 (.inr (List.mem_map.2 ⟨u, hu, rfl⟩)), ?_⟩
    unfold nrmC
    rw [if_pos h1]
    exact ⟨h1, by omega, h3⟩

/-- A number below a word's greatest as words: the first alone is not 0. -/
theorem numW_set {V : Int} {k : Nat} (h1 : 1 ≤ V) (h2 : V ≤ 4096) (hk : k < 18446744073709551616) (hk2 : k < 2 ^ V.toNat) : numW V (k : Int) = (List.replicate ((V.toNat + 63) / 64) 0).set 0 k := by
  rw [of_pack V.toNat k _ (by omega) rfl hk hk2]
  unfold numW ofR
  rw [if_pos ⟨h1, h2, by omega, by simpa using hk2⟩]
  simp
theorem numW_get {V : Int} {k : Nat} (h1 : 1 ≤ V) (h2 : V ≤ 4096) (hk : k < 18446744073709551616) (hk2 : k < 2 ^ V.toNat) : (numW V (k : Int)).getD 0 0 = k := by
  rw [numW_set h1 h2 hk hk2, List.getD, List.getElem?_set_self (by simp; omega)]
  rfl
theorem numW_sm {V : Int} {k : Nat} {ws : List Nat} (h1 : 1 ≤ V) (h2 : V ≤ 4096) (hk : k < 1024) (hk2 : k < 2 ^ V.toNat) (hl : (ws.length : Int) = (V + 63) / 64) : ws = numW V (k : Int) ↔ smW ws = some (k : Int) := by
  have hn := numW_set h1 h2 (by omega) hk2
  obtain ⟨N, hN⟩ : ∃ N, (V.toNat + 63) / 64 = N + 1 := ⟨(V.toNat + 63) / 64 - 1, by omega⟩
  rw [hN, List.replicate_succ, List.set_cons_zero] at hn
  rw [hn]
  unfold smW
  cases ws with
  | nil => simp at hl; omega
  | cons a t =>
    have ht : t.length = N := by simp at hl; omega
    simp only [List.tail_cons, List.getD_cons_zero, List.cons.injEq]
    constructor
    · rintro ⟨rfl, rfl⟩
      rw [if_pos ⟨fun x hx => List.eq_of_mem_replicate hx, hk⟩]
    · intro h
      split at h
      · rename_i h3
        refine ⟨by have := Option.some.inj h; omega, List.eq_replicate_iff.2 ⟨ht, fun x hx => h3.1 x hx⟩⟩
      · cases h

/-- The words of the nodes as words; none: a word of width 0. -/
def hct (ks : List Int) (σ : Nat → Int) (n : Nat) : List (Int × List Nat) := (List.range n).map fun i => if σ i = -1 then (0, []) else (ks.getD i 0, numW (ks.getD i 0) (σ i))
theorem hct_get {ks : List Int} {σ : Nat → Int} {n i : Nat} (h : i < n) : (hct ks σ n).getD i (0, []) = if σ i = -1 then (0, []) else (ks.getD i 0, numW (ks.getD i 0) (σ i)) := by simp [hct, List.getD, h]
/-- Each node has no word or one that it can have. -/
def gdS (ks : List Int) (σ : Nat → Int) (n : Nat) : Prop := ∀ i, i < n → σ i = -1 ∨ (0 ≤ σ i ∧ σ i < 1024 ∧ (σ i).toNat < 2 ^ (ks.getD i 0).toNat)

theorem free_same {ks : List Int} {bs : List Yc} {σ : Nat → Int} {v k : Nat} (hg : graphR ks bs = true) (hσ : gdS ks σ ks.length) (hv : v < ks.length) (hk : k < 1024) (hk2 : k < 2 ^ (ks.getD v 0).toNat) :
    frS bs (hct ks σ ks.length) (v : Int) (ks.getD v 0) (numW (ks.getD v 0) (k : Int)) = frW (xoF (setY [] (bs.map nrmC)) v) (bdF (setY [] (bs.map nrmC)) v) σ k := by
  have hgd : ∀ s ∈ bs, gdB ks.length s := fun s hs => ((graph_good hg).2.2 s hs).1
  have hbr : ∀ s ∈ bs, brOk ks s = true := by
    simp only [graphR, Bool.and_eq_true, decide_eq_true_eq, List.all_eq_true] at hg
    exact hg.2
  have hwk : ∀ x ∈ ks, 1 ≤ x ∧ x ≤ 4096 := by
    simp only [graphR, Bool.and_eq_true, decide_eq_true_eq, List.all_eq_true, wOk] at hg
    exact hg.1.2
  have hvw := hwk (ks.getD v 0) (by rw [List.getD, List.getElem?_eq_getElem hv]; exact List.getElem_mem _)
  have node : ∀ j, j < ks.length → ks.getD j 0 = ks.getD v 0 → (((hct ks σ ks.length).getD j (0, [])).1 = ks.getD v 0 ∧ ((hct ks σ ks.length).getD j (0, [])).2 = numW (ks.getD v 0) (k : Int) ↔ σ j = (k : Int)) := by
    intro j hj ew
    rw [hct_get hj]
    rcases hσ j hj with e | ⟨e1, e2, e3⟩
    · rw [if_pos e, e]
      constructor
      · rintro ⟨h, -⟩
        have h' : (0 : Int) = ks.getD v 0 := h
        omega
      · intro h; omega
    · rw [if_neg (by omega), ew]
      constructor
      · rintro ⟨-, h⟩
        have h : numW (ks.getD v 0) (σ j) = numW (ks.getD v 0) (k : Int) := h
        have h3 := congrArg (fun l : List Nat => l.getD 0 0) h
        obtain ⟨m, hm⟩ : ∃ m : Nat, σ j = (m : Int) := ⟨(σ j).toNat, by omega⟩
        rw [hm] at h3 e3 e2 ⊢
        rw [ew] at e3
        rw [numW_get hvw.1 hvw.2 (by omega) (by simpa using e3), numW_get hvw.1 hvw.2 (by omega) hk2] at h3
        rw [h3]
      · intro h
        exact ⟨rfl, by rw [h]⟩
  have width : ∀ s ∈ bs, s.lo ≠ -1 → ks.getD s.lo.toNat 0 = ks.getD s.v.toNat 0 := fun s hs h => by
    have h1 := hbr s hs
    unfold brOk at h1
    rw [if_neg h] at h1
    simp only [Bool.and_eq_true, decide_eq_true_eq] at h1
    exact h1.2.1.1.2
  rw [Bool.eq_iff_iff]
  unfold frS frW
  simp only [List.all_eq_true, Bool.and_eq_true, Bool.not_eq_true', decide_eq_false_iff_not, decide_eq_true_eq, Bool.and_eq_false_iff]
  constructor
  · intro h
    refine ⟨fun hm => ?_, fun y hy e => ?_⟩
    · obtain ⟨s, hs, e1, e2, e3⟩ := (mem_bdF hgd v _).1 hm
      have h1 := h s hs
      have h2 := hbr s hs
      unfold brOk at h2
      rw [if_pos e1] at h2
      simp only [rightB, Bool.and_eq_true, decide_eq_true_eq] at h2
      rw [show othW (hct ks σ ks.length) (v : Int) s = (s.bw, s.ws) by unfold othW; rw [if_pos e2, if_pos (by omega)]] at h1
      have e4 : s.bw = ks.getD v 0 := by rw [h2.2.2, e2]; rfl
      have h5 := h2.2.1.1.2
      rw [e4] at h5
      rcases h1 with h1 | h1
      · exact h1 e4
      · exact h1 ((numW_sm hvw.1 hvw.2 hk hk2 h5).2 e3)
    · obtain ⟨s, hs, e1, e2⟩ := (mem_xoF hgd v _).1 hy
      have h1 := h s hs
      have hw := width s hs e1
      obtain ⟨⟨a1, a2⟩, a3⟩ := hgd s hs
      rcases e2 with ⟨e2, e3⟩ | ⟨e2, e3⟩
      · rw [show othW (hct ks σ ks.length) (v : Int) s = (hct ks σ ks.length).getD s.lo.toNat (0, []) by unfold othW; rw [if_pos e2, if_neg (by omega)]] at h1
        have h2 := (node s.lo.toNat (by omega) (by rw [hw, e2]; rfl)).2 (by rw [← e3]; exact e)
        rcases h1 with h1 | h1
        · exact h1 h2.1
        · exact h1 h2.2
      · rw [show othW (hct ks σ ks.length) (v : Int) s = (hct ks σ ks.length).getD s.v.toNat (0, []) by unfold othW; rw [if_neg (by omega), if_pos e2]] at h1
        have h2 := (node s.v.toNat (by omega) (by rw [← hw, e2]; rfl)).2 (by rw [← e3]; exact e)
        rcases h1 with h1 | h1
        · exact h1 h2.1
        · exact h1 h2.2
  · rintro ⟨hb, hx⟩ s hs
    apply Classical.byContradiction
    intro hcon
    have hcon2 : (othW (hct ks σ ks.length) (v : Int) s).1 = ks.getD v 0 ∧ (othW (hct ks σ ks.length) (v : Int) s).2 = numW (ks.getD v 0) (k : Int) := ⟨Classical.byContradiction fun h => hcon (.inl h), Classical.byContradiction fun h => hcon (.inr h)⟩
    clear hcon
    obtain ⟨⟨a1, a2⟩, a3⟩ := hgd s hs
    unfold othW at hcon2
    by_cases c1 : s.v = (v : Int)
    · rw [if_pos c1] at hcon2
      by_cases c2 : s.lo < 0
      · rw [if_pos c2] at hcon2
        simp only [] at hcon2
        have h2 := hbr s hs
        unfold brOk at h2
        rw [if_pos (by omega)] at h2
        simp only [rightB, Bool.and_eq_true, decide_eq_true_eq] at h2
        have h5 := h2.2.1.1.2
        rw [hcon2.1] at h5
        exact hb ((mem_bdF hgd v _).2 ⟨s, hs, by omega, c1, (numW_sm hvw.1 hvw.2 hk hk2 h5).1 hcon2.2⟩)
      · rw [if_neg c2] at hcon2
        have e1 : s.lo ≠ -1 := by omega
        exact hx s.lo ((mem_xoF hgd v _).2 ⟨s, hs, e1, .inl ⟨c1, rfl⟩⟩) ((node s.lo.toNat (by omega) (by rw [width s hs e1, c1]; rfl)).1 hcon2)
    · rw [if_neg c1] at hcon2
      by_cases c2 : s.lo = (v : Int)
      · rw [if_pos c2] at hcon2
        have e1 : s.lo ≠ -1 := by omega
        exact hx s.v ((mem_xoF hgd v _).2 ⟨s, hs, e1, .inr ⟨c2, rfl⟩⟩) ((node s.v.toNat (by omega) (by rw [← width s hs e1, c2]; rfl)).1 hcon2)
      · rw [if_neg c2] at hcon2
        simp only [] at hcon2
        omega

end Go.Proofs.Ythoiajpbpoglfaa

/- The given search as it lies. -/
namespace Go.Proofs.Ythoiajpbpoglfaa
set_option linter.unusedVariables false
set_option linter.unusedSimpArgs false
open Go.RowKit

theorem Bs.setO {w : World} {B β : Nat} {v : Value} {l : List Bw} {cs : Array Value} {t : TypeId} (h : Bs w B v l) (hB : Bz w β cs t) (h1 : t ≠ 88) (h2 : t ≠ 48) (i : Nat) (x : Value) : Bs (w.setCell ⟨β, i, none⟩ x) B v l where
  row := h.row.move fun b hb => heap_setCell_other _ _ _ _ (fun e => by
    simp only [] at e
    subst e
    obtain ⟨cur, hc⟩ := h.row.typed hb
    unfold Bz at hB
    rw [hB] at hc
    cases hc
    exact h2 rfl)
  nw := fun y hy => nw_set (h.nw y hy) hB h1 i x
  dj := h.dj
theorem hct_len (ks : List Int) (σ : Nat → Int) (n : Nat) : (hct ks σ n).length = n := by simp [hct]
theorem hct_set {ks : List Int} {σ : Nat → Int} {n v : Nat} {y : Int} : (hct ks σ n).set v (if y = -1 then (0, []) else (ks.getD v 0, numW (ks.getD v 0) y)) = hct ks (upd σ v y) n := by
  refine List.ext_getElem (by simp [hct]) fun j h1 h2 => ?_
  rw [List.getElem_set]
  simp only [hct, List.getElem_map, List.getElem_range, upd]
  by_cases e : v = j
  · subst e; simp
  · have e2 : ¬ j = v := fun e2 => e e2.symm
    simp only [if_neg e, if_neg e2]

/-- A search: its state from w0 on. -/
structure Ps (w0 w : World) (z : Gz) (P0 g cp : Nat) (nv : Value) (nr : List Int) (σ : Nat → Int) (vis most : Int) (many : Bool) : Prop where
  px : Bz w P0 #[.slice z.a1 z.ks.length z.c1, .slice z.a2 z.bs.length z.c2, .slice (some ⟨g, 0, none⟩) z.ks.length cp, nv, .int .i64 vis, .int .i64 most, .bool many] 58
  hs : ∃ l, Bs w w0.heap.size (.slice (some ⟨g, 0, none⟩) z.ks.length cp) l ∧ l.map Bw.ct = hct z.ks σ z.ks.length
  nar : OI w w0.heap.size nv nr
  gd : gdS z.ks σ z.ks.length
  bel : Below w0.heap.size w0 w
  hP : w0.heap.size ≤ P0

section
variable {w0 w w1 : World} {z : Gz} {P0 g cp : Nat} {nv : Value} {nr : List Int} {σ : Nat → Int} {vis most : Int} {many : Bool}
theorem Ps.later (h : Ps w0 w z P0 g cp nv nr σ vis most many) (hb : Below w.heap.size w w1) : Ps w0 w1 z P0 g cp nv nr σ vis most many := by
  obtain ⟨l, h1, h2⟩ := h.hs
  exact ⟨h.px.later hb, ⟨l, h1.later hb, h2⟩, h.nar.later hb, h.gd, h.bel.trans (hb.mono h.bel.size), h.hP⟩
theorem OI.setQ {B b : Nat} {v : Value} {l : List Int} {cs : Array Value} {t : TypeId} (h : OI w B v l) (hB : Bz w b cs t) (ht : t ≠ 2) (i : Nat) (x : Value) : OI (w.setCell ⟨b, i, none⟩ x) B v l := h.move fun b' hb => heap_setCell_other _ _ _ _ (fun e => by
  simp only [] at e
  subst e
  obtain ⟨cur, hc⟩ := h.typedG hb
  unfold Bz at hB
  rw [hB] at hc
  cases hc
  exact ht rfl)
theorem Ps.visit (h : Ps w0 w z P0 g cp nv nr σ vis most many) (y : Int) : Ps w0 (w.setCell ⟨P0, 4, none⟩ (.int .i64 y)) z P0 g cp nv nr σ y most many := by
  obtain ⟨l, h1, h2⟩ := h.hs
  exact ⟨h.px.set 4 _, ⟨l, h1.setO h.px (by decide) (by decide) _ _, h2⟩, h.nar.setQ h.px (by decide) _ _, h.gd, h.bel.setCell h.hP _, h.hP⟩
theorem Ps.over (h : Ps w0 w z P0 g cp nv nr σ vis most many) (y : Bool) : Ps w0 (w.setCell ⟨P0, 5, none⟩ (.int .i64 vis)) z P0 g cp nv nr σ vis vis many ∧ Ps w0 (w.setCell ⟨P0, 6, none⟩ (.bool y)) z P0 g cp nv nr σ vis most y := by
  obtain ⟨l, h1, h2⟩ := h.hs
  exact ⟨⟨h.px.set 5 _, ⟨l, h1.setO h.px (by decide) (by decide) _ _, h2⟩, h.nar.setQ h.px (by decide) _ _, h.gd, h.bel.setCell h.hP _, h.hP⟩, ⟨h.px.set 6 _, ⟨l, h1.setO h.px (by decide) (by decide) _ _, h2⟩, h.nar.setQ h.px (by decide) _ _, h.gd, h.bel.setCell h.hP _, h.hP⟩⟩
theorem Ps.ne (h : Ps w0 w z P0 g cp nv nr σ vis most many) : P0 ≠ g := fun e => by
  obtain ⟨l, h1, -⟩ := h.hs
  obtain ⟨cur, hc⟩ := h1.row.typed (b := g) rfl
  have h2 := h.px
  unfold Bz at h2
  rw [e, hc] at h2
  simp at h2
theorem Ps.len (h : Ps w0 w z P0 g cp nv nr σ vis most many) : ∃ l, Bs w w0.heap.size (.slice (some ⟨g, 0, none⟩) z.ks.length cp) l ∧ l.map Bw.ct = hct z.ks σ z.ks.length ∧ l.length = z.ks.length := by
  obtain ⟨l, h1, h2⟩ := h.hs
  exact ⟨l, h1, h2, by have := congrArg List.length h2; rw [List.length_map, hct_len] at this; exact this⟩

/-- A node gets a word, or none. -/
theorem Ps.put (h : Ps w0 w z P0 g cp nv nr σ vis most many) (hb : Below w.heap.size w w1) {v : Nat} {y : Int} {x : Bw} (hx : Nw w1 w.heap.size x.a x.ws) (hc : x.ct = if y = -1 then (0, []) else (z.ks.getD v 0, numW (z.ks.getD v 0) y)) (hy : v < z.ks.length → y = -1 ∨ (0 ≤ y ∧ y < 1024 ∧ y.toNat < 2 ^ (z.ks.getD v 0).toNat)) :
    Ps w0 ((w1.setCell ⟨g, v * 2, none⟩ (.int .i64 x.wd)).setCell ⟨g, v * 2 + 1, none⟩ (.slice x.a x.ws.length x.c)) z P0 g cp nv nr (upd σ v y) vis most many := by
  obtain ⟨l, h1, h2⟩ := h.hs
  have hg0 : w0.heap.size ≤ g := (h1.row.lt rfl).1
  have hne := h.ne
  have h3 := h1.store (i := v) (x := x) hb h.bel.size hx
  have hl := (h.later hb)
  obtain ⟨cur, hcur⟩ := (h1.later hb).row.typed (b := g) rfl
  have hbz : Bz w1 g cur 48 := hcur
  refine ⟨(hl.px.other hne _ _).other hne _ _, ⟨_, h3, ?_⟩, (hl.nar.setQ hbz (by decide) _ _).setQ (hbz.set _ _) (by decide) _ _, fun i hi => ?_, (hl.bel.setCell hg0 _).setCell hg0 _, h.hP⟩
  · rw [List.map_set, h2, hc, hct_set]
  · unfold upd
    by_cases e : i = v
    · subst e; rw [if_pos rfl]; exact hy hi
    · rw [if_neg e]; exact h.gd i hi
/-- What the given l10Free is asked of. -/
theorem Ps.rd (h : Ps w0 w z P0 g cp nv nr σ vis most many) (hk : ∀ x ∈ z.ks, 1 ≤ x ∧ x ≤ 4096) (hn : z.ks.length ≤ 200) : ∃ hs : List Bw, RdW w (some ⟨g, 0, none⟩) hs ∧ hs.map Bw.ct = hct z.ks σ z.ks.length ∧ hs.length = z.ks.length := by
  obtain ⟨l, h1, h2, h3⟩ := h.len
  obtain ⟨a, c, e, hr⟩ := h1.rd (by
    rw [h2]
    refine ⟨by rw [hct_len]; omega, fun x hx => ?_⟩
    obtain ⟨i, hi, rfl⟩ := List.mem_map.1 hx
    have hi2 := List.mem_range.1 hi
    have hv := hk (z.ks.getD i 0) (by rw [List.getD, List.getElem?_eq_getElem hi2]; exact List.getElem_mem _)
    split
    · exact ⟨by unfold in64; simp, by simp, by simp⟩
    · exact ⟨by unfold in64; simp only []; omega, (numW_ok _ _).1, (numW_ok _ _).2⟩)
  have e1 : some (⟨g, 0, none⟩ : Addr) = a := by injection e
  rw [← e1] at hr
  exact ⟨l, hr, h2, h3⟩
end

/-- How the search ends. -/
def RetS (w0 : World) (z : Gz) (P0 g cp : Nat) (nv : Value) (nr : List Int) (most : Nat) (r : Nat × (Nat → Int) × Nat) (e : Ending) (w' : World) : Prop :=
  e = .returned (.bool (decide (r.1 = 0))) ∧ ∃ τ, (r.1 ≠ 3 → τ = r.2.1) ∧ Ps w0 w' z P0 g cp nv nr τ (r.2.2 : Int) (most : Int) (decide (r.1 = 3))

end Go.Proofs.Ythoiajpbpoglfaa

/- The given visit. -/
namespace Go.Proofs.Ythoiajpbpoglfaa
set_option linter.unusedVariables false
set_option linter.unusedSimpArgs false
open Go.RowKit

set_option maxHeartbeats 1000000 in
set_option maxRecDepth 100000 in
/-- No node is left. -/
theorem sv_end {w0 w : World} {z : Gz} {P0 g cp m nc : Nat} {na : Option Addr} {nr : List Int} {σ : Nat → Int} {vis most : Nat} (hm : m ≤ 1048576)
    (h : Ps w0 w z P0 g cp (.slice na m nc) nr σ (vis : Int) (most : Int) false) :
    Calls Try.prog 28 #[.pointer (some ⟨P0, 0, none⟩), .int .i64 (m : Int)] w (RetS w0 z P0 g cp (.slice na m nc) nr most (0, σ, vis)) := by
  have p3 := h.px.cell 3
  simp at p3
  have lp := h.px.lt
  have HP := kide h
  clear h
  go_enter Try.func28, Try.ntmps28
  go_wp2_with fail
  go_ret
  exact ⟨rfl, σ, fun _ => rfl, HP.out⟩

set_option maxHeartbeats 1000000 in
set_option maxRecDepth 100000 in
/-- Too many visits. -/
theorem sv_many {w0 w : World} {z : Gz} {P0 g cp m nc k : Nat} {na : Option Addr} {nr : List Int} {σ : Nat → Int} {vis : Nat} (hm : m ≤ 1048576) (hk : k < m) (hvm : vis ≤ 20000)
    (h : Ps w0 w z P0 g cp (.slice na m nc) nr σ (vis : Int) (vis : Int) false) :
    Calls Try.prog 28 #[.pointer (some ⟨P0, 0, none⟩), .int .i64 (k : Int)] w (RetS w0 z P0 g cp (.slice na m nc) nr vis (3, σ, vis)) := by
  have p3 := h.px.cell 3
  have p4 := h.px.cell 4
  have p5 := h.px.cell 5
  have f6 := h.px.froz 6
  have p6 := h.px.cell 6
  simp at p3 p4 p5 p6
  have lp := h.px.lt
  have HP := kide h
  have hkm : ((k : Int) == (m : Int)) = false := by simp; omega
  clear h
  go_enter Try.func28, Try.ntmps28
  go_wp2_with fail
  go_quiet (fail)
  go_wp2_with fail
  go_ret
  exact ⟨rfl, σ, fun _ => rfl, ((HP.out.later (below_drewN (Below.refl _ _) _)).over true).2⟩

end Go.Proofs.Ythoiajpbpoglfaa

/- The given visit: one node. -/
namespace Go.Proofs.Ythoiajpbpoglfaa
set_option linter.unusedVariables false
set_option linter.unusedSimpArgs false
open Go.RowKit

theorem wrap_uS {x : Int} (h1 : 1 ≤ x) (h2 : x ≤ 4096) : IntKind.u64.wrap x = x := by rw [IntKind.wrap_u64]; omega
theorem lt_shS {x : Int} {M j : Nat} (hM : M = 2 ^ x.toNat) (h : M ≤ 1024) (hj : j < M) : (j : Int) < wrap64 (2 ^ x.toNat) ∧ ((j : Int)).toNat < 2 ^ x.toNat := by
  constructor
  · rw [show (2 : Int) ^ x.toNat = ((2 ^ x.toNat : Nat) : Int) by push_cast; rfl, ← hM]
    unfold wrap64
    omega
  · rw [← hM]; omega
theorem pow_ten {x : Int} (h1 : 1 ≤ x) (h2 : x ≤ 10) : ∃ M : Nat, M = 2 ^ x.toNat ∧ M ≤ 1024 := ⟨_, rfl, Nat.le_trans (Nat.pow_le_pow_right (by omega) (show x.toNat ≤ 10 by omega)) (by decide)⟩
theorem fwN_step (xs bd : List Int) (σ : Nat → Int) (j : Nat) : fwN (j + 1) xs bd σ = if frW xs bd σ j = true then fwN j xs bd σ ++ [(j : Int)] else fwN j xs bd σ := by
  unfold fwN
  rw [List.range_succ, List.filter_append, List.map_append]
  by_cases h : frW xs bd σ j = true
  · rw [if_pos h]; simp [h]
  · rw [if_neg h]; simp [h]
theorem fwN_split {xs bd : List Int} {σ : Nat → Int} {M j : Nat} (hj : j < M) (h : frW xs bd σ j = true) : ∃ rest, fwN M xs bd σ = fwN j xs bd σ ++ (j : Int) :: rest := by
  obtain ⟨d, rfl⟩ : ∃ d, M = (j + 1) + d := ⟨M - (j + 1), by omega⟩
  have h1 := fwN_step xs bd σ j
  rw [if_pos h] at h1
  unfold fwN at h1 ⊢
  rw [List.range_add, List.filter_append, List.map_append, h1]
  exact ⟨_, List.append_assoc _ _ _⟩
theorem wrap_shS {x : Int} {M : Nat} (hM : M = 2 ^ x.toNat) (h : M ≤ 1024) : wrap64 (2 ^ x.toNat) = (M : Int) := by
  rw [show (2 : Int) ^ x.toNat = ((2 ^ x.toNat : Nat) : Int) by push_cast; rfl, ← hM]
  unfold wrap64
  omega

set_option maxHeartbeats 1000000 in
set_option maxRecDepth 100000 in
theorem sv_step {w0 w : World} {z : Gz} {P0 g cp m nc k : Nat} {na : Option Addr} {nr : List Int} {σ : Nat → Int} {vis most : Nat} (fw : (Nat → Int) → Nat → List Int) (hz : RdG w0 z) (hgr : graphR z.ks (z.bs.map Yg.ct) = true)
    (hm : nr.length = m) (hk : k < m) (hm2 : m ≤ 200) (hvm : vis < most) (hmost : most ≤ 20000) (v : Nat) (t : List Nat) (hv : nr[k]? = some (v : Int)) (hvn : v < z.ks.length) (hw10 : z.ks.getD v 0 ≤ 10) (hno : ∀ u ∈ v :: t, σ u = -1) (hnd : (v :: t).Nodup)
    (xs bd : List Int) (hfw : ∀ σ, fw σ v = fwN (2 ^ (z.ks.getD v 0).toNat) xs bd σ)
    (hfree : ∀ σ, gdS z.ks σ z.ks.length → ∀ x : Nat, x < 1024 → x < 2 ^ (z.ks.getD v 0).toNat → frS (z.bs.map Yg.ct) (hct z.ks σ z.ks.length) (v : Int) (z.ks.getD v 0) (numW (z.ks.getD v 0) (x : Int)) = frW xs bd σ x)
    (h : Ps w0 w z P0 g cp (.slice na m nc) nr σ (vis : Int) (most : Int) false)
    (IH : ∀ (τ : Nat → Int) (q : Nat) (u : World), q ≤ most → (∀ y ∈ t, τ y = -1) → Ps w0 u z P0 g cp (.slice na m nc) nr τ (q : Int) (most : Int) false →
      Calls Try.prog 28 #[.pointer (some ⟨P0, 0, none⟩), .int .i64 ((k + 1 : Nat) : Int)] u (RetS w0 z P0 g cp (.slice na m nc) nr most (visF fw most t τ q))) :
    Calls Try.prog 28 #[.pointer (some ⟨P0, 0, none⟩), .int .i64 (k : Int)] w (RetS w0 z P0 g cp (.slice na m nc) nr most (visF fw most (v :: t) σ vis)) := by
  obtain ⟨a1, c1, ks, a2, c2, bs⟩ := z
  simp only [] at *
  have hkk : ks.length ≤ 200 ∧ bs.length ≤ 1000 ∧ ∀ x ∈ ks, 1 ≤ x ∧ x ≤ 4096 := by
    simp only [graphR, Bool.and_eq_true, decide_eq_true_eq, List.all_eq_true, wOk, List.length_map] at hgr
    exact ⟨hgr.1.1.1, hgr.1.1.2, hgr.1.2⟩
  have hx1 := hkk.2.2 (ks.getD v 0) (by rw [List.getD, List.getElem?_eq_getElem hvn]; exact List.getElem_mem _)
  obtain ⟨n1, hn1⟩ : ∃ n1, ks.length = n1 := ⟨_, rfl⟩
  obtain ⟨n2, hn2⟩ : ∃ n2, bs.length = n2 := ⟨_, rfl⟩
  obtain ⟨gn, cn, hna⟩ := h.nar.formP (by omega)
  have hna1 : na = some ⟨gn, 0, none⟩ := by injection hna
  subst hna1
  have q0 := h.nar.cellO (i := k) (by omega)
  rw [List.getD, hv] at q0
  simp at q0
  have hgn : gn ≠ P0 := fun e => by
    obtain ⟨cur, hc⟩ := h.nar.typedG (b := gn) rfl
    have h2 := h.px
    unfold Bz at h2
    rw [← e, hc] at h2
    simp at h2
  have lq := block_lt_of_cell q0
  simp only [] at lq
  have hri := hz.1.later h.bel
  obtain ⟨-, -, h9 | ⟨b, o, rfl, hc0⟩⟩ := hri
  · simp only [] at h9; rw [h9] at hvn; simp at hvn
  simp only [] at hc0
  have hcx := hc0 v hvn
  have hbP : b ≠ P0 := fun e => by
    obtain ⟨-, -, h9 | ⟨b1, o1, e1, hc1⟩⟩ := hz.1
    · simp only [] at h9; rw [h9] at hvn; simp at hvn
    · simp only [] at e1 hc1
      cases e1
      have h8 := block_lt_of_cell (hc1 v hvn)
      have := h.hP
      simp only [] at h8
      omega
  have lb := block_lt_of_cell hcx
  simp only [] at lb
  obtain ⟨x, hx⟩ : ∃ x, ks.getD v 0 = x := ⟨_, rfl⟩
  have p0 := h.px.cell 0
  have p1 := h.px.cell 1
  have p3 := h.px.cell 3
  have p4 := h.px.cell 4
  have p5 := h.px.cell 5
  have f4 := h.px.froz 4
  simp at p0 p1 p3 p4 p5
  have lp := h.px.lt
  have HP := kide h
  have HIH := kide IH
  have HKK := kide hkk
  have HGR := kide hgr
  have HZ := kide hz
  have HFREE := kide hfree
  have HN := kide (And.intro hno hnd)
  have hkm : ((k : Int) == (m : Int)) = false := by simp; omega
  have hvv : ((vis : Int) == (most : Int)) = false := by simp; omega
  clear h IH hkk hgr hz hfree hno hnd hc0 hna
  rw [hx] at hcx
  go_enter Try.func28, Try.ntmps28
  go_wp2_with fail
  go_quiet (fail)
  go_wp2_with fail
  have hx4 : 1 ≤ x ∧ x ≤ 4096 := by rw [← hx]; exact hx1
  rw [hx] at hw10
  obtain ⟨M, hM, hM10⟩ := pow_ten hx4.1 hw10
  have HM := kide hM
  clear hM
  have hP1 := (HP.out.later (w1 := w.drewN nq) (below_drewN (Below.refl _ _) _)).visit ((vis : Int) + 1)
  generalize (w.drewN nq).setCell ⟨P0, 4, none⟩ (.int .i64 ((vis : Int) + 1)) = W1 at *
  have HP1 := kide hP1
  clear hP1 p0 p1 p3 p4 p5 f4 q0 hcx lp lq lb
  go_loopw [7] (fun q wr => ∃ (j : Nat), j ≤ M ∧ q = .int .i64 (j : Int) ∧ noT (visF fw most t) v (fwN j xs bd σ) σ (vis + 1) ∧ Ps w0 wr ⟨some ⟨b, o, none⟩, c1, ks, a2, c2, bs⟩ P0 g cp (.slice (some ⟨gn, 0, none⟩) m nc) nr σ (((stT (visF fw most t) v (fwN j xs bd σ) σ (vis + 1)).2 : Nat) : Int) (most : Int) false) (fun q _ => M - (intOf q).toNat)
  case atStart => exact ⟨0, Nat.zero_le _, rfl, trivial, HP1.out⟩
  case round =>
    obtain ⟨j, hj, rfl, hno, hp⟩ := hrel
    have hu : IntKind.u64.wrap x = x := wrap_uS hx4.1 hx4.2
    have HNO := kide hno
    have HP2 := kide hp
    clear hno hp
    by_cases hlt : j < M
    · obtain ⟨i0, i1⟩ := lt_shS HM.out hM10 hlt
      have hof := of_in (V := x) (x := (j : Int)) hx4.1 hx4.2 (Int.natCast_nonneg j) i1
      have hj64 : (j : Int) ≤ 9223372036854775807 := by omega
      go_wp2_with fail
      refine Calls.mono (specOf_any x (j : Int) wr hj64) ?_
      rw [hof]
      rintro e w2 ⟨aw, cw, rfl, hfr, hb2⟩
      simp only [] at hfr ⊢
      go_wp2_with fail
      have N2 : Nw w2 wr.heap.size aw (numW x (j : Int)) := by
        rcases hfr with ⟨h1, h2⟩ | ⟨gg, h1, h2, h3⟩
        · rw [h1, h2]; exact .inl ⟨rfl, fun x h => by cases h⟩
        · rw [h1]; exact h3.nw h2
      have hbx : Below w2.heap.size w2 (w2.alloc (Obj.cells #[Value.int .i64 x, Value.slice aw (numW x (j : Int)).length cw] 48)) := (Below.refl _ _).alloc (Nat.le_refl _) _
      have hb5 := hb2.trans (hbx.mono hb2.size)
      have XW := Bz.new w2 #[Value.int .i64 x, Value.slice aw (numW x (j : Int)).length cw] 48
      have N5 := N2.later hbx
      clear hfr N2 hbx hof
      obtain ⟨Bx, hBx⟩ : ∃ Bx, w2.heap.size = Bx := ⟨_, rfl⟩
      have hPx : P0 < Bx := by rw [← hBx]; exact Nat.lt_of_lt_of_le HP2.out.px.lt hb2.size
      rw [hBx] at XW
      simp only [hBx]
      clear hb2 hBx
      generalize w2.alloc (Obj.cells #[Value.int .i64 x, Value.slice aw (numW x (j : Int)).length cw] 48) = w5 at *
      have HP5 := HP2.out.later hb5
      obtain ⟨hs, hrd, hct, hsl⟩ := HP5.rd HKK.out.2.2 HKK.out.1
      have hfs := HFREE.out σ HP5.gd j (Nat.lt_of_lt_of_le hlt hM10) (by rw [hx]; rw [HM.out] at hlt; exact hlt)
      rw [hx] at hfs
      have HCALL := kide (fun u (hu : Below w5.heap.size w5 u) => l10Free_any ⟨some ⟨b, o, none⟩, c1, ks, a2, c2, bs⟩ (some ⟨g, 0, none⟩) aw cp cw hs (v : Int) x (numW x (j : Int)) u ((HZ.out.later HP5.bel).later hu) (hrd.later hu) ((N5.rd (numW_ok _ _).1 (numW_ok _ _).2).later hu) (fun y hy => ((graph_good HGR.out).2.2 y.ct (List.mem_map.2 ⟨y, hy, rfl⟩)).1) hsl (by simp only []; have := HKK.out.1; omega) HKK.out.2.1)
      simp only [Gz.val, hct, hfs, hsl] at HCALL
      have p0 := HP5.px.cell 0
      have p1 := HP5.px.cell 1
      have p2 := HP5.px.cell 2
      have x0 := XW.cell 0
      have x1 := XW.cell 1
      simp at p0 p1 p2 x0 x1
      have lx := XW.lt
      have lp := HP5.px.lt
      have H5 := kide HP5
      have HB5 := kide hb5
      have HN5 := kide N5
      have HXW := kide XW
      clear HP5 hb5 N5 XW hrd hct hfs
      simp only [hn1, hn2] at HCALL p0 p1 p2
      go_region_held3 (fun u => u.cell? ⟨P0, 0, none⟩ = some (Value.slice (some ⟨b, o, none⟩) n1 c1) ∧ u.cell? ⟨P0, 1, none⟩ = some (Value.slice a2 n2 c2) ∧ u.cell? ⟨P0, 2, none⟩ = some (Value.slice (some ⟨g, 0, none⟩) n1 cp) ∧ u.cell? ⟨Bx, 0, none⟩ = some (Value.int .i64 x) ∧ u.cell? ⟨Bx, 1, none⟩ = some (Value.slice aw (numW x (j : Int)).length cw)) (first | (simp [*]; done) | exact ⟨(kcell ((Below.refl _ _).drew) _ _ lp).trans p0, (kcell ((Below.refl _ _).drew) _ _ lp).trans p1, (kcell ((Below.refl _ _).drew) _ _ lp).trans p2, (kcell ((Below.refl _ _).drew) _ _ lx).trans x0, (kcell ((Below.refl _ _).drew) _ _ lx).trans x1⟩)
        (first
          | (go_at_call 29; refine Calls.mono (HCALL.out _ ((Below.refl _ _).drew)) ?_; rintro e w6 ⟨rfl, hb6⟩; replace hb6 := kundrew hb6; have y0 := (kcell hb6 _ _ lp).trans p0; have y1 := (kcell hb6 _ _ lp).trans p1; have y2 := (kcell hb6 _ _ lp).trans p2; have z0 := (kcell hb6 _ _ lx).trans x0; have z1 := (kcell hb6 _ _ lx).trans x1; have HB6 := kide hb6; clear hb6))
      clear p0 p1 p2 x0 x1
      have H6 := H5.out.later HB6.out
      have hb26 := HB5.out.trans (HB6.out.mono HB5.out.size)
      have lp6 := H6.px.lt
      have lx6 := Nat.lt_of_lt_of_le lx HB6.out.size
      obtain ⟨l, hbs, hlc, hll⟩ := H6.len
      obtain ⟨e9, ge⟩ : ∃ e, l[v]? = some e := ⟨l[v]'(by rw [hll]; exact hvn), List.getElem?_eq_getElem _⟩
      obtain ⟨g', c', eg, c0, c9⟩ := hbs.row.at ge
      have eg1 : g' = g := by injection eg with e1; injection e1 with e2; injection e2 with e3; exact e3.symm
      rw [eg1] at c0 c9
      obtain ⟨cur, hcur⟩ := hbs.row.typed (b := g) rfl
      have r0 := frozen_of_row w6 g (v * 2) _ _ hcur
      have r1 := frozen_of_row w6 g (v * 2 + 1) _ _ hcur
      have lg := block_lt_of_cell c0
      simp only [] at lg
      have hne := H6.ne
      clear eg eg1 hcur ge hlc hbs
      by_cases hfr : frW xs bd σ j = true
      · have hP7 := HP2.out.put (v := v) (y := (j : Int)) (x := ⟨x, aw, cw, numW x (j : Int)⟩) hb26 (HN5.out.later HB6.out) (by rw [if_neg (by omega)]; simp only [hx]; rfl) (fun _ => .inr ⟨by omega, by omega, by simp only [hx]; exact i1⟩)
        simp only [] at hP7
        have HP7 := kide (hP7.later (show Below ((w6.setCell ⟨g, v * 2, none⟩ (.int .i64 x)).setCell ⟨g, v * 2 + 1, none⟩ (.slice aw (numW x (j : Int)).length cw)).heap.size ((w6.setCell ⟨g, v * 2, none⟩ (.int .i64 x)).setCell ⟨g, v * 2 + 1, none⟩ (.slice aw (numW x (j : Int)).length cw)) ((w6.setCell ⟨g, v * 2, none⟩ (.int .i64 x)).setCell ⟨g, v * 2 + 1, none⟩ (.slice aw (numW x (j : Int)).length cw)).drew from (Below.refl _ _).drew))
        clear hP7
        obtain ⟨q, hq⟩ : ∃ q, (stT (visF fw most t) v (fwN j xs bd σ) σ (vis + 1)).2 = q := ⟨_, rfl⟩
        have hq9 : q ≤ most := by rw [← hq]; exact stT_le (fun σ m h => (visF_le fw most t σ m h).2) _ _ _ hvm
        have hfar : ∀ u, u ≠ v → (stT (visF fw most t) v (fwN j xs bd σ) σ (vis + 1)).1 u = σ u := stT_far (fun σ => ∀ u ∈ t, σ u = -1) (fun σ x hi u hu => by rw [upd_ne _ _ (fun e => (List.nodup_cons.1 HN.out.2).1 (by rw [← e]; exact hu))]; exact hi u hu) (fun σ m hi h => visF_none fw most t σ m (List.nodup_cons.1 HN.out.2).2 hi h) _ σ (vis + 1) (fun u hu => HN.out.1 u (List.mem_cons_of_mem _ hu)) HNO.out
        have hup : upd (stT (visF fw most t) v (fwN j xs bd σ) σ (vis + 1)).1 v (j : Int) = upd σ v (j : Int) := by
          funext u
          unfold upd
          by_cases e : u = v
          · rw [if_pos e, if_pos e]
          · rw [if_neg e, if_neg e]; exact hfar u e
        have hτ : ∀ u ∈ t, upd σ v (j : Int) u = -1 := fun u hu => by
          rw [upd_ne _ _ (fun e => (List.nodup_cons.1 HN.out.2).1 (by rw [← e]; exact hu))]
          exact HN.out.1 u (List.mem_cons_of_mem _ hu)
        obtain ⟨r, hr⟩ : ∃ r, visF fw most t (upd σ v (j : Int)) q = r := ⟨_, rfl⟩
        rw [hq] at HP7
        have hcall := HIH.out (upd σ v (j : Int)) q _ hq9 hτ HP7.out
        rw [hr, show ((k + 1 : Nat) : Int) = (k : Int) + 1 by push_cast; rfl] at hcall
        have HCL := kide hcall
        have HQ := kide (And.intro hq (And.intro hup (And.intro hτ hr)))
        clear hcall hfar hq hup hτ hr hq9
        rw [hfr]
        go_wp2_with fail
        go_region
        all_goals go_wp2_with fail
        refine Calls.mono HCL.out ?_
        rintro e w7 ⟨rfl, τ, hτ, hps⟩
        have hcode := visF_code fw most t (upd σ v (j : Int)) q
        rw [HQ.out.2.2.2] at hcode
        clear HCL y0 y1 y2 z0 z1 c0 c9 r0 r1 lg lp6 lx6 HP7
        have hfull : visF fw most (v :: t) σ vis = tryF (visF fw most t) v (fwN M xs bd σ) σ (vis + 1) := by
          show (if vis = most then _ else _) = _
          rw [if_neg (by omega), hfw, hx, ← HM.out]
        have hstop : r.1 ≠ 2 → visF fw most (v :: t) σ vis = r := fun h2 => by
          obtain ⟨rest, hrest⟩ := fwN_split hlt hfr
          rw [hfull, hrest, tryF_stop _ _ _ _ _ HNO.out (by rw [HQ.out.2.1, HQ.out.1, HQ.out.2.2.2]; exact h2), HQ.out.2.1, HQ.out.1, HQ.out.2.2.2]
        have HSP := kide hstop
        have HTY := kide hτ
        clear hfull hstop hτ
        have w2c := hps.px.cell 1
        have w2m := hps.px.cell 2
        simp at w2c w2m
        have lp7 := hps.px.lt
        obtain ⟨l7, hbs7, hlc7, hll7⟩ := hps.len
        obtain ⟨e7, ge7⟩ : ∃ e, l7[v]? = some e := ⟨l7[v]'(by rw [hll7]; exact hvn), List.getElem?_eq_getElem _⟩
        obtain ⟨g', c', eg, c0, c9⟩ := hbs7.row.at ge7
        have eg1 : g' = g := by injection eg with e1; injection e1 with e2; injection e2 with e3; exact e3.symm
        rw [eg1] at c0 c9
        obtain ⟨cur, hcur⟩ := hbs7.row.typed (b := g) rfl
        have r0 := frozen_of_row w7 g (v * 2) _ _ hcur
        have r1 := frozen_of_row w7 g (v * 2 + 1) _ _ hcur
        have lg := block_lt_of_cell c0
        simp only [] at lg
        have hm6 := hps.px.cell 6
        simp at hm6
        clear eg eg1 hcur ge7 hlc7 hbs7
        have HPS := kide hps
        clear hps
        by_cases hr0 : r.1 = 0
        · have hd0 : decide (r.1 = 0) = true := by simp [hr0]
          rw [hd0]
          go_wp2_with fail
          go_ret
          rw [HSP.out (by omega)]
          exact ⟨by rw [hd0]; rfl, τ, HTY.out, HPS.out⟩
        · have hd0 : decide (r.1 = 0) = false := by simp [hr0]
          rw [hd0]
          have HP8 := kide (HPS.out.put (v := v) (y := -1) (x := ⟨0, none, 0, []⟩) (Below.refl _ _) (.inl ⟨rfl, fun x h => by cases h⟩) (by rw [if_pos rfl]; rfl) (fun _ => .inl rfl))
          simp only [List.length_nil] at HP8
          by_cases hr3 : r.1 = 3
          · have hd3 : decide (r.1 = 3) = true := by simp [hr3]
            rw [hd3] at hm6 HP8
            go_wp2_with fail
            go_ret
            rw [HSP.out (by omega)]
            exact ⟨by rw [hd0]; rfl, _, fun h => absurd hr3 h, by rw [hd3]; exact HP8.out⟩
          · have hd3 : decide (r.1 = 3) = false := by simp [hr3]
            have hr2 : r.1 = 2 := by omega
            rw [hd3] at hm6 HP8
            have hσ : upd τ v (-1) = σ := by
              have h8 := visF_none fw most t _ q (List.nodup_cons.1 HN.out.2).2 HQ.out.2.2.1 (by rw [HQ.out.2.2.2]; exact hr2)
              rw [HQ.out.2.2.2] at h8
              rw [HTY.out (by omega), h8, upd_upd]
              funext u
              unfold upd
              by_cases e : u = v
              · rw [if_pos e, e]; exact (HN.out.1 v (by simp)).symm
              · rw [if_neg e]
            rw [hσ] at HP8
            have hst := fwN_step xs bd σ j
            rw [if_pos hfr] at hst
            have HRL : Hid (noT (visF fw most t) v (fwN (j + 1) xs bd σ) σ (vis + 1) ∧ (stT (visF fw most t) v (fwN (j + 1) xs bd σ) σ (vis + 1)).2 = r.2.2) := by
              show _ ∧ _
              rw [hst]
              refine ⟨noT_snoc _ _ _ _ HNO.out (by rw [HQ.out.2.1, HQ.out.1, HQ.out.2.2.2]; exact hr2), ?_⟩
              rw [stT_snoc, HQ.out.2.1, HQ.out.1, HQ.out.2.2.2]
            clear hst hσ
            go_wp2_with fail
            go_roundw
            case rel => exact ⟨j + 1, by omega, by go_num, HRL.out.1, by rw [HRL.out.2]; exact HP8.out⟩
            case measure => simp [intOf]; omega
      · have hfr0 : frW xs bd σ j = false := by simpa using hfr
        have hst := fwN_step xs bd σ j
        rw [if_neg hfr] at hst
        have HST := kide hst
        have HP6 := kide H6
        rw [hfr0]
        clear hst hfr y0 y1 y2 z0 z1 c0 c9 r0 r1
        go_wp2_with fail
        go_roundw
        case rel => exact ⟨j + 1, by omega, by go_num, by rw [HST.out]; exact HNO.out, by rw [HST.out]; exact HP6.out⟩
        case measure => simp [intOf]; omega
    · have e : j = M := by omega
      subst e
      have i1 : ¬ (j : Int) < wrap64 (2 ^ x.toNat) := by rw [wrap_shS HM.out hM10]; omega
      have hfull : visF fw most (v :: t) σ vis = (2, σ, (stT (visF fw most t) v (fwN j xs bd σ) σ (vis + 1)).2) := by
        have h1 : visF fw most (v :: t) σ vis = tryF (visF fw most t) v (fwN j xs bd σ) σ (vis + 1) := by
          show (if vis = most then _ else _) = _
          rw [if_neg (by omega), hfw, hx, ← HM.out]
        rw [h1, tryF_done _ _ _ HNO.out]
        congr 2
        funext u
        unfold upd
        by_cases e : u = v
        · rw [if_pos e, e]; exact (HN.out.1 v (by simp)).symm
        · rw [if_neg e]
          exact stT_far (fun σ => ∀ u ∈ t, σ u = -1) (fun σ x hi u hu => by rw [upd_ne _ _ (fun e => (List.nodup_cons.1 HN.out.2).1 (by rw [← e]; exact hu))]; exact hi u hu) (fun σ m hi h => visF_none fw most t σ m (List.nodup_cons.1 HN.out.2).2 hi h) _ σ (vis + 1) (fun u hu => HN.out.1 u (List.mem_cons_of_mem _ hu)) HNO.out u e
      have HFU := kide hfull
      clear hfull
      go_wp2_with fail
      go_ret
      rw [HFU.out]
      exact ⟨rfl, σ, fun _ => rfl, HP2.out⟩

end Go.Proofs.Ythoiajpbpoglfaa

/- The given visit: the narrow nodes from one on. -/
namespace Go.Proofs.Ythoiajpbpoglfaa
set_option linter.unusedVariables false
set_option linter.unusedSimpArgs false
open Go.RowKit

/-- The crowd, the others and what is barred, of a graph's bars. -/
def crG (bs : List Yc) : Nat → Int := crF (setY [] (bs.map nrmC))
def xoG (bs : List Yc) : Nat → List Int := xoF (setY [] (bs.map nrmC))
def bdG (bs : List Yc) : Nat → List Int := bdF (setY [] (bs.map nrmC))

theorem sv_any {w0 : World} {z : Gz} {P0 g cp m nc : Nat} {na : Option Addr} {nr : List Int} {most : Nat} (hz : RdG w0 z) (hgr : graphR z.ks (z.bs.map Yg.ct) = true) (hm : nr.length = m) (hm2 : m ≤ 200) (hmost : most ≤ 20000) :
    ∀ (l : List Nat) (k : Nat), k + l.length = m → (∀ j, j < l.length → nr[k + j]? = some ((l.getD j 0 : Nat) : Int)) → (∀ v ∈ l, v < z.ks.length ∧ z.ks.getD v 0 ≤ 10) → l.Nodup → ∀ (σ : Nat → Int) (q : Nat) (w : World), q ≤ most → (∀ v ∈ l, σ v = -1) →
      Ps w0 w z P0 g cp (.slice na m nc) nr σ (q : Int) (most : Int) false →
      Calls Try.prog 28 #[.pointer (some ⟨P0, 0, none⟩), .int .i64 (k : Int)] w (RetS w0 z P0 g cp (.slice na m nc) nr most (visF (fwP z.ks (xoG (z.bs.map Yg.ct)) (bdG (z.bs.map Yg.ct))) most l σ q))
  | [], k, hk, _, _, _, σ, q, w, hq, _, h => by
    simp at hk
    subst hk
    exact sv_end (by omega) h
  | v :: t, k, hk, hv, hl, hnd, σ, q, w, hq, hno, h => by
    obtain ⟨hvn, hv10⟩ := hl v (by simp)
    by_cases e : q = most
    · subst e
      have e1 : visF (fwP z.ks (xoG (z.bs.map Yg.ct)) (bdG (z.bs.map Yg.ct))) q (v :: t) σ q = (3, σ, q) := by unfold visF; rw [if_pos rfl]
      rw [e1]
      exact sv_many (by omega) (by simp at hk; omega) (by omega) h
    · refine sv_step (fwP z.ks (xoG (z.bs.map Yg.ct)) (bdG (z.bs.map Yg.ct))) hz hgr hm (by simp at hk; omega) hm2 (by omega) hmost v t (by have := hv 0 (by simp); simpa using this) hvn hv10 hno hnd (xoG (z.bs.map Yg.ct) v) (bdG (z.bs.map Yg.ct) v) (fun σ => ?_) (fun σ hσ x hx1 hx2 => free_same hgr hσ hvn hx1 hx2) h ?_
      · unfold fwP
        rw [show min (z.ks.getD v 0) 10 = z.ks.getD v 0 by omega]
      · intro τ p u hp hτ hu
        exact sv_any hz hgr hm hm2 hmost t (k + 1) (by simp at hk; omega) (fun j hj => by
          have := hv (j + 1) (by simp; omega)
          rw [show k + 1 + j = k + (j + 1) by omega, this]
          rfl) (fun z hz => hl z (List.mem_cons_of_mem _ hz)) (List.nodup_cons.1 hnd).2 τ p u hp hτ hu

end Go.Proofs.Ythoiajpbpoglfaa

/- A painter of no nodes. -/
namespace Go.Proofs.Ythoiajpbpoglfaa
set_option linter.unusedVariables false
set_option linter.unusedSimpArgs false
open Go.RowKit Go.Shelf

set_option maxHeartbeats 2000000 in
set_option maxRecDepth 100000 in
theorem visit_zero {w0 w : World} {P0 H K n vc nc : Nat} {va na : Option Addr} {wv : Value} {nr ls : List Int} {vis most : Int} {ov mv : Nat → Value} {cr : Nat → Int} {xo bd : Nat → List Int}
    (h : Pt w0 w P0 H K va n vc (.slice na 0 nc) wv nr ls vis most ov mv cr xo bd) :
    Calls Try.prog 35 #[.pointer (some ⟨P0, 0, none⟩), .int .i64 0] w fun e w' => e = .returned (.int .i64 0) ∧ Pt w0 w' P0 H K va n vc (.slice na 0 nc) wv nr ls vis most ov mv cr xo bd := by
  have p2 := h.px.cell 2
  simp at p2
  have lp := h.px.lt
  have HP := kide h
  clear h
  have lp1 : P0 < w.heap.size + 1 := by omega
  have lp2 : P0 < w.heap.size + 1 + 1 := by omega
  have lp3 : P0 < w.heap.size + 1 + 1 + 1 := by omega
  have hb : Below w.heap.size w (((w.alloc (.cells #[.pointer (some ⟨P0, 0, none⟩)] 64)).alloc (.cells #[.int .i64 0] 3)).alloc (.cells #[.int .i64 0] 2)) := ((((Below.refl _ _).alloc (Nat.le_refl _) _).alloc (by simp) _).alloc (by simp; omega) _)
  have HB := kide hb
  clear hb
  go_enter Try.func35, Try.ntmps35
  go_wp2_with fail
  go_quiet (fail)
  go_wp2_with fail
  refine bodyPost_ret (v := .int .i64 0) (by simp [results, Try.results35, go_sem]) rfl ?_
  refine ⟨rfl, HP.out.later ?_⟩
  first | exact below_drewN HB.out _ | exact (below_drewN HB.out _).setCell (by simp; try omega) _

set_option maxHeartbeats 2000000 in
set_option maxRecDepth 100000 in
theorem fill_zero {w0 w : World} {P0 H K n vc wc : Nat} {va wa : Option Addr} {nv : Value} {nr ls : List Int} {vis most : Int} {ov mv : Nat → Value} {cr : Nat → Int} {xo bd : Nat → List Int}
    (h : Pt w0 w P0 H K va n vc nv (.slice wa 0 wc) nr ls vis most ov mv cr xo bd) :
    Calls Try.prog 36 #[.pointer (some ⟨P0, 0, none⟩)] w fun e w' => e = .returned (.tuple #[]) ∧ Pt w0 w' P0 H K va n vc nv (.slice wa 0 wc) nr ls vis most ov mv cr xo bd := by
  have hba : Below w.heap.size w (w.alloc (Obj.cells #[.pointer (some ⟨P0, 0, none⟩)] 64)) := (Below.refl _ _).alloc (Nat.le_refl _) _
  have HP := kide (h.later hba)
  have p3 := h.px.cell 3
  simp at p3
  have lp := h.px.lt
  clear h hba
  refine callsIn_wide.1 (callsIn_of_wp_marks (n := 8) Try.func36 rfl trivial ?_ rfl)
  simp only [Try.ntmps36, List.size_toArray, List.length_cons, List.length_nil, Nat.reduceAdd, Nat.reduceSub, Array.replicate_succ, Array.replicate_zero, List.push_toArray, List.append_toArray, List.nil_append, List.cons_append]
  gi_wp2
  refine wpIn_loop (fun a wr => ∃ (u2 u3 u10 u11 u12 u13 u14 u15 u16 u17 u18 u19 u20 u21 u22 u23 u24 u25 u26 u27 u28 u29 u30 u31 : Value), a = { tmps := #[Value.pointer (some ⟨P0, 0, none⟩), Value.pointer (some ⟨w.heap.size, 0, none⟩), u2, u3, Value.pointer (some ⟨P0, 0, none⟩), Value.pointer (some ⟨P0, 0, none⟩), Value.pointer (some ⟨P0, 3, none⟩), Value.slice wa 0 wc, Value.int .i64 0, Value.int .i64 0, u10, u11, u12, u13, u14, u15, u16, u17, u18, u19, u20, u21, u22, u23, u24, u25, u26, u27, u28, u29, u30, u31], defers := [] } ∧ wr = w.alloc (Obj.cells #[.pointer (some ⟨P0, 0, none⟩)] 64))
    (fun a _ => 0) ⟨_, _, _, _, _, _, _, _, _, _, _, _, _, _, _, _, _, _, _, _, _, _, _, _, rfl, rfl⟩ ?_
  rintro a wr ⟨u2, u3, u10, u11, u12, u13, u14, u15, u16, u17, u18, u19, u20, u21, u22, u23, u24, u25, u26, u27, u28, u29, u30, u31, rfl, rfl⟩
  gi_wp2
  exact ⟨_, results_none rfl _ _ _, rfl, HP.out⟩

set_option maxHeartbeats 1000000 in
set_option maxRecDepth 100000 in
theorem told_zero {w0 w : World} {P0 H K n vc wc : Nat} {va wa : Option Addr} {nv : Value} {nr ls : List Int} {vis most : Int} {ov mv : Nat → Value} {cr : Nat → Int} {xo bd : Nat → List Int}
    (h : Pt w0 w P0 H K va n vc nv (.slice wa 0 wc) nr ls vis most ov mv cr xo bd) :
    Calls Try.prog 37 #[.pointer (some ⟨P0, 0, none⟩)] w fun e w' => e = .returned (.slice none 0 0) ∧ w' = w := by
  have p3 := h.px.cell 3
  have p0 := h.px.cell 0
  simp at p3 p0
  have lp := h.px.lt
  clear h
  go_enter Try.func37, Try.ntmps37
  go_wp2_with fail
  go_loop [3, 13] (fun v i => v = .slice none 0 0 ∧ i = .int .i64 0) (fun _ _ => 0)
  case atStart => exact ⟨rfl, rfl⟩
  case round =>
    obtain ⟨rfl, rfl⟩ := hrel
    go_wp2_with fail
    go_ret
    exact ⟨rfl, rfl⟩

end Go.Proofs.Ythoiajpbpoglfaa
