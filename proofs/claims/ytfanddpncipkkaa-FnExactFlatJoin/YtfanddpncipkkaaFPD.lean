/- Two segments made one, by the program. -/
import Derived.Test.YtfanddpncipkkaaFPW
import Derived.Test.YtfanddpncipkkaaZFL
import Derived.Test.YtfanddpncipkkaaU
import Derived.Test.YtfanddpncipkkaaMB
import Derived.Handy
namespace Go.Proofs.Ytfanddpncipkkaa
set_option linter.unusedVariables false
set_option linter.unusedSimpArgs false
open Go.RowKit

theorem wpList_appW1 {w : World} {ops : Array Oper} {rest : List Oper} {o : Oper} {a : Act} {Q : Exit → Act → World → Prop} (hgd : o.guard = none) (s x : Operand)
    (ho : o.op = .call { callee := .builtin .append, args := #[s, x], argTypes := #[43, 43] })
    (B : Nat) (v : Value) (l : List Nat) (y : Nat) (hs : a.eval s = v) (hown : OwW w B v l) (gx c : Nat) (hx : a.eval x = .slice (some ⟨gx, 0, none⟩) 1 c)
    (h0 : w.cell? ⟨gx, 0, none⟩ = some (.int .u64 (y : Int))) (hl : l.length ≤ 1073741824) (hB : B ≤ w.heap.size)
    (h : ∀ g cap w', OwW w' B (.slice (some ⟨g, 0, none⟩) (l.length + 1) cap) (l ++ [y]) → w.grownBy w' v.ownBlock → (v.ownBlock = some g ∨ g = w.heap.size) → wpList Try.prog ops Q rest (a.put o.dst (.slice (some ⟨g, 0, none⟩) (l.length + 1) cap)) w') : wpList Try.prog ops Q (o :: rest) a w := by
  obtain ⟨i0, hi, hz0, hz1, hz2⟩ := info_parts Try.infoU64
  refine wpList_append_lies w hgd s x 43 ho B 94 i0 _ 1 8 Try.underlying43 hi hz0 hz1 hz2 rfl (by decide) v l.length (u64s l).toList hs hown ⟨gx, 0, none⟩ 1 c [.int .u64 (y : Int)] hx rfl ?_ ?_ (by decide) ?_ ?_ hB _ rfl ?_
  · intro j u hj
    rw [Addr.add_lit]
    match j, hj with
    | 0, hj => simp at hj; subst hj; exact h0
    | j + 1, hj => simp at hj
  · intro u hu
    simp at hu
    subst hu
    rfl
  · unfold maxLen; omega
  · omega
  · intro g cap w' h1 h2 h3 _
    refine h g cap w' ?_ h2 h3
    unfold OwW
    rw [List.length_append]
    simpa [u64s] using h1

theorem tb_more (xs : List Nat) (m j : Nat) : tb (xs ++ List.replicate m 0) j = tb xs j := by
  unfold tb
  congr 1
  simp only [List.getD]
  by_cases h : j / 64 < xs.length
  · rw [List.getElem?_append_left h]
  · rw [List.getElem?_append_right (by omega), List.getElem?_eq_none (show xs.length ≤ j / 64 by omega), List.getElem?_replicate]
    split <;> rfl
/-- Words put behind others are the words of both. -/
theorem put_joined {P q m : Nat} {xs ys : List Nat} (hx : rightB P xs = true) (hy : rightB q ys = true) (hxl : ∀ x ∈ xs, x < 18446744073709551616) (hyl : ∀ x ∈ ys, x < 18446744073709551616) (hl : (xs ++ List.replicate m 0).length = (P + q + 63) / 64) :
    putTo (xs ++ List.replicate m 0) ys (P / 64) (P % 64) ys.length = pack (bitsTo xs P ++ bitsTo ys q) := by
  have hz : ∀ x ∈ xs ++ List.replicate m 0, x < 18446744073709551616 := fun x h => by
    rcases List.mem_append.1 h with h | h
    · exact hxl x h
    · have := List.eq_of_mem_replicate h; omega
  refine eq_pack (fun x hxm => ?_) (by rw [putTo_len, hl]; simp [bitsTo_len]) (putTo_lt _ _ _ _ _ hz hyl) fun i hi => ?_
  · rcases List.mem_append.1 hxm with h | h
    · exact bitsTo_le _ _ x h
    · exact bitsTo_le _ _ x h
  · rw [tb_put_right hy hyl _ P (by rw [hl]; omega), tb_more]
    by_cases h1 : i < P
    · have e : (bitsTo xs P ++ bitsTo ys q).getD i 0 = (tb xs i).toNat := by
        simp only [List.getD]
        rw [List.getElem?_append_left (by rw [bitsTo_len]; exact h1)]
        simp [bitsTo, h1]
      rw [e]
      simp [show ¬ P ≤ i by omega]
    · rw [tb_out hx i (by omega)]
      by_cases h2 : i - P < q
      · have e : (bitsTo xs P ++ bitsTo ys q).getD i 0 = (tb ys (i - P)).toNat := by
          simp only [List.getD]
          rw [List.getElem?_append_right (by rw [bitsTo_len]; omega), bitsTo_len]
          simp [bitsTo, h2]
        rw [e]
        simp [show P ≤ i by omega]
      · have e : (bitsTo xs P ++ bitsTo ys q).getD i 0 = 0 := by
          simp only [List.getD]
          rw [List.getElem?_eq_none (by simp [bitsTo_len]; omega)]
          rfl
        rw [e, tb_out hy (i - P) (by omega)]
        simp

theorem oww_later {w w' : World} {B : Nat} {v : Value} {l : List Nat} (h : OwW w B v l) (hb : Below w.heap.size w w') : OwW w' B v l := World.ownsRow.kept (row := none) h ⟨hb.os, hb.tape, hb.output, hb.size, fun k hk _ => hb.block k hk⟩ (by
  cases h' : v.ownBlock with
  | none => exact .inl rfl
  | some k => exact .inr (by simp))
theorem oww_typed {w : World} {B : Nat} {v : Value} {l : List Nat} (h : OwW w B v l) {b : Nat} (hb : v.ownBlock = some b) : (∃ cur, w.heap[b]? = some (.cells cur 94 (0, 0))) ∧ B ≤ b := by
  rcases h.2 with ⟨rfl, -⟩ | ⟨g, cap, cur, rfl, hg, hh, -⟩
  · cases hb
  · cases hb; exact ⟨⟨cur, hh⟩, hg⟩
theorem bz_oww {w w' : World} {b B : Nat} {v : Value} {xs : List Nat} {cs : Array Value} {t : TypeId} (hb : Bz w b cs t) (h : OwW w B v xs) (ht : t ≠ 94) (hg : w.grownBy w' v.ownBlock) : Bz w' b cs t := by
  unfold Bz at hb ⊢
  rw [hg.block b (lt_of_block hb) (fun e => by
    obtain ⟨⟨cur, hc⟩, -⟩ := oww_typed h e.symm
    rw [hb] at hc
    cases hc
    exact ht rfl)]
  exact hb
theorem oww_set {w : World} {B b i : Nat} {v : Value} {xs : List Nat} {cs : Array Value} {t : TypeId} (h : OwW w B v xs) (hb : Bz w b cs t) (ht : t ≠ 94) (u : Value) : OwW (w.setCell ⟨b, i, none⟩ u) B v xs := by
  obtain ⟨h1, h2⟩ := h
  refine ⟨h1, ?_⟩
  rcases h2 with h2 | ⟨g, cap, cur, rfl, hg, hh, r⟩
  · exact .inl h2
  · refine .inr ⟨g, cap, cur, rfl, hg, ?_, r⟩
    rw [heap_setCell_other _ _ _ _ (fun e => by
      simp only [] at e
      unfold Bz at hb
      rw [e, hb] at hh
      cases hh
      exact ht rfl)]
    exact hh
theorem gsc3 (w : World) (a : Addr) (u : Value) : w.grownBy (w.setCell a u) (some a.block) :=
  ⟨rfl, rfl, rfl, by simp, fun k _ hk => heap_setCell_other _ _ _ _ (fun e => hk (by rw [e]))⟩
theorem rd_gr {w w' : World} {a : Option Addr} {xs : List Nat} {r : Option Nat} (h : Rd w a xs) (hg : w.grownBy w' r) (hne : ∀ p, a = some p → r ≠ some p.block) : Rd w' a xs := by
  obtain ⟨h1, h2, h3⟩ := h
  refine ⟨h1, h2, ?_⟩
  rcases h3 with h3 | ⟨b, o, rfl, hc⟩
  · exact .inl h3
  · refine .inr ⟨b, o, rfl, fun i hi => ?_⟩
    have hl := block_lt_of_cell (hc i hi)
    rw [World.cell?_of_block (a := ⟨b, o + i, none⟩) (hg.block b hl (fun e => hne _ rfl e.symm))]
    exact hc i hi
def lenC (w : World) (b i : Nat) : Nat := match w.cell? ⟨b, i, none⟩ with | some (.slice _ n _) => n | _ => 0
/-- Grown by a block of one's own, or by a new one. -/
theorem grown_own {w w1 w2 : World} {own : Option Nat} {r : Option Nat} (h : w.grownBy w1 own) (h2 : w1.grownBy w2 r) (hr : ∀ k, r = some k → own = some k ∨ w.heap.size ≤ k) : w.grownBy w2 own :=
  ⟨h2.os.trans h.os, h2.tape.trans h.tape, h2.output.trans h.output, Nat.le_trans h.size h2.size, fun k hk hne => by
    rw [h2.block k (Nat.lt_of_lt_of_le hk h.size) (fun e => by
      rcases hr k e.symm with h9 | h9
      · exact hne h9.symm
      · omega)]
    exact h.block k hk hne⟩

/-- What two in one are. -/
def RetO (s t : Sc) (B : Nat) (own : Option Nat) (w : World) (e : Ending) (w' : World) : Prop := ∃ v, e = .returned (.agg #[.int .i64 (oneS s t).v, .int .i64 (oneS s t).lo, .int .i64 (oneS s t).wd, .int .i64 (oneS s t).bw, v]) ∧ OwW w' B v (oneS s t).ws ∧ (∀ k, v.ownBlock = some k → own = some k ∨ w.heap.size ≤ k) ∧ w.grownBy w' own

set_option maxHeartbeats 1000000 in
set_option maxRecDepth 100000 in
theorem oneSeg_any (s t : Sc) (B : Nat) (av bv : Option Addr) (ca cb : Nat) (w : World) (hs : okS s) (ht : okS t) (ho : oneB s t = true) (hsum : s.wd + t.wd ≤ 4096) (hB : B ≤ w.heap.size) (hA : OwW w B (.slice av s.ws.length ca) s.ws) (hT : Rd w bv t.ws) (hne : ∀ p q, av = some p → bv = some q → p.block ≠ q.block) :
    Calls Try.prog 57 #[.agg #[.int .i64 s.v, .int .i64 s.lo, .int .i64 s.wd, .int .i64 s.bw, .slice av s.ws.length ca], .agg #[.int .i64 t.v, .int .i64 t.lo, .int .i64 t.wd, .int .i64 t.bw, .slice bv t.ws.length cb]] w (RetO s t B (Value.slice av s.ws.length ca).ownBlock w) := by
  obtain ⟨v, lo, wd, bw, ws⟩ := s
  obtain ⟨v2, lo2, wd2, bw2, ws2⟩ := t
  have HS := kide hs
  have HT := kide ht
  have HO := kide ho
  have h1 := hs.1
  have h2 := ht.1
  simp only [] at hsum hA hT h1 h2 ⊢
  obtain ⟨n, hn⟩ : ∃ n, ws.length = n := ⟨_, rfl⟩
  obtain ⟨n2, hn2⟩ : ∃ n, ws2.length = n := ⟨_, rfl⟩
  rw [hn] at hA ⊢
  rw [hn2]
  have HN := kide hn
  have HN2 := kide hn2
  have HNE := kide hne
  have HA0 := kide hA
  have HT0 := kide hT
  clear hs ht ho hn hn2 hne hA hT
  go_enter Try.func57, Try.ntmps57
  have hww : IntKind.i64.wrap (wd + wd2) = wd + wd2 := by rw [IntKind.wrap_i64]; first | omega | (unfold wrap64; omega)
  by_cases hv : v = -1
  · subst hv
    have hv : (-1 : Int) = -1 := rfl
    have hcs : Hid (wd = bw ∧ rightB bw ws = true ∧ lo = 0 ∧ wd2 = bw2 ∧ rightB bw2 ws2 = true) := by
      have h9 := HO.out
      simp only [oneB, Bool.and_eq_true, decide_eq_true_eq] at h9
      have hv2 : v2 = -1 := h9.1.symm
      rcases HS.out.2.2.2 with h3 | h3
      · rcases HT.out.2.2.2 with h4 | h4
        · exact ⟨h3.2.2.1.symm, h3.2.2.2, h3.2.1, h4.2.2.1.symm, h4.2.2.2⟩
        · have := h4.1; simp only [] at this; omega
      · have := h3.1; simp only [] at this; omega
    have B4 : Hid (Below w.heap.size w (((w.alloc (Obj.cells #[Value.int .i64 (-1), Value.int .i64 lo, Value.int .i64 (wd + wd2), Value.int .i64 (wd + wd2), Value.slice av n ca] 47)).alloc (Obj.cells #[Value.int .i64 v2, Value.int .i64 lo2, Value.int .i64 wd2, Value.int .i64 bw2, Value.slice bv n2 cb] 47)).alloc (Obj.cells #[Value.int .i64 0, Value.int .i64 0, Value.int .i64 0, Value.int .i64 0, Value.slice none 0 0] 47))) := (((Below.refl _ _).alloc (Nat.le_refl _) _).alloc (by simp) _).alloc (by simp; omega) _
    have X4 : Hid (Bz (((w.alloc (Obj.cells #[Value.int .i64 (-1), Value.int .i64 lo, Value.int .i64 (wd + wd2), Value.int .i64 (wd + wd2), Value.slice av n ca] 47)).alloc (Obj.cells #[Value.int .i64 v2, Value.int .i64 lo2, Value.int .i64 wd2, Value.int .i64 bw2, Value.slice bv n2 cb] 47)).alloc (Obj.cells #[Value.int .i64 0, Value.int .i64 0, Value.int .i64 0, Value.int .i64 0, Value.slice none 0 0] 47)) w.heap.size #[Value.int .i64 (-1), Value.int .i64 lo, Value.int .i64 (wd + wd2), Value.int .i64 (wd + wd2), Value.slice av n ca] 47) := ((Bz.new w #[Value.int .i64 (-1), Value.int .i64 lo, Value.int .i64 (wd + wd2), Value.int .i64 (wd + wd2), Value.slice av n ca] 47).later (((Below.refl _ _).alloc (Nat.le_refl _) _))).later ((Below.refl _ _).alloc (Nat.le_refl _) _)
    have Y4 : Hid (Bz (((w.alloc (Obj.cells #[Value.int .i64 (-1), Value.int .i64 lo, Value.int .i64 (wd + wd2), Value.int .i64 (wd + wd2), Value.slice av n ca] 47)).alloc (Obj.cells #[Value.int .i64 v2, Value.int .i64 lo2, Value.int .i64 wd2, Value.int .i64 bw2, Value.slice bv n2 cb] 47)).alloc (Obj.cells #[Value.int .i64 0, Value.int .i64 0, Value.int .i64 0, Value.int .i64 0, Value.slice none 0 0] 47)) (w.heap.size + 1) #[Value.int .i64 v2, Value.int .i64 lo2, Value.int .i64 wd2, Value.int .i64 bw2, Value.slice bv n2 cb] 47) := by
      have h9 := (Bz.new (w.alloc (Obj.cells #[Value.int .i64 (-1), Value.int .i64 lo, Value.int .i64 (wd + wd2), Value.int .i64 (wd + wd2), Value.slice av n ca] 47)) #[Value.int .i64 v2, Value.int .i64 lo2, Value.int .i64 wd2, Value.int .i64 bw2, Value.slice bv n2 cb] 47).later ((Below.refl _ _).alloc (Nat.le_refl _) (Obj.cells #[Value.int .i64 0, Value.int .i64 0, Value.int .i64 0, Value.int .i64 0, Value.slice none 0 0] 47))
      rw [World.size_alloc] at h9
      exact h9
    have Z4 : Hid (Bz (((w.alloc (Obj.cells #[Value.int .i64 (-1), Value.int .i64 lo, Value.int .i64 (wd + wd2), Value.int .i64 (wd + wd2), Value.slice av n ca] 47)).alloc (Obj.cells #[Value.int .i64 v2, Value.int .i64 lo2, Value.int .i64 wd2, Value.int .i64 bw2, Value.slice bv n2 cb] 47)).alloc (Obj.cells #[Value.int .i64 0, Value.int .i64 0, Value.int .i64 0, Value.int .i64 0, Value.slice none 0 0] 47)) (w.heap.size + 1 + 1) #[Value.int .i64 0, Value.int .i64 0, Value.int .i64 0, Value.int .i64 0, Value.slice none 0 0] 47) := by
      have h9 := Bz.new ((w.alloc (Obj.cells #[Value.int .i64 (-1), Value.int .i64 lo, Value.int .i64 (wd + wd2), Value.int .i64 (wd + wd2), Value.slice av n ca] 47)).alloc (Obj.cells #[Value.int .i64 v2, Value.int .i64 lo2, Value.int .i64 wd2, Value.int .i64 bw2, Value.slice bv n2 cb] 47)) #[Value.int .i64 0, Value.int .i64 0, Value.int .i64 0, Value.int .i64 0, Value.slice none 0 0] 47
      rw [World.size_alloc, World.size_alloc] at h9
      exact h9
    have O4 := kide (oww_later HA0.out B4.out)
    have R4 := kide (HT0.out.later B4.out)
    go_wp2_with fail
    obtain ⟨b0, hb0⟩ : ∃ b0, w.heap.size = b0 := ⟨_, rfl⟩
    rw [hb0] at X4 Y4 Z4
    have HB0 := kide hb0
    simp only [hb0]
    clear hb0
    generalize (((w.alloc (Obj.cells #[Value.int .i64 (-1), Value.int .i64 lo, Value.int .i64 (wd + wd2), Value.int .i64 (wd + wd2), Value.slice av n ca] 47)).alloc (Obj.cells #[Value.int .i64 v2, Value.int .i64 lo2, Value.int .i64 wd2, Value.int .i64 bw2, Value.slice bv n2 cb] 47)).alloc (Obj.cells #[Value.int .i64 0, Value.int .i64 0, Value.int .i64 0, Value.int .i64 0, Value.slice none 0 0] 47)) = w4 at *
    obtain ⟨h31, h32, h33, h34, h35⟩ := hcs.out
    have HR1 := kide h32
    have HR2 := kide h35
    subst h31 h34
    have HLO := kide h33
    clear h33 hcs hv
    have hrw := right_W HR1.out
    have hrw2 := right_W HR2.out
    clear h32 h35
    have hn1 : 1 ≤ n := by have := HN.out; omega
    obtain ⟨gA, rfl⟩ : ∃ g, av = some ⟨g, 0, none⟩ := by
      rcases HA0.out.2 with ⟨e, h9⟩ | ⟨g, cap, cur, e, -⟩
      · have := HN.out; omega
      · cases e; exact ⟨g, rfl⟩
    obtain ⟨N, hN⟩ : ∃ N : Nat, (wd + wd2 + 63) / 64 = (N : Int) := ⟨((wd + wd2 + 63) / 64).toNat, by omega⟩
    have hnN : n ≤ N := by have := HN.out; omega
    have hN64 : N ≤ 64 := by omega
    have HWF := kide (fun u => wordsFor_any (wd + wd2) (by omega) hsum u)
    rw [hN] at HWF
    have HG0 : Hid (w.grownBy w4 (some gA)) := ⟨B4.out.os, B4.out.tape, B4.out.output, B4.out.size, fun k hk _ => B4.out.block k hk⟩
    go_loopw [] (fun wr => ∃ (k c g : Nat), n ≤ k ∧ k ≤ N ∧ Bz wr b0 #[Value.int .i64 (-1), Value.int .i64 lo, Value.int .i64 (wd + wd2), Value.int .i64 (wd + wd2), Value.slice (some ⟨g, 0, none⟩) k c] 47 ∧ OwW wr B (.slice (some ⟨g, 0, none⟩) k c) (ws ++ List.replicate (k - n) 0) ∧ (g = gA ∨ w.heap.size ≤ g) ∧ Bz wr (b0 + 1) #[Value.int .i64 v2, Value.int .i64 lo2, Value.int .i64 wd2, Value.int .i64 wd2, Value.slice bv n2 cb] 47 ∧ Bz wr (b0 + 1 + 1) #[Value.int .i64 0, Value.int .i64 0, Value.int .i64 0, Value.int .i64 0, Value.slice none 0 0] 47 ∧ w.grownBy wr (some gA)) (fun wr => 64 - lenC wr b0 4)
    case atStart => exact ⟨n, ca, gA, Nat.le_refl _, hnN, X4.out, by rw [Nat.sub_self]; simpa using O4.out, .inl rfl, Y4.out, Z4.out, HG0.out⟩
    case round =>
      clear X4 Y4 Z4 O4 R4 B4 HG0
      obtain ⟨k, c, g, hnk, hkN, hx, ho, hgl, hy, hz, hgr⟩ := hrel
      have XR := kide hx
      have OR := kide ho
      have YR := kide hy
      have ZR := kide hz
      have GR := kide hgr
      have HGL := kide hgl
      have c2 := hx.cell 2
      have c4 := hx.cell 4
      simp at c2 c4
      clear hx ho hy hz hgr hgl
      go_wp2_with fail
      go_quiet ((go_at_call 80; exact Calls.quiet_of_same (HWF.out _)))
      have hbd := below_drewN (Below.refl wr.heap.size wr) nq
      have X5 := kide (XR.out.later hbd)
      have O5 := kide (oww_later OR.out hbd)
      have Y5 := kide (YR.out.later hbd)
      have Z5 := kide (ZR.out.later hbd)
      have G5 : Hid (w.grownBy (wr.drewN nq) (some gA)) := grown_own GR.out (r := none) ⟨hbd.os, hbd.tape, hbd.output, hbd.size, fun k hk _ => hbd.block k hk⟩ (fun k e => by cases e)
      have hlC : lenC wr b0 4 = k := by
        have := XR.out.cell 4
        unfold lenC
        rw [this]
        rfl
      have HLC := kide hlC
      clear hbd OR YR ZR GR hlC c2 c4
      generalize wr.drewN nq = w5 at *
      have d4 := X5.out.cell 4
      have f4 := X5.out.froz 4
      simp at d4
      have hz5 : b0 < w5.heap.size := X5.out.lt
      by_cases hlt : k < N
      · have i0 : (k : Int) < (N : Int) := by omega
        have BA : Hid (Below w5.heap.size w5 (w5.alloc (Obj.cells #[Value.int .u64 0] 94))) := (Below.refl _ _).alloc (Nat.le_refl _) _
        have OA := kide (oww_later O5.out BA.out)
        have XA := kide (X5.out.later BA.out)
        have YA := kide (Y5.out.later BA.out)
        have ZA := kide (Z5.out.later BA.out)
        have GA : Hid (w.grownBy (w5.alloc (Obj.cells #[Value.int .u64 0] 94)) (some gA)) := grown_own G5.out (World.grownBy_alloc _ _ none) (fun k e => by cases e)
        obtain ⟨zs, hzs⟩ : ∃ zs, ws ++ List.replicate (k - n) 0 = zs := ⟨_, rfl⟩
        have hzl : zs.length = k := by rw [← hzs, List.length_append, HN.out]; simp; omega
        have hll : zs.length ≤ 1073741824 := by omega
        rw [hzs] at OA
        have HZS := kide hzs
        have HZL := kide hzl
        clear hzs hzl
        have hsz : B ≤ w5.heap.size + 1 := by have := G5.out.size; omega
        have q0 : (w5.alloc (Obj.cells #[Value.int .u64 0] 94)).cell? ⟨w5.heap.size, 0, none⟩ = some (.int .u64 ((0 : Nat) : Int)) := by simp
        go_wp2_with (at_builtin; refine wpList_appW1 rfl _ _ rfl B _ zs 0 rfl OA.out _ _ rfl q0 hll (by simpa using hsz) ?_)
        intro g6 c6 w6 ho6 hg6 hl6
        rw [HZL.out] at ho6 ⊢
        have X6 := kide (bz_oww XA.out OA.out (by decide) hg6)
        have Y6 := kide (bz_oww YA.out OA.out (by decide) hg6)
        have Z6 := kide (bz_oww ZA.out OA.out (by decide) hg6)
        have G6 : Hid (w.grownBy w6 (some gA)) := grown_own GA.out hg6 (fun q e => by
          cases e
          rcases HGL.out with h9 | h9
          · exact .inl (by rw [h9])
          · exact .inr h9)
        have O6 : Hid (OwW w6 B (.slice (some ⟨g6, 0, none⟩) (k + 1) c6) (ws ++ List.replicate (k + 1 - n) 0)) := by
          show OwW _ _ _ _
          rw [show k + 1 - n = k - n + 1 by omega, List.replicate_succ', ← List.append_assoc, HZS.out]
          exact ho6
        have L6 : Hid (g6 = gA ∨ w.heap.size ≤ g6) := by
          rcases hl6 with h9 | h9
          · cases h9; exact HGL.out
          · right; rw [h9]; have := G5.out.size; simp; omega
        have e4 := X6.out.cell 4
        have e5 := X6.out.froz 4
        simp at e4
        clear ho6 hg6 hl6 OA XA YA ZA GA BA q0 hll
        go_wp2_with fail
        have X7 := kide (X6.out.set 4 (.slice (some ⟨g6, 0, none⟩) (k + 1) c6))
        go_roundw
        case rel => exact ⟨k + 1, c6, g6, by omega, by omega, X7.out, oww_set O6.out X6.out (by decide) _, L6.out, Y6.out.other (by omega) 4 _, Z6.out.other (by omega) 4 _, grown_own G6.out (gsc3 w6 ⟨b0, 4, none⟩ _) (fun q e => by cases e; right; rw [HB0.out]; exact Nat.le_refl _)⟩
        case measure =>
          have h9 : lenC (w6.setCell ⟨b0, 4, none⟩ (.slice (some ⟨g6, 0, none⟩) (k + 1) c6)) b0 4 = k + 1 := by
            have := X7.out.cell 4
            unfold lenC
            rw [this]
            rfl
          have h8 := HLC.out
          rw [h9, h8]
          omega
      · obtain rfl : k = N := by omega
        have d0 := X5.out.cell 0
        have d1 := X5.out.cell 1
        have d2 := X5.out.cell 2
        have d3 := X5.out.cell 3
        have y3 := Y5.out.cell 3
        have y4 := Y5.out.cell 4
        simp at d0 d1 d2 d3 y3 y4
        have i0 : ¬ (k : Int) < (k : Int) := by omega
        obtain ⟨zs, hzs⟩ : ∃ zs, ws ++ List.replicate (k - n) 0 = zs := ⟨_, rfl⟩
        have hzl : zs.length = k := by rw [← hzs, List.length_append, HN.out]; simp; omega
        have hws : ∀ x ∈ ws, x < 18446744073709551616 := HS.out.2.2.1
        have hws2 : ∀ x ∈ ws2, x < 18446744073709551616 := HT.out.2.2.1
        obtain ⟨D, hD⟩ : ∃ D : Nat, wd = (D : Int) := ⟨wd.toNat, by omega⟩
        obtain ⟨E, hE⟩ : ∃ E : Nat, wd2 = (E : Int) := ⟨wd2.toNat, by omega⟩
        have hr1 : rightB (D : Int) ws = true := by rw [← hD]; exact HR1.out
        have hr2 : rightB (E : Int) ws2 = true := by rw [← hE]; exact HR2.out
        have hlen : (ws ++ List.replicate (k - n) 0).length = (D + E + 63) / 64 := by rw [hzs, hzl]; omega
        have hpj := put_joined (m := k - n) hr1 hr2 hws hws2 hlen
        rw [hzs] at hpj hlen O5
        have hq : ∀ p, bv = some p → p.block ≠ gA ∧ p.block < w.heap.size := fun p hp => by
          refine ⟨fun e => HNE.out _ p rfl hp e.symm, ?_⟩
          subst hp
          rcases HT0.out.2.2 with h9 | ⟨b, o, e, hc⟩
          · have h8 := (right_W HR2.out).2.2; rw [h9] at h8; simp at h8; omega
          · cases e; exact block_lt_of_cell (hc 0 (by have h8 := (right_W HR2.out).2.2; omega))
        have hrd : Rd w5 bv ws2 := rd_gr HT0.out G5.out (fun p hp e => (hq p hp).1 (by cases e; rfl))
        have hpb := putBitsP_any c (wd + wd2) wd2 g c cb D bv zs ws2 w5 (Owp.ofW O5.out).1 hrd (fun x hx => by
          rw [← hzs] at hx
          rcases List.mem_append.1 hx with h9 | h9
          · exact hws x h9
          · have := List.eq_of_mem_replicate h9; omega) (by omega) (by omega) (by have := HN2.out; omega) (put_fit hr2 hws2 D zs.length (by omega)) (fun x hx e => by
          have h8 := hq x hx
          rcases HGL.out with h9 | h9
          · exact h8.1 (by rw [e, h9])
          · omega)
        rw [hzl, HN2.out, ← hD] at hpb
        rw [HN2.out] at hpj
        have HPB := kide hpb
        have HPJ := kide hpj
        have HZL := kide hzl
        have hDE := kide (And.intro hD hE)
        clear hzs hzl hws hws2 hD hE hr1 hr2 hlen hpj hq hrd hpb
        go_wp2_with fail
        refine Calls.mono HPB.out ?_
        rintro e w6 ⟨rfl, ho6, hg6⟩
        have X6 := kide (bz_oww X5.out O5.out (by decide) hg6)
        have Z6 := kide (bz_oww Z5.out O5.out (by decide) hg6)
        have O6 : Hid (OwW w6 B (.slice (some ⟨g, 0, none⟩) k c) (pack (bitsTo ws D ++ bitsTo ws2 E))) := by
          show OwW _ _ _ _
          rw [← HPJ.out]
          exact OwW.put O5.out ho6 (putTo_len _ _ _ _ _)
        have G6 : Hid (w.grownBy w6 (some gA)) := grown_own G5.out hg6 (fun q e => by
          cases e
          rcases HGL.out with h9 | h9
          · exact .inl (by rw [h9])
          · exact .inr h9)
        have r0 := X6.out.cell 0
        have r1 := X6.out.cell 1
        have r2 := X6.out.cell 2
        have r3 := X6.out.cell 3
        have r4 := X6.out.cell 4
        have z0 := Z6.out.cell 0
        have z1 := Z6.out.cell 1
        have z2 := Z6.out.cell 2
        have z3 := Z6.out.cell 3
        have z4 := Z6.out.cell 4
        have s0 := Z6.out.froz 0
        have s1 := Z6.out.froz 1
        have s2 := Z6.out.froz 2
        have s3 := Z6.out.froz 3
        have s4 := Z6.out.froz 4
        simp at r0 r1 r2 r3 r4 z0 z1 z2 z3 z4
        clear ho6 hg6 d0 d1 d2 d3 d4 y3 y4 f4
        go_wp2_with fail
        have XZ := kide ((((((Z6.out.set 0 (.int .i64 (-1))).set 1 (.int .i64 lo)).set 2 (.int .i64 (wd + wd2))).set 3 (.int .i64 (wd + wd2))).set 4 (.slice (some ⟨g, 0, none⟩) k c)))
        have OZ := kide ((oww_set (i := 4) (oww_set (i := 3) (oww_set (i := 2) (oww_set (i := 1) (oww_set (i := 0) O6.out Z6.out (by decide) (.int .i64 (-1))) (Z6.out.set 0 (.int .i64 (-1))) (by decide) (.int .i64 lo)) ((Z6.out.set 0 (.int .i64 (-1))).set 1 (.int .i64 lo)) (by decide) (.int .i64 (wd + wd2))) (((Z6.out.set 0 (.int .i64 (-1))).set 1 (.int .i64 lo)).set 2 (.int .i64 (wd + wd2))) (by decide) (.int .i64 (wd + wd2))) ((((Z6.out.set 0 (.int .i64 (-1))).set 1 (.int .i64 lo)).set 2 (.int .i64 (wd + wd2))).set 3 (.int .i64 (wd + wd2))) (by decide) (.slice (some ⟨g, 0, none⟩) k c)))
        have GZ := kide ((grown_own (grown_own (grown_own (grown_own (grown_own G6.out (gsc3 w6 ⟨b0 + 1 + 1, 0, none⟩ (.int .i64 (-1))) (fun q e => by cases e; right; have := HB0.out; simp only []; omega)) (gsc3 (w6.setCell ⟨b0 + 1 + 1, 0, none⟩ (.int .i64 (-1))) ⟨b0 + 1 + 1, 1, none⟩ (.int .i64 lo)) (fun q e => by cases e; right; have := HB0.out; simp only []; omega)) (gsc3 ((w6.setCell ⟨b0 + 1 + 1, 0, none⟩ (.int .i64 (-1))).setCell ⟨b0 + 1 + 1, 1, none⟩ (.int .i64 lo)) ⟨b0 + 1 + 1, 2, none⟩ (.int .i64 (wd + wd2))) (fun q e => by cases e; right; have := HB0.out; simp only []; omega)) (gsc3 (((w6.setCell ⟨b0 + 1 + 1, 0, none⟩ (.int .i64 (-1))).setCell ⟨b0 + 1 + 1, 1, none⟩ (.int .i64 lo)).setCell ⟨b0 + 1 + 1, 2, none⟩ (.int .i64 (wd + wd2))) ⟨b0 + 1 + 1, 3, none⟩ (.int .i64 (wd + wd2))) (fun q e => by cases e; right; have := HB0.out; simp only []; omega)) (gsc3 ((((w6.setCell ⟨b0 + 1 + 1, 0, none⟩ (.int .i64 (-1))).setCell ⟨b0 + 1 + 1, 1, none⟩ (.int .i64 lo)).setCell ⟨b0 + 1 + 1, 2, none⟩ (.int .i64 (wd + wd2))).setCell ⟨b0 + 1 + 1, 3, none⟩ (.int .i64 (wd + wd2))) ⟨b0 + 1 + 1, 4, none⟩ (.slice (some ⟨g, 0, none⟩) k c)) (fun q e => by cases e; right; have := HB0.out; simp only []; omega)))
        have k0 := XZ.out.cell 0
        have k1 := XZ.out.cell 1
        have k2 := XZ.out.cell 2
        have k3 := XZ.out.cell 3
        have k4 := XZ.out.cell 4
        simp at k0 k1 k2 k3 k4
        have e2 : oneS ⟨-1, lo, wd, wd, ws⟩ ⟨v2, lo2, wd2, wd2, ws2⟩ = ⟨-1, 0, wd + wd2, wd + wd2, pack (bitsTo ws D ++ bitsTo ws2 E)⟩ := by
          obtain ⟨h8, h9⟩ := hDE.out
          unfold oneS
          rw [if_pos rfl, h8, h9]
          simp
        exact bodyPost_ret (v := .agg #[.int .i64 (-1), .int .i64 lo, .int .i64 (wd + wd2), .int .i64 (wd + wd2), .slice (some ⟨g, 0, none⟩) k c]) (by simp [results, Try.results57, go_sem, k0, k1, k2, k3, k4]) rfl ⟨.slice (some ⟨g, 0, none⟩) k c, by rw [e2, HLO.out], by rw [e2]; exact OZ.out, fun q e => by
          cases e
          rcases HGL.out with h9 | h9
          · exact .inl (by rw [h9]; rfl)
          · exact .inr h9, GZ.out⟩
  · have e1 : (v == -1) = false := by simp [hv]
    have e2 : oneS ⟨v, lo, wd, bw, ws⟩ ⟨v2, lo2, wd2, bw2, ws2⟩ = ⟨v, lo, wd + wd2, 0, []⟩ := if_neg hv
    have e3 : bw = 0 ∧ ws = [] := by
      rcases HS.out.2.2.2 with h3 | h3
      · exact absurd h3.1 hv
      · exact h3.2
    obtain ⟨rfl, rfl⟩ := e3
    have HE2 := kide e2
    clear e2
    go_wp2_with fail
    refine bodyPost_ret (v := .agg #[.int .i64 v, .int .i64 lo, .int .i64 (wd + wd2), .int .i64 0, .slice av n ca]) (by simp [results, Try.results57, go_sem]) rfl ⟨.slice av n ca, by rw [HE2.out], ?_, fun k hk => .inl hk, ?_⟩
    · rw [HE2.out]
      exact oww_later HA0.out ((((Below.refl _ _).alloc (Nat.le_refl _) _).alloc (by simp) _).alloc (by simp; omega) _)
    · exact World.grownBy.trans (World.grownBy.trans (World.grownBy_alloc _ _ _) (World.grownBy_alloc _ _ _)) (World.grownBy_alloc _ _ _)

end Go.Proofs.Ytfanddpncipkkaa
