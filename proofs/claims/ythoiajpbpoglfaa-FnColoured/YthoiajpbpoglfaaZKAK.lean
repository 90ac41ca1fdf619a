/- Several texts in one. -/
import Derived.Test.YthoiajpbpoglfaaZKAD
import Derived.Test.YthoiajpbpoglfaaZKAJ
import Derived.Test.YthoiajpbpoglfaaZKAB
import Derived.Test.YthoiajpbpoglfaaZKAC

/- The reader of the draws: a right word of a width. -/
namespace Go.Proofs.Ythoiajpbpoglfaa
set_option linter.unusedVariables false
set_option linter.unusedSimpArgs false
open Go.RowKit

theorem Blk.put0 {w : World} {β : Nat} {x y : Value} {t : TypeId} (h : Blk w β x y t) (u : Value) : Blk (w.setCell ⟨β, 0, none⟩ u) β u y t := by
  unfold Blk
  rw [heap_setCell_same w β 0 _ _ _ h]; rfl

theorem Rr.lt {w : World} {β : Nat} {a : Option Addr} {c : Nat} {bs : List Nat} (h : Rr w β a c bs) : β < w.heap.size := by
  obtain ⟨p, _, hk, _⟩ := h; exact hk.lt

/-- What is written from w0's end on touches neither the reader nor its bytes. -/
theorem Rr.far {w0 w w' : World} {β : Nat} {a : Option Addr} {c : Nat} {bs : List Nat} {row : Option Nat} (h0 : Rr w0 β a c bs) (h : Rr w β a c bs) (hg : w.grownBy w' row) (hrow : ∀ k, row = some k → w0.heap.size ≤ k) : Rr w' β a c bs := by
  have hβ := h0.lt
  obtain ⟨_, _, _, ⟨_, _, h3⟩, _⟩ := h0
  obtain ⟨p, hp, hk, hr, hn⟩ := h
  refine ⟨p, hp, ?_, ?_, hn⟩
  · unfold Blk
    rw [hg.block β hk.lt (fun e => by have := hrow β e.symm; omega)]; exact hk
  · rcases h3 with h3 | ⟨b, o, rfl, hc⟩
    · subst h3; exact ⟨by simp, by simp, .inl rfl⟩
    · by_cases he : bs = []
      · subst he; exact ⟨by simp, by simp, .inl rfl⟩
      · have hb : b < w0.heap.size := block_lt_of_cell (hc 0 (List.length_pos_iff.2 he))
        exact hr.kept hg (fun x e _ h => by cases e; have := hrow _ h; simp at this; omega)

theorem Dw.own {β : Nat} {w0 w w' : World} {row : Option Nat} (h : Dw β w0 w) (hg : w.grownBy w' row) (hrow : ∀ k, row = some k → w0.heap.size ≤ k) : Dw β w0 w' :=
  ⟨hg.os.trans h.os, hg.tape.trans h.tape, hg.output.trans h.output, Nat.le_trans h.size hg.size, fun k hk hne => by
    rw [hg.block k (Nat.lt_of_lt_of_le hk h.size) (fun e => by have := hrow k e.symm; omega)]; exact h.block k hk hne⟩

theorem OwB.far {w w' : World} {base : Nat} {v : Value} {bs : List Nat} {β : Nat} (h : OwB w base v bs) (hd : Dw β w w') (hβ : β < base) : OwB w' base v bs := by
  obtain ⟨h1, h2⟩ := h
  refine ⟨h1, ?_⟩
  rcases h2 with h2 | ⟨g, cap, cur, rfl, hg, hh, r⟩
  · exact .inl h2
  · exact .inr ⟨g, cap, cur, rfl, hg, by rw [World.grownBy.block hd g (lt_of_block hh) (by simp; omega)]; exact hh, r⟩

set_option maxHeartbeats 1000000 in
set_option maxRecDepth 100000 in
theorem bits_any (V : Nat) (h1 : 1 ≤ V) (h2 : V ≤ 4096) (β : Nat) (a : Option Addr) (c : Nat) (bs : List Nat) (w : World) (hr : Rr w β a c bs) :
    Calls Try.prog 71 #[.pointer (some ⟨β, 0, none⟩), .int .i64 V] w fun e w' => ∃ a' l, l.length = V ∧ (∀ x ∈ l, x ≤ 1) ∧
      e = .returned (.agg #[.int .i64 V, .slice a' (pack l).length (pack l).length]) ∧ Fresh w' w.heap.size a' (pack l) ∧ Rr w' β a c bs ∧ Dw β w w' := by
  go_enter Try.func71, Try.ntmps71
  go_wp2_with fail
  have hb2 : Below w.heap.size w ((w.alloc (Obj.cells #[Value.int IntKind.i64 0, Value.slice none 0 0] 48)).alloc (Obj.cells #[] 5)) := Ba (Ba (Below.refl _ _) _) _
  have hβ := hr.lt
  refine (word_any β a c bs _ (hr.later hb2)).mono ?_
  rintro e w1 ⟨y, rfl, hy, hr1, hd1⟩
  go_wp2_with fail
  refine (below_any 4 (by omega) β a c bs _ hr1).mono ?_
  rintro e w2 ⟨m, rfl, hm, hr2, hd2⟩
  have hd12 := hd1.trans hd2
  have ho2 : OwB w2 (w.heap.size + 1) (.slice (some ⟨w.heap.size + 1, 0, none⟩) 0 0) [] := OwB.far (OwB.nil _ _ _ (by simp) (Nat.le_refl _)) hd12 (by omega)
  have hk2 : Blk w2 w.heap.size (.int .i64 0) (.slice none 0 0) 48 := by
    unfold Blk
    rw [World.grownBy.block hd12 w.heap.size (by simp; omega) (by simp; omega), heap_alloc_old _ _ (by simp), heap_alloc_new]
  have hd : Dw β w w2 := (Dw.of hb2).trans hd12
  clear hb2 hd1 hd2 hd12 hr1
  go_wp2
  go_loopw [5, 8] (fun v i wr => ∃ (k : Nat) (l : List Nat), k ≤ V ∧ i = .int .i64 k ∧ l.length = k ∧ (∀ x ∈ l, x ≤ 1) ∧ OwB wr (w.heap.size + 1) v l ∧ Blk wr w.heap.size (.int .i64 0) (.slice none 0 0) 48 ∧ Rr wr β a c bs ∧ Dw β w wr) (fun _ i _ => V - (intOf i).toNat)
  case atStart => exact ⟨0, [], Nat.zero_le _, rfl, rfl, by simp, ho2, hk2, hr2, hd⟩
  case round =>
    clear ho2 hk2 hr2 hd
    obtain ⟨k, l, hk, rfl, hlk, hl1, hown, hbk, hrr, hdd⟩ := hrel
    by_cases hlt : k < V
    · have hsz : w.heap.size < wr.heap.size := hbk.lt
      have hbl : l.length ≤ 4194304 := by omega
      have HLK : Hid (l.length = k) := hlk
      have HL1 : Hid (∀ x ∈ l, x ≤ 1) := hl1
      clear hlk hl1
      obtain ⟨t, ht, HC⟩ : ∃ t : Nat, t ≤ 1 ∧ Hid (bits BinOp.and IntKind.u64 ((y : Int) / 2 ^ (k * 7 % 64)) 1 % 256 = (t : Int)) := ⟨_, by omega, andOne y _ hy⟩
      by_cases m0 : m = 0
      · have e0 : ((m : Int) == 0) = true := by simp [m0]
        have e1 : ((m : Int) == 1) = false := by simp [m0]
        clear m0
        go_wp2_with (at_builtin; refine wpList_appB _ rfl _ _ rfl (w.heap.size + 1) _ l 0 rfl (hown.alloc _) wr.heap.size rfl (by simp) hbl (by simp; omega) ?_)
        intro v' w3 hown3 hgr
        have hgo : ∀ q, (Value.ownBlock u5) = some q → w.heap.size ≤ q := fun q hq => by have := hown.own q hq; omega
        have hd3 := (hdd.alloc _).own hgr hgo
        have hr3 := hr.far (hrr.later ((Below.refl _ _).alloc (Nat.le_refl _) _)) hgr hgo
        have hk3 : Blk w3 w.heap.size (.int .i64 0) (.slice none 0 0) 48 := by
          unfold Blk
          rw [hgr.block w.heap.size (by simp; omega) (fun e => by have := hown.own _ e.symm; omega)]
          exact hbk.alloc _
        clear hgr hown hdd hrr hbk hgo
        go_wp2
        go_roundw
        case rel => exact ⟨k + 1, l ++ [0], by omega, by go_num, by simp [HLK.out], fun x hx => by
                      rcases List.mem_append.1 hx with h | h
                      · exact HL1.out x h
                      · simp at h; omega, hown3, hk3, hr3, hd3⟩
        case measure => simp [intOf]; omega
      · have m0i : ¬ (m : Int) = 0 := by omega
        by_cases m1 : m = 1
        · have e0 : ((m : Int) == 0) = false := by simp [m1]
          have e1 : ((m : Int) == 1) = true := by simp [m1]
          clear m1 m0 m0i
          go_wp2_with (at_builtin; refine wpList_appB _ rfl _ _ rfl (w.heap.size + 1) _ l 1 rfl (hown.alloc _) wr.heap.size rfl (by simp) hbl (by simp; omega) ?_)
          intro v' w3 hown3 hgr
          have hgo : ∀ q, (Value.ownBlock u5) = some q → w.heap.size ≤ q := fun q hq => by have := hown.own q hq; omega
          have hd3 := (hdd.alloc _).own hgr hgo
          have hr3 := hr.far (hrr.later ((Below.refl _ _).alloc (Nat.le_refl _) _)) hgr hgo
          have hk3 : Blk w3 w.heap.size (.int .i64 0) (.slice none 0 0) 48 := by
            unfold Blk
            rw [hgr.block w.heap.size (by simp; omega) (fun e => by have := hown.own _ e.symm; omega)]
            exact hbk.alloc _
          clear hgr hown hdd hrr hbk hgo
          go_wp2
          go_roundw
          case rel => exact ⟨k + 1, l ++ [1], by omega, by go_num, by simp [HLK.out], fun x hx => by
                        rcases List.mem_append.1 hx with h | h
                        · exact HL1.out x h
                        · simp at h; omega, hown3, hk3, hr3, hd3⟩
          case measure => simp [intOf]; omega
        · have e0 : ((m : Int) == 0) = false := by simp [m0]
          have e1 : ((m : Int) == 1) = false := by simp; omega
          clear m1 m0 m0i
          go_wp2_with (at_builtin; refine wpList_appB _ rfl _ _ rfl (w.heap.size + 1) _ l t rfl (hown.alloc _) wr.heap.size rfl (by simp [HC.out]) hbl (by simp; omega) ?_)
          intro v' w3 hown3 hgr
          have hgo : ∀ q, (Value.ownBlock u5) = some q → w.heap.size ≤ q := fun q hq => by have := hown.own q hq; omega
          have hd3 := (hdd.alloc _).own hgr hgo
          have hr3 := hr.far (hrr.later ((Below.refl _ _).alloc (Nat.le_refl _) _)) hgr hgo
          have hk3 : Blk w3 w.heap.size (.int .i64 0) (.slice none 0 0) 48 := by
            unfold Blk
            rw [hgr.block w.heap.size (by simp; omega) (fun e => by have := hown.own _ e.symm; omega)]
            exact hbk.alloc _
          clear hgr hown hdd hrr hbk hgo
          go_wp2
          go_roundw
          case rel => exact ⟨k + 1, l ++ [t], by omega, by go_num, by simp [HLK.out], fun x hx => by
                        rcases List.mem_append.1 hx with h | h
                        · exact HL1.out x h
                        · simp at h; omega, hown3, hk3, hr3, hd3⟩
          case measure => simp [intOf]; omega
    · have HLK : Hid (l.length = k) := hlk
      have HL1 : Hid (∀ x ∈ l, x ≤ 1) := hl1
      have ek : k = V := by omega
      subst ek
      have hbl : l.length ≤ 4194304 := by omega
      obtain ⟨a', c', rfl, hrd, -, -⟩ := hown.shape hbl (fun x hx => by have := hl1 x hx; omega)
      have g1 : 1 ≤ l.length := by omega
      have g2 : l.length ≤ 4096 := by omega
      clear hl1 hlk
      go_wp2_with fail
      refine (l1From_cap _ _ _ _ hrd g1 g2).mono ?_
      rintro e w4 ⟨a4, rfl, hf, hb4⟩
      have hk4 := hbk.next hb4
      have hr4 := hrr.later hb4
      have hd4 := hdd.trans (Dw.of hb4)
      obtain ⟨c0, c1⟩ := hk4.cells
      have f0 : w4.frozen? ⟨w.heap.size, 0, none⟩ = false := frozen_of_row w4 _ 0 _ _ hk4
      have f1 : w4.frozen? ⟨w.heap.size, 1, none⟩ = false := frozen_of_row w4 _ 1 _ _ hk4
      have HF : Hid _ := hf
      have HB4 : Hid _ := hb4
      have hltr : w.heap.size < wr.heap.size := hbk.lt
      have hlt4 : w.heap.size < w4.heap.size := hk4.lt
      clear hown hbk hrr hdd hrd hb4 hf
      go_wp2
      obtain ⟨d0, d1⟩ := (((hk4.put0 (Value.int IntKind.i64 l.length)).put1 (Value.slice a4 (pack l).length (pack l).length)).alloc (Obj.cells #[Value.int IntKind.i64 l.length, Value.slice a4 (pack l).length (pack l).length] 48)).cells
      refine bodyPost_ret (v := .agg #[.int .i64 l.length, .slice a4 (pack l).length (pack l).length]) (by simp [results, Try.results71, go_sem, d0, d1]) rfl ?_
      have gw := (gsc w4 ⟨w.heap.size, 0, none⟩ (Value.int IntKind.i64 l.length)).trans (gsc _ ⟨w.heap.size, 1, none⟩ (Value.slice a4 (pack l).length (pack l).length))
      have gh : ∀ q, some w.heap.size = some q → w.heap.size ≤ q := fun q e => by cases e; exact Nat.le_refl _
      refine ⟨a4, l, HLK.out, HL1.out, by rw [HLK.out], ?_, (hr.far hr4 gw gh).later ((Below.refl _ _).alloc (Nat.le_refl _) _), (hd4.own gw gh).alloc _⟩
      rcases HF.out with h | ⟨g, rfl, hg, ho⟩
      · exact .inl h
      · refine .inr ⟨g, rfl, by omega, ?_⟩
        have ho2 := (ho.other (a := ⟨w.heap.size, 0, none⟩) (show g ≠ w.heap.size by omega) (Value.int IntKind.i64 l.length)).other (a := ⟨w.heap.size, 1, none⟩) (show g ≠ w.heap.size by omega) (Value.slice (some ⟨g, 0, none⟩) (pack l).length (pack l).length)
        exact ho2.later ((Below.refl _ _).alloc (Nat.le_refl _) _) ho2.lt

end Go.Proofs.Ythoiajpbpoglfaa

/- The reader of the draws: a word that is now and then spoilt. -/
namespace Go.Proofs.Ythoiajpbpoglfaa
set_option linter.unusedVariables false
set_option linter.unusedSimpArgs false
open Go.RowKit

/-- Words xs stand at a, in a block from lo on. -/
def Got (w : World) (lo : Nat) (a : Option Addr) (xs : List Nat) : Prop := Rd w a xs ∧ ∀ x, a = some x → lo ≤ x.block

theorem Fresh.got {w : World} {lo : Nat} {a : Option Addr} {ys : List Nat} (h : Fresh w lo a ys) (hl : ys.length ≤ 1048576) (hx : ∀ x ∈ ys, x < 18446744073709551616) : Got w lo a ys := by
  rcases h with ⟨rfl, rfl⟩ | ⟨g, rfl, hg, ho⟩
  · exact ⟨⟨hl, hx, .inl rfl⟩, fun x e => by cases e⟩
  · exact ⟨ho.rd hl hx, fun x e => by cases e; exact hg⟩

theorem Got.far {w w' : World} {lo : Nat} {a : Option Addr} {xs : List Nat} {β : Nat} (h : Got w lo a xs) (hd : Dw β w w') (hβ : β < lo) : Got w' lo a xs := by
  obtain ⟨⟨h1, h2, h3⟩, h4⟩ := h
  refine ⟨⟨h1, h2, ?_⟩, h4⟩
  rcases h3 with h3 | ⟨b, o, rfl, hc⟩
  · exact .inl h3
  · refine .inr ⟨b, o, rfl, fun i hi => ?_⟩
    have h5 := hc i hi
    have := h4 _ rfl
    simp only at this
    rw [World.cell?_of_block (World.grownBy.block hd b (block_lt_of_cell h5) (by simp; omega))]
    exact h5

theorem Got.farNe {w w' : World} {lo : Nat} {a : Option Addr} {xs : List Nat} {β : Nat} (h : Got w lo a xs) (hd : Dw β w w') (hn : ∀ x, a = some x → x.block ≠ β) : Got w' lo a xs := by
  obtain ⟨⟨h1, h2, h3⟩, h4⟩ := h
  refine ⟨⟨h1, h2, ?_⟩, h4⟩
  rcases h3 with h3 | ⟨b, o, rfl, hc⟩
  · exact .inl h3
  · refine .inr ⟨b, o, rfl, fun i hi => ?_⟩
    have h5 := hc i hi
    have := hn _ rfl
    simp only at this
    rw [World.cell?_of_block (World.grownBy.block hd b (block_lt_of_cell h5) (by simpa using this))]
    exact h5

theorem Dw.undrew {β : Nat} {w w' : World} (h : Dw β w.drew w') : Dw β w w' := ⟨h.os, h.tape, h.output, h.size, h.block⟩

theorem Got.later {w w' : World} {lo : Nat} {a : Option Addr} {xs : List Nat} (h : Got w lo a xs) (hb : Below w.heap.size w w') : Got w' lo a xs := ⟨h.1.later hb, h.2⟩
theorem Got.mono {w : World} {lo lo' : Nat} {a : Option Addr} {xs : List Nat} (h : Got w lo a xs) (hl : lo' ≤ lo) : Got w lo' a xs := ⟨h.1, fun x e => Nat.le_trans hl (h.2 x e)⟩

theorem Blk.far {w w' : World} {γ β : Nat} {x y : Value} {t : TypeId} (h : Blk w γ x y t) (hd : Dw β w w') (hn : γ ≠ β) : Blk w' γ x y t := by
  unfold Blk
  rw [World.grownBy.block hd γ h.lt (by simpa using hn)]; exact h
theorem Own.far {w w' : World} {g β : Nat} {xs : List Nat} (h : Own w g xs) (hd : Dw β w w') (hn : g ≠ β) : Own w' g xs := by
  unfold Own
  rw [World.grownBy.block hd g h.lt (by simpa using hn)]; exact h

def OwU (w : World) (base : Nat) (v : Value) (xs : List Nat) : Prop := w.ownsRow base 88 1 v xs.length (u64s xs).toList

theorem Own.owU {w : World} {g base : Nat} {xs : List Nat} (h : Own w g xs) (hb : base ≤ g) (hl : xs.length ≤ 1048576) : OwU w base (.slice (some ⟨g, 0, none⟩) xs.length xs.length) xs :=
  ⟨by simp [u64s], .inr ⟨g, xs.length, u64s xs, rfl, hb, h, Nat.le_refl _, by unfold maxLen; omega, by simp [u64s], by simp [u64s, List.take_of_length_le]⟩⟩

theorem OwU.shape {w : World} {base : Nat} {v : Value} {xs : List Nat} (h : OwU w base v xs) (hl : xs.length ≤ 1048576) (hx : ∀ x ∈ xs, x < 18446744073709551616) :
    ∃ a c, v = .slice a xs.length c ∧ Got w base a xs ∧ ∀ x, a = some x → ∃ cur, w.heap[x.block]? = some (.cells cur 88 (0, 0)) := by
  obtain ⟨h1, ⟨rfl, h2⟩ | ⟨g, cap, cur, rfl, hg, hh, hc1, hc2, hsz, hcur⟩⟩ := h
  · have e := List.eq_nil_of_length_eq_zero h2
    subst e
    exact ⟨none, 0, rfl, ⟨⟨hl, hx, .inl rfl⟩, fun x e => by cases e⟩, fun x e => by cases e⟩
  · refine ⟨some ⟨g, 0, none⟩, cap, rfl, ⟨⟨hl, hx, .inr ⟨g, 0, rfl, fun i hi => ?_⟩⟩, fun x e => by cases e; exact hg⟩, fun x e => by cases e; exact ⟨cur, hh⟩⟩
    rw [Nat.zero_add, cell_of_row w g i cur _ _ hh]
    have h3 : (cur.toList.take (xs.length * 1))[i]? = (u64s xs).toList[i]? := by rw [hcur]
    rw [List.getElem?_take, if_pos (by omega)] at h3
    simp only [Array.getElem?_toList] at h3
    rw [h3, u64s_get _ _ hi]

/-- 'append(out, y)' of a word, out the call's own. -/
theorem wpList_appU (w : World) {ops : Array Oper} {rest : List Oper} {o : Oper} {a : Act} {Q : Exit → Act → World → Prop} (hgd : o.guard = none) (s x : Operand)
    (ho : o.op = .call { callee := .builtin .append, args := #[s, x], argTypes := #[46, 46] })
    (base : Nat) (v : Value) (xs : List Nat) (y : Nat) (hs : a.eval s = v) (hown : OwU w base v xs) (g : Nat) (hx : a.eval x = .slice (some ⟨g, 0, none⟩) 1 1)
    (hnew : w.cell? ⟨g, 0, none⟩ = some (.int .u64 (y : Int))) (hl : xs.length ≤ 1048576) (hbase : base ≤ w.heap.size)
    (h : ∀ v' w', OwU w' base v' (xs ++ [y]) → w.grownBy w' v.ownBlock → wpList Try.prog ops Q rest (a.put o.dst v') w') : wpList Try.prog ops Q (o :: rest) a w := by
  obtain ⟨i0, hi, hz0, hz1, hz2⟩ := info_parts Try.infoU64
  refine wpList_append_own w hgd s x 46 ho base 88 i0 (.int .u64 0) 1 8 Try.underlying46 hi hz0 hz1 hz2 rfl (by decide) v xs.length (u64s xs).toList hs hown ⟨g, 0, none⟩ 1 1 [.int .u64 (y : Int)] hx rfl ?_ ?_ ?_ ?_ hbase ?_
  · intro j u hj
    match j, hj with
    | 0, hj => simp at hj; subst hj; simpa [Addr.add] using hnew
  · intro u hu; simp at hu; subst hu; rfl
  · unfold maxLen; omega
  · omega
  · intro v' w' h1 h2 _
    refine h v' w' ?_ h2
    unfold OwU
    simpa [u64s] using h1

theorem wrap_small (y : Nat) (h : y = 0 ∨ y < 2) : IntKind.i64.wrap (4096 + (y : Int)) = 4096 + (y : Int) := by
  obtain rfl | rfl : y = 0 ∨ y = 1 := by omega
  · rfl
  · rfl


end Go.Proofs.Ythoiajpbpoglfaa

/- Draws of words: the readers begun, one word, two words. -/
namespace Go.Proofs.Ythoiajpbpoglfaa
set_option linter.unusedVariables false
set_option linter.unusedSimpArgs false
open Go.RowKit

theorem open_any (a : Option Addr) (c : Nat) (bs : List Nat) (w : World) (h : RdB w a bs) :
    Calls Try.prog 45 #[.slice a bs.length c] w fun e w' => ∃ β, e = .returned (.pointer (some ⟨β, 0, none⟩)) ∧ w.heap.size ≤ β ∧ Rr w' β a c bs ∧ Below w.heap.size w w' := by
  have hl := h.1
  go_enter Try.func45, Try.ntmps45
  go_wp2
  go_ret
  refine ⟨w.heap.size, rfl, Nat.le_refl _, ⟨0, Nat.zero_le _, Blk.new _ _ _ _, h.later (Ba (Below.refl _ _) _), fun x e hb => ?_⟩, Ba (Below.refl _ _) _⟩
  obtain ⟨-, -, h | ⟨b, o, rfl, hc⟩⟩ := h
  · exact absurd h hb
  · cases e
    have := block_lt_of_cell (hc 0 (List.length_pos_iff.2 hb))
    simp at this ⊢
    omega

/-- What a draw of a word answers. -/
def RetD (w : World) (e : Ending) (w' : World) : Prop :=
  ∃ a' c' W xs, e = .returned (.agg #[.int .i64 W, .slice a' xs.length c']) ∧ -9223372036854775808 ≤ W ∧ W ≤ 9223372036854775807 ∧ Got w' w.heap.size a' xs ∧ Below w.heap.size w w'


end Go.Proofs.Ythoiajpbpoglfaa

/- Drawn numbers, up to whatever bound. -/
namespace Go.Proofs.Ythoiajpbpoglfaa
set_option linter.unusedVariables false
set_option linter.unusedSimpArgs false
open Go.RowKit

theorem wrap64_in (x : Int) : -9223372036854775808 ≤ wrap64 x ∧ wrap64 x ≤ 9223372036854775807 := by unfold wrap64; omega

set_option maxHeartbeats 1000000 in
theorem near0_any (h : Int) (hi : in64 h) (β : Nat) (a : Option Addr) (c : Nat) (bs : List Nat) (w : World) (hr : Rr w β a c bs) :
    Calls Try.prog 72 #[.pointer (some ⟨β, 0, none⟩), .int .i64 0, .int .i64 h] w fun e w' => ∃ x : Int, e = .returned (.int .i64 x) ∧ in64 x ∧ Rr w' β a c bs ∧ Dw β w w' := by
  obtain ⟨hi1, hi2⟩ := hi
  go_enter Try.func72, Try.ntmps72
  go_wp2_with fail
  refine (below_any 8 (by omega) β a c bs _ hr).mono ?_
  rintro e w1 ⟨x, rfl, hx, hr1, hd1⟩
  rcases Nat.lt_or_ge 1 x with h1 | h1
  · have n0 : ¬ x = 0 := by omega
    have n1 : ¬ x = 1 := by omega
    have n0i : ¬ (x : Int) = 0 := by omega
    have n1i : ¬ (x : Int) = 1 := by omega
    by_cases hneg : h < 0
    · go_wp2
      go_ret
      exact ⟨0, rfl, ⟨by omega, by omega⟩, hr1, hd1⟩
    · by_cases htop : h = 9223372036854775807
      · subst htop
        have hu : ¬ IntKind.u64.wrap (wrap64 9223372036854775808) = 0 := by rw [IntKind.wrap_u64]; unfold wrap64; decide
        go_wp2_with fail
        refine (word_any β a c bs _ hr1).mono ?_
        rintro e w2 ⟨y, rfl, hy, hr2, hd2⟩
        go_wp2
        go_ret
        exact ⟨_, rfl, wrap64_in _, hr2, hd1.trans hd2⟩
      · have hle : h ≤ 9223372036854775806 := by omega
        have h0 : 0 ≤ h := by omega
        have hz : h + 1 ≠ 0 := by omega
        clear htop hneg
        go_wp2_with fail
        refine (word_any β a c bs _ hr1).mono ?_
        rintro e w2 ⟨y, rfl, hy, hr2, hd2⟩
        go_wp2
        go_ret
        exact ⟨_, rfl, wrap64_in _, hr2, hd1.trans hd2⟩
  · obtain rfl | rfl : x = 0 ∨ x = 1 := by omega
    · go_wp2
      go_ret
      exact ⟨0, rfl, ⟨by omega, by omega⟩, hr1, hd1⟩
    · go_wp2
      go_ret
      exact ⟨h, rfl, ⟨by omega, by omega⟩, hr1, hd1⟩

theorem off0_any (h : Int) (hi : in64 h) (β : Nat) (a : Option Addr) (c : Nat) (bs : List Nat) (w : World) (hr : Rr w β a c bs) :
    Calls Try.prog 47 #[.pointer (some ⟨β, 0, none⟩), .int .i64 0, .int .i64 h] w fun e w' => ∃ x : Int, e = .returned (.int .i64 x) ∧ in64 x ∧ Rr w' β a c bs ∧ Dw β w w' := by
  have HI := kide hi
  clear hi
  go_enter Try.func47, Try.ntmps47
  go_wp2_with fail
  refine (once_any 24 (by omega) (by omega) β a c bs _ hr).mono ?_
  rintro e w1 ⟨x, rfl, hr1, hd1⟩
  cases x with
  | true =>
    have hβ : β < w1.heap.size := by obtain ⟨p, _, hk, _⟩ := hr1; exact hk.lt
    go_wp2_with fail
    refine (below_any 4 (by omega) β a c bs _ (hr1.later ((Below.refl _ _).alloc (Nat.le_refl _) _))).mono ?_
    rintro e w2 ⟨y, rfl, hy, hr2, hd2⟩
    have hrow := hd2.row hβ
    have hy4 : y < 4 := by omega
    obtain ⟨z, hz, hcell⟩ : ∃ z : Int, in64 z ∧ w2.cell? ⟨w1.heap.size, y, none⟩ = some (.int .i64 z) := by
      rw [cell_of_row w2 _ y _ _ _ hrow]
      match y, hy4 with
      | 0, _ => exact ⟨_, ⟨by omega, by omega⟩, rfl⟩
      | 1, _ => exact ⟨_, wrap64_in _, rfl⟩
      | 2, _ => exact ⟨-9223372036854775808, ⟨by omega, by omega⟩, rfl⟩
      | 3, _ => exact ⟨9223372036854775807, ⟨by omega, by omega⟩, rfl⟩
    have HZ := kide hz
    have hd := hd1.trans ((Dw.of ((Below.refl _ _).alloc (Nat.le_refl _) _)).trans hd2)
    clear hrow hd2 hz
    go_wp2
    go_ret
    exact ⟨z, rfl, HZ.out, hr2, hd⟩
  | false =>
    go_wp2_with fail
    refine (near0_any h HI.out β a c bs _ hr1).mono ?_
    rintro e w2 ⟨y, rfl, hy, hr2, hd2⟩
    have HY := kide hy
    clear hy
    go_wp2
    go_ret
    exact ⟨y, rfl, HY.out, hr2, hd1.trans hd2⟩

set_option maxHeartbeats 1000000 in
theorem nearm_any (h : Nat) (hi : h ≤ 1000) (β : Nat) (a : Option Addr) (c : Nat) (bs : List Nat) (w : World) (hr : Rr w β a c bs) :
    Calls Try.prog 72 #[.pointer (some ⟨β, 0, none⟩), .int .i64 (-1), .int .i64 (h : Int)] w fun e w' => ∃ x : Int, e = .returned (.int .i64 x) ∧ in64 x ∧ Rr w' β a c bs ∧ Dw β w w' := by
  go_enter Try.func72, Try.ntmps72
  go_wp2_with fail
  refine (below_any 8 (by omega) β a c bs _ hr).mono ?_
  rintro e w1 ⟨x, rfl, hx, hr1, hd1⟩
  rcases Nat.lt_or_ge 1 x with h1 | h1
  · have n0 : ¬ x = 0 := by omega
    have n1 : ¬ x = 1 := by omega
    have n0i : ¬ (x : Int) = 0 := by omega
    have n1i : ¬ (x : Int) = 1 := by omega
    have n2i : ¬ (h : Int) < -1 := by omega
    have hz : (h : Int) + 1 + 1 ≠ 0 := by omega
    go_wp2_with fail
    refine (word_any β a c bs _ hr1).mono ?_
    rintro e w2 ⟨y, rfl, hy, hr2, hd2⟩
    go_wp2
    go_ret
    exact ⟨_, rfl, wrap64_in _, hr2, hd1.trans hd2⟩
  · obtain rfl | rfl : x = 0 ∨ x = 1 := by omega
    · go_wp2
      go_ret
      exact ⟨-1, rfl, ⟨by omega, by omega⟩, hr1, hd1⟩
    · go_wp2
      go_ret
      exact ⟨h, rfl, ⟨by omega, by omega⟩, hr1, hd1⟩

theorem offm_any (h : Nat) (hi : h ≤ 1000) (β : Nat) (a : Option Addr) (c : Nat) (bs : List Nat) (w : World) (hr : Rr w β a c bs) :
    Calls Try.prog 47 #[.pointer (some ⟨β, 0, none⟩), .int .i64 (-1), .int .i64 (h : Int)] w fun e w' => ∃ x : Int, e = .returned (.int .i64 x) ∧ in64 x ∧ Rr w' β a c bs ∧ Dw β w w' := by
  have HI := kide hi
  clear hi
  go_enter Try.func47, Try.ntmps47
  go_wp2_with fail
  refine (once_any 24 (by omega) (by omega) β a c bs _ hr).mono ?_
  rintro e w1 ⟨x, rfl, hr1, hd1⟩
  cases x with
  | true =>
    have hβ : β < w1.heap.size := by obtain ⟨p, _, hk, _⟩ := hr1; exact hk.lt
    go_wp2_with fail
    refine (below_any 4 (by omega) β a c bs _ (hr1.later ((Below.refl _ _).alloc (Nat.le_refl _) _))).mono ?_
    rintro e w2 ⟨y, rfl, hy, hr2, hd2⟩
    have hrow := hd2.row hβ
    have hy4 : y < 4 := by omega
    obtain ⟨z, hz, hcell⟩ : ∃ z : Int, in64 z ∧ w2.cell? ⟨w1.heap.size, y, none⟩ = some (.int .i64 z) := by
      rw [cell_of_row w2 _ y _ _ _ hrow]
      match y, hy4 with
      | 0, _ => exact ⟨_, ⟨by omega, by omega⟩, rfl⟩
      | 1, _ => exact ⟨_, wrap64_in _, rfl⟩
      | 2, _ => exact ⟨-9223372036854775808, ⟨by omega, by omega⟩, rfl⟩
      | 3, _ => exact ⟨9223372036854775807, ⟨by omega, by omega⟩, rfl⟩
    have HZ := kide hz
    have hd := hd1.trans ((Dw.of ((Below.refl _ _).alloc (Nat.le_refl _) _)).trans hd2)
    clear hrow hd2 hz
    go_wp2
    go_ret
    exact ⟨z, rfl, HZ.out, hr2, hd⟩
  | false =>
    go_wp2_with fail
    refine (nearm_any h HI.out β a c bs _ hr1).mono ?_
    rintro e w2 ⟨y, rfl, hy, hr2, hd2⟩
    have HY := kide hy
    clear hy
    go_wp2
    go_ret
    exact ⟨y, rfl, HY.out, hr2, hd1.trans hd2⟩

end Go.Proofs.Ythoiajpbpoglfaa

/- What math/bits.OnesCount64 answers: how many bits of a word are 1. -/
namespace Go.Proofs.Ythoiajpbpoglfaa
set_option linter.unusedVariables false
set_option linter.unusedSimpArgs false
open Go.RowKit

/-- f 0 + .. + f (k - 1). -/
def cnt (f : Nat → Nat) : Nat → Nat
  | 0 => 0
  | k + 1 => cnt f k + f k

theorem cnt_add (f : Nat → Nat) (m k : Nat) : cnt f (m + k) = cnt f m + cnt (fun i => f (m + i)) k := by
  induction k with
  | zero => simp [cnt]
  | succ k ih => rw [← Nat.add_assoc, cnt, ih, cnt]; omega
theorem cnt_congr (f g : Nat → Nat) (k : Nat) (h : ∀ i, i < k → f i = g i) : cnt f k = cnt g k := by
  induction k with
  | zero => rfl
  | succ k ih => rw [cnt, cnt, ih (fun i hi => h i (by omega)), h k (by omega)]
theorem cnt_le (f : Nat → Nat) (k : Nat) (h : ∀ i, f i ≤ 1) : cnt f k ≤ k := by
  induction k with
  | zero => simp [cnt]
  | succ k ih => rw [cnt]; have := h k; omega

/-- How many of the lowest k bits of x are 1. -/
def pcnt (x k : Nat) : Nat := cnt (fun i => (x.testBit i).toNat) k

theorem bit_split (a b i : Nat) (ha : a < 256) : (a + 256 * b).testBit i = if i < 8 then a.testBit i else b.testBit (i - 8) := by
  rw [Nat.add_comm]
  exact Nat.testBit_two_pow_mul_add b (i := 8) ha i

theorem and_split (a b m n : Nat) (ha : a < 256) (hm : m < 256) : (a + 256 * b) &&& (m + 256 * n) = (a &&& m) + 256 * (b &&& n) := by
  refine Nat.eq_of_testBit_eq fun i => ?_
  rw [Nat.testBit_and, bit_split a b i ha, bit_split m n i hm, bit_split _ _ i (Nat.lt_of_le_of_lt Nat.and_le_left ha)]
  split
  · rw [Nat.testBit_and]
  · rw [Nat.testBit_and]

theorem pcnt_split (a b k : Nat) (ha : a < 256) : pcnt (a + 256 * b) (8 + k) = pcnt a 8 + pcnt b k := by
  unfold pcnt
  rw [cnt_add]
  congr 1
  · exact cnt_congr _ _ _ fun i hi => by rw [bit_split a b i ha, if_pos hi]
  · exact cnt_congr _ _ _ fun i _ => by rw [bit_split a b _ ha, if_neg (by omega), show 8 + i - 8 = i by omega]

def val8 : List Nat → Nat
  | [] => 0
  | b :: bs => b + 256 * val8 bs

def s1 (b : Nat) : Nat := (b / 2 &&& 85) + (b &&& 85)
def s2 (b : Nat) : Nat := (b / 4 &&& 51) + (b &&& 51)
def s3 (b : Nat) : Nat := (b + b / 16) &&& 15

theorem s1_low : ∀ (b : Fin 256) (e : Fin 2), (b.val / 2 + 128 * e.val) &&& 85 = b.val / 2 &&& 85 := by decide +kernel
theorem s2_low : ∀ (b : Fin 256) (e : Fin 4), (b.val / 4 + 64 * e.val) &&& 51 = b.val / 4 &&& 51 := by decide +kernel
theorem s3_low : ∀ (b : Fin 69) (e : Fin 5), (b.val + b.val / 16 + 16 * e.val) &&& 15 = (b.val + b.val / 16) &&& 15 := by decide +kernel
theorem s1_lt : ∀ b : Fin 256, s1 b.val < 256 := by decide +kernel
theorem s2_ok : ∀ b : Fin 256, s2 (s1 b.val) < 69 ∧ s2 (s1 b.val) % 16 ≤ 4 := by decide +kernel
theorem s3_ok : ∀ b : Fin 256, s3 (s2 (s1 b.val)) = pcnt b.val 8 ∧ s3 (s2 (s1 b.val)) ≤ 8 := by decide +kernel

theorem step1 (bs : List Nat) (h : ∀ b ∈ bs, b < 256) : (val8 bs / 2 &&& val8 (bs.map fun _ => 85)) + (val8 bs &&& val8 (bs.map fun _ => 85)) = val8 (bs.map s1) := by
  induction bs with
  | nil => rfl
  | cons b bs ih =>
    have hb := h b (by simp)
    have ih' := ih fun x hx => h x (by simp [hx])
    simp only [val8, List.map_cons]
    generalize val8 (bs.map fun _ => 85) = M at *
    generalize val8 bs = B at *
    rw [show (b + 256 * B) / 2 = (b / 2 + 128 * (B % 2)) + 256 * (B / 2) by omega, and_split _ _ _ _ (by omega) (by omega), and_split _ _ _ _ hb (by omega), s1_low ⟨b, hb⟩ ⟨B % 2, by omega⟩, ← ih']
    simp only [s1]
    omega

theorem step2 (bs : List Nat) (h : ∀ b ∈ bs, b < 256) : (val8 bs / 4 &&& val8 (bs.map fun _ => 51)) + (val8 bs &&& val8 (bs.map fun _ => 51)) = val8 (bs.map s2) := by
  induction bs with
  | nil => rfl
  | cons b bs ih =>
    have hb := h b (by simp)
    have ih' := ih fun x hx => h x (by simp [hx])
    simp only [val8, List.map_cons]
    generalize val8 (bs.map fun _ => 51) = M at *
    generalize val8 bs = B at *
    rw [show (b + 256 * B) / 4 = (b / 4 + 64 * (B % 4)) + 256 * (B / 4) by omega, and_split _ _ _ _ (by omega) (by omega), and_split _ _ _ _ hb (by omega), s2_low ⟨b, hb⟩ ⟨B % 4, by omega⟩, ← ih']
    simp only [s2]
    omega

theorem low4 (bs : List Nat) (h : ∀ b ∈ bs, b < 69 ∧ b % 16 ≤ 4) : val8 bs % 16 ≤ 4 := by
  cases bs with
  | nil => simp [val8]
  | cons b bs => have := (h b (by simp)).2; simp only [val8]; omega

theorem step3 (bs : List Nat) (h : ∀ b ∈ bs, b < 69 ∧ b % 16 ≤ 4) : (val8 bs / 16 + val8 bs) &&& val8 (bs.map fun _ => 15) = val8 (bs.map s3) := by
  induction bs with
  | nil => rfl
  | cons b bs ih =>
    have hb := h b (by simp)
    have h' : ∀ b ∈ bs, b < 69 ∧ b % 16 ≤ 4 := fun x hx => h x (by simp [hx])
    have ih' := ih h'
    have hl := low4 bs h'
    simp only [val8, List.map_cons]
    generalize val8 (bs.map fun _ => 15) = M at *
    generalize val8 bs = B at *
    rw [show (b + 256 * B) / 16 + (b + 256 * B) = (b + b / 16 + 16 * (B % 16)) + 256 * (B / 16 + B) by omega, and_split _ _ _ _ (by omega) (by omega), s3_low ⟨b, hb.1⟩ ⟨B % 16, by omega⟩, ih']
    simp only [s3]

def bytesOf (x : Nat) : List Nat := [x % 256, x / 256 % 256, x / 65536 % 256, x / 16777216 % 256, x / 4294967296 % 256, x / 1099511627776 % 256, x / 281474976710656 % 256, x / 72057594037927936]
theorem bytesOf_val (x : Nat) : val8 (bytesOf x) = x := by simp only [bytesOf, val8]; omega
theorem bytesOf_lt (x : Nat) (h : x < 18446744073709551616) : ∀ b ∈ bytesOf x, b < 256 := by
  intro b hb
  simp only [bytesOf, List.mem_cons, List.not_mem_nil, or_false] at hb
  omega

theorem pop_list (bs : List Nat) (h : ∀ b ∈ bs, b < 256) : pcnt (val8 bs) (8 * bs.length) = ((bs.map fun b => s3 (s2 (s1 b)))).sum := by
  induction bs with
  | nil => rfl
  | cons b bs ih =>
    have hb := h b (by simp)
    rw [val8, List.length_cons, show 8 * (bs.length + 1) = 8 + 8 * bs.length by omega, pcnt_split _ _ _ hb, ih fun x hx => h x (by simp [hx])]
    simp only [List.map_cons, List.sum_cons]
    rw [(s3_ok ⟨b, hb⟩).1]

/-- The reckoning of OnesCount64, without a wrap. -/
def popN (x : Nat) : Nat :=
  let y1 := (x / 2 &&& 6148914691236517205) + (x &&& 6148914691236517205)
  let y2 := (y1 / 4 &&& 3689348814741910323) + (y1 &&& 3689348814741910323)
  let y3 := (y2 / 16 + y2) &&& 1085102592571150095
  let y4 := y3 + y3 / 256
  let y5 := y4 + y4 / 65536
  let y6 := y5 + y5 / 4294967296
  y6 % 128

theorem d8 (a b : Nat) (ha : a < 256) : (a + 256 * b) / 256 = b := by omega
theorem d16 (a b c : Nat) (ha : a < 256) (hb : b < 256) : (a + 256 * (b + 256 * c)) / 65536 = c := by omega
theorem d32 (a b c d e : Nat) (ha : a < 256) (hb : b < 256) (hc : c < 256) (hd : d < 256) : (a + 256 * (b + 256 * (c + 256 * (d + 256 * e)))) / 4294967296 = e := by omega

theorem fold8 (t0 t1 t2 t3 t4 t5 t6 t7 Y1 Y2 Y3 Y4 Y5 Y6 Y7 y : Nat) (h0 : t0 ≤ 8) (h1 : t1 ≤ 8) (h2 : t2 ≤ 8) (h3 : t3 ≤ 8) (h4 : t4 ≤ 8) (h5 : t5 ≤ 8) (h6 : t6 ≤ 8) (h7 : t7 ≤ 8)
    (hy : y = t0 + 256 * Y1) (e1 : Y1 = t1 + 256 * Y2) (e2 : Y2 = t2 + 256 * Y3) (e3 : Y3 = t3 + 256 * Y4) (e4 : Y4 = t4 + 256 * Y5) (e5 : Y5 = t5 + 256 * Y6) (e6 : Y6 = t6 + 256 * Y7) (e7 : Y7 = t7 + 256 * 0) :
    (y + y / 256 + (y + y / 256) / 65536 + (y + y / 256 + (y + y / 256) / 65536) / 4294967296) % 128 = t0 + (t1 + (t2 + (t3 + (t4 + (t5 + (t6 + (t7 + 0))))))) := by
  have b1 : t0 < 256 := by omega
  have b2 : t0 + t1 < 256 := by omega
  have b3 : t1 + t2 < 256 := by omega
  have b4 : t0 + t1 + t2 + t3 < 256 := by omega
  have b5 : t1 + t2 + t3 + t4 < 256 := by omega
  have b6 : t2 + t3 + t4 + t5 < 256 := by omega
  have b7 : t3 + t4 + t5 + t6 < 256 := by omega
  have b8 : t0 + (t1 + (t2 + (t3 + (t4 + (t5 + (t6 + (t7 + 0))))))) < 128 := by omega
  have a2 : y + Y1 = (t0 + t1) + 256 * ((t1 + t2) + 256 * (Y2 + Y3)) := by clear h0 h1 h2 h3 h4 h5 h6 h7 b1 b2 b3 b4 b5 b6 b7 b8 e4 e5 e6 e7; omega
  have a4 : y + Y1 + (Y2 + Y3) = (t0 + t1 + t2 + t3) + 256 * ((t1 + t2 + t3 + t4) + 256 * ((t2 + t3 + t4 + t5) + 256 * ((t3 + t4 + t5 + t6) + 256 * (Y4 + Y5 + Y6 + Y7)))) := by
    clear h0 h1 h2 h3 h4 h5 h6 h7 b1 b2 b3 b4 b5 b6 b7 b8 a2 e7
    have g3 : Y2 + Y3 = (t2 + t3) + 256 * (Y3 + Y4) := by omega
    have g4 : Y3 + Y4 = (t3 + t4) + 256 * (Y4 + Y5) := by omega
    have g5 : Y4 + Y5 = (t4 + t5) + 256 * (Y5 + Y6) := by omega
    have g6 : Y5 + Y6 = (t5 + t6) + 256 * (Y6 + Y7) := by omega
    have g1 : y + Y1 = (t0 + t1) + 256 * (Y1 + Y2) := by omega
    have g2 : Y1 + Y2 = (t1 + t2) + 256 * (Y2 + Y3) := by omega
    clear hy e1 e2 e3 e4 e5 e6
    omega
  have a6 : y + Y1 + (Y2 + Y3) + (Y4 + Y5 + Y6 + Y7) = (t0 + (t1 + (t2 + (t3 + (t4 + (t5 + (t6 + (t7 + 0)))))))) + 128 * (2 * (Y1 + Y2 + Y3 + Y4 + Y5 + Y6 + Y7)) := by
    clear h0 h1 h2 h3 h4 h5 h6 h7 b1 b2 b3 b4 b5 b6 b7 b8 a2 a4
    omega
  rw [show y / 256 = Y1 from hy ▸ d8 _ _ b1, show (y + Y1) / 65536 = Y2 + Y3 from a2 ▸ d16 _ _ _ b2 b3, show (y + Y1 + (Y2 + Y3)) / 4294967296 = Y4 + Y5 + Y6 + Y7 from a4 ▸ d32 _ _ _ _ _ b4 b5 b6 b7, a6, Nat.add_mul_mod_self_left, Nat.mod_eq_of_lt b8]

end Go.Proofs.Ythoiajpbpoglfaa

/- How OnesCount64's reckoning comes to the number of ones. -/
namespace Go.Proofs.Ythoiajpbpoglfaa
set_option linter.unusedVariables false
set_option linter.unusedSimpArgs false
open Go.RowKit

set_option maxHeartbeats 1000000 in
set_option maxRecDepth 100000 in
theorem pop_ok (x : Nat) (hx : x < 18446744073709551616) :
    ∃ y1 y2 y3 : Nat, y1 = (x / 2 &&& 6148914691236517205) + (x &&& 6148914691236517205) ∧ y1 < 18446744073709551616 ∧ y2 = (y1 / 4 &&& 3689348814741910323) + (y1 &&& 3689348814741910323) ∧ y2 < 18446744073709551616 ∧ y2 / 16 + y2 < 18446744073709551616 ∧
      y3 = ((y2 / 16 + y2) &&& 1085102592571150095) ∧ y3 ≤ 578721382704613384 ∧ (y3 + y3 / 256 + (y3 + y3 / 256) / 65536 + (y3 + y3 / 256 + (y3 + y3 / 256) / 65536) / 4294967296) % 128 = pcnt x 64 := by
  have hb := bytesOf_lt x hx
  have hv := bytesOf_val x
  have e1 := step1 (bytesOf x) hb
  have hb1 : ∀ b ∈ (bytesOf x).map s1, b < 256 := by
    intro b h
    obtain ⟨c, hc, rfl⟩ := List.mem_map.1 h
    exact s1_lt ⟨c, hb c hc⟩
  have e2 := step2 ((bytesOf x).map s1) hb1
  have hb2 : ∀ b ∈ ((bytesOf x).map s1).map s2, b < 69 ∧ b % 16 ≤ 4 := by
    intro b h
    obtain ⟨c, hc, rfl⟩ := List.mem_map.1 h
    obtain ⟨d, hd, rfl⟩ := List.mem_map.1 hc
    exact s2_ok ⟨d, hb d hd⟩
  have e3 := step3 (((bytesOf x).map s1).map s2) hb2
  have ep := pop_list (bytesOf x) hb
  have m1 : val8 ((bytesOf x).map fun _ => 85) = 6148914691236517205 := by simp [bytesOf, val8]
  have m2 : val8 (((bytesOf x).map s1).map fun _ => 51) = 3689348814741910323 := by simp [bytesOf, val8]
  have m3 : val8 ((((bytesOf x).map s1).map s2).map fun _ => 15) = 1085102592571150095 := by simp [bytesOf, val8]
  rw [m1, hv] at e1
  rw [m2] at e2
  rw [m3] at e3
  rw [hv] at ep
  have hl : (bytesOf x).length = 8 := rfl
  rw [hl] at ep
  have hb3 : ∀ b ∈ bytesOf x, s3 (s2 (s1 b)) ≤ 8 := fun b h => (s3_ok ⟨b, hb b h⟩).2
  have k1 : val8 ((bytesOf x).map s1) < 18446744073709551616 := by
    have := hb1
    simp only [bytesOf, List.map_cons, List.map_nil, val8, List.mem_cons, List.not_mem_nil, or_false, forall_eq_or_imp, forall_eq] at this ⊢
    omega
  have k2 : val8 (((bytesOf x).map s1).map s2) ≤ 68 * 72340172838076673 := by
    have := hb2
    simp only [bytesOf, List.map_cons, List.map_nil, val8, List.mem_cons, List.not_mem_nil, or_false, forall_eq_or_imp, forall_eq] at this ⊢
    omega
  have k3 : val8 ((((bytesOf x).map s1).map s2).map s3) ≤ 578721382704613384 ∧ (val8 ((((bytesOf x).map s1).map s2).map s3) + val8 ((((bytesOf x).map s1).map s2).map s3) / 256 + (val8 ((((bytesOf x).map s1).map s2).map s3) + val8 ((((bytesOf x).map s1).map s2).map s3) / 256) / 65536 + (val8 ((((bytesOf x).map s1).map s2).map s3) + val8 ((((bytesOf x).map s1).map s2).map s3) / 256 + (val8 ((((bytesOf x).map s1).map s2).map s3) + val8 ((((bytesOf x).map s1).map s2).map s3) / 256) / 65536) / 4294967296) % 128 = ((bytesOf x).map fun b => s3 (s2 (s1 b))).sum := by
    have h := hb3
    simp only [bytesOf, List.mem_cons, List.not_mem_nil, or_false, forall_eq_or_imp, forall_eq] at h
    obtain ⟨t0, t1, t2, t3, t4, t5, t6, t7⟩ := h
    simp only [bytesOf, List.map_cons, List.map_nil, List.sum_cons, List.sum_nil]
    generalize s3 (s2 (s1 (x % 256))) = q0 at *
    generalize s3 (s2 (s1 (x / 256 % 256))) = q1 at *
    generalize s3 (s2 (s1 (x / 65536 % 256))) = q2 at *
    generalize s3 (s2 (s1 (x / 16777216 % 256))) = q3 at *
    generalize s3 (s2 (s1 (x / 4294967296 % 256))) = q4 at *
    generalize s3 (s2 (s1 (x / 1099511627776 % 256))) = q5 at *
    generalize s3 (s2 (s1 (x / 281474976710656 % 256))) = q6 at *
    generalize s3 (s2 (s1 (x / 72057594037927936))) = q7 at *
    clear e1 e2 e3 ep hb hb1 hb2 hb3 m1 m2 m3 hv k1 k2 hl
    refine ⟨by simp only [val8]; omega, fold8 q0 q1 q2 q3 q4 q5 q6 q7 _ _ _ _ _ _ _ _ t0 t1 t2 t3 t4 t5 t6 t7 rfl rfl rfl rfl rfl rfl rfl rfl⟩
  refine ⟨val8 ((bytesOf x).map s1), val8 (((bytesOf x).map s1).map s2), val8 ((((bytesOf x).map s1).map s2).map s3), e1.symm, k1, e2.symm, by omega, by omega, e3.symm, k3.1, ?_⟩
  rw [k3.2, ep]

end Go.Proofs.Ythoiajpbpoglfaa

/- What math/bits.OnesCount64 and the two CountOnes answer. -/
namespace Go.Proofs.Ythoiajpbpoglfaa
set_option linter.unusedVariables false
set_option linter.unusedSimpArgs false
open Go.RowKit

def z1 (x : Int) : Int := IntKind.u64.wrap (bits BinOp.and IntKind.u64 (x / 2) 6148914691236517205 + bits BinOp.and IntKind.u64 x 6148914691236517205)
def z2 (x : Int) : Int := IntKind.u64.wrap (bits BinOp.and IntKind.u64 (x / 4) 3689348814741910323 + bits BinOp.and IntKind.u64 x 3689348814741910323)
def z3 (x : Int) : Int := bits BinOp.and IntKind.u64 (IntKind.u64.wrap (x / 16 + x)) 1085102592571150095
def z4 (x : Int) : Int := IntKind.u64.wrap (x + x / 256)
def z5 (x : Int) : Int := IntKind.u64.wrap (x + x / 65536)
def z6 (x : Int) : Int := IntKind.u64.wrap (x + x / 4294967296)

theorem and_i64 (a b : Nat) (ha : a < 9223372036854775808) (hb : b < 9223372036854775808) : bits BinOp.and IntKind.i64 (a : Int) (b : Int) = ((a &&& b : Nat) : Int) := by
  have hx : a &&& b < 2 ^ 63 := Nat.and_lt_two_pow _ (by omega)
  have h1 : (BitVec.ofInt 64 (a : Int)).toNat = a := by
    rw [BitVec.ofInt_natCast, BitVec.toNat_ofNat]; exact Nat.mod_eq_of_lt (by omega)
  have h2 : (BitVec.ofInt 64 (b : Int)).toNat = b := by
    rw [BitVec.ofInt_natCast, BitVec.toNat_ofNat]; exact Nat.mod_eq_of_lt (by omega)
  show IntKind.i64.wrap ((BitVec.ofInt 64 (a : Int) &&& BitVec.ofInt 64 (b : Int)).toNat : Int) = _
  rw [BitVec.toNat_and, h1, h2, IntKind.wrap_i64]
  omega

theorem wrapN (n : Nat) (h : n < 18446744073709551616) : IntKind.u64.wrap (n : Int) = (n : Int) := by rw [IntKind.wrap_u64]; omega

set_option maxHeartbeats 1000000 in
set_option maxRecDepth 100000 in
theorem ones64_int (x : Int) (w : World) (h0 : 0 ≤ x) (h1 : x ≤ 18446744073709551615) :
    Calls Try.prog 53 #[.int .u64 x] w fun e w' => e = .returned (.int .i64 (bits BinOp.and IntKind.i64 (wrap64 (z6 (z5 (z4 (z3 (z2 (z1 x))))))) 127)) ∧ w' = w := by
  go_enter Try.func53, Try.ntmps53
  go_wp2
  go_ret
  exact ⟨rfl, rfl⟩

set_option maxRecDepth 100000 in
theorem popZ (x : Nat) (hx : x < 18446744073709551616) : bits BinOp.and IntKind.i64 (wrap64 (z6 (z5 (z4 (z3 (z2 (z1 (x : Int)))))))) 127 = ((pcnt x 64 : Nat) : Int) := by
  obtain ⟨y1, y2, y3, e1, b1, e2, b2, b2', e3, b3, ep⟩ := pop_ok x hx
  have k1 : z1 (x : Int) = (y1 : Int) := by
    unfold z1
    rw [show ((x : Int) / 2) = ((x / 2 : Nat) : Int) by omega, show (6148914691236517205 : Int) = ((6148914691236517205 : Nat) : Int) by rfl, bits_and_u64_nat _ _ (by omega) (by decide), bits_and_u64_nat _ _ hx (by decide), ← Int.natCast_add, ← e1, wrapN _ b1]
  have k2 : z2 (y1 : Int) = (y2 : Int) := by
    unfold z2
    rw [show ((y1 : Int) / 4) = ((y1 / 4 : Nat) : Int) by omega, show (3689348814741910323 : Int) = ((3689348814741910323 : Nat) : Int) by rfl, bits_and_u64_nat _ _ (by omega) (by decide), bits_and_u64_nat _ _ b1 (by decide), ← Int.natCast_add, ← e2, wrapN _ b2]
  have k3 : z3 (y2 : Int) = (y3 : Int) := by
    unfold z3
    rw [show ((y2 : Int) / 16 + (y2 : Int)) = ((y2 / 16 + y2 : Nat) : Int) by omega, wrapN _ b2', show (1085102592571150095 : Int) = ((1085102592571150095 : Nat) : Int) by rfl, bits_and_u64_nat _ _ b2' (by decide), ← e3]
  rw [k1, k2, k3]
  clear k1 k2 k3 e1 e2 e3 b1 b2 b2'
  have k4 : z4 (y3 : Int) = ((y3 + y3 / 256 : Nat) : Int) := by
    unfold z4
    rw [show ((y3 : Int) + (y3 : Int) / 256) = ((y3 + y3 / 256 : Nat) : Int) by omega, wrapN _ (by omega)]
  rw [k4]
  have c4 : y3 + y3 / 256 ≤ 600000000000000000 := by omega
  generalize y3 + y3 / 256 = y4 at *
  clear k4 b3
  have k5 : z5 (y4 : Int) = ((y4 + y4 / 65536 : Nat) : Int) := by
    unfold z5
    rw [show ((y4 : Int) + (y4 : Int) / 65536) = ((y4 + y4 / 65536 : Nat) : Int) by omega, wrapN _ (by omega)]
  rw [k5]
  have c5 : y4 + y4 / 65536 ≤ 700000000000000000 := by omega
  generalize y4 + y4 / 65536 = y5 at *
  clear k5 c4
  have k6 : z6 (y5 : Int) = ((y5 + y5 / 4294967296 : Nat) : Int) := by
    unfold z6
    rw [show ((y5 : Int) + (y5 : Int) / 4294967296) = ((y5 + y5 / 4294967296 : Nat) : Int) by omega, wrapN _ (by omega)]
  rw [k6]
  have c6 : y5 + y5 / 4294967296 ≤ 800000000000000000 := by omega
  generalize y5 + y5 / 4294967296 = y6 at *
  rw [w64 _ (by omega), show (127 : Int) = ((127 : Nat) : Int) by rfl, and_i64 _ _ (by omega) (by decide), show (127 : Nat) = 2 ^ 7 - 1 by decide, Nat.and_two_pow_sub_one_eq_mod]
  rw [show (2 ^ 7 : Nat) = 128 by decide, ep]

theorem ones64_any (x : Nat) (w : World) (hx : x < 18446744073709551616) :
    Calls Try.prog 53 #[.int .u64 x] w fun e w' => e = .returned (.int .i64 ((pcnt x 64 : Nat) : Int)) ∧ w' = w := by
  have h := ones64_int x w (by omega) (by omega)
  rwa [popZ x hx] at h

theorem pcnt_le (x : Nat) : pcnt x 64 ≤ 64 := cnt_le _ _ fun i => by cases x.testBit i <;> decide

/-- How many of the first k bits of a row are 1. -/
def ones (xs : List Nat) (k : Nat) : Nat := cnt (fun i => (tb xs i).toNat) k
theorem ones_le (xs : List Nat) (k : Nat) : ones xs k ≤ k := cnt_le _ _ fun i => by cases tb xs i <;> decide

theorem ones_word (xs : List Nat) (k : Nat) (hk : k < xs.length) : ones xs (64 * (k + 1)) = ones xs (64 * k) + pcnt (xs.getD k 0) 64 := by
  unfold ones pcnt
  rw [show 64 * (k + 1) = 64 * k + 64 by omega, cnt_add]
  congr 1
  refine cnt_congr _ _ _ fun i hi => ?_
  unfold tb
  rw [show (64 * k + i) / 64 = k by omega, show (64 * k + i) % 64 = i by omega]

theorem ones_right {V : Nat} {xs : List Nat} (hok : rightB V xs = true) : ones xs (64 * xs.length) = ones xs V := by
  have h := right_W hok
  have e : 64 * xs.length = V + (64 * xs.length - V) := by omega
  unfold ones
  rw [e, cnt_add]
  have : cnt (fun i => (tb xs (V + i)).toNat) (64 * xs.length - V) = 0 := by
    have hz : ∀ k, cnt (fun i => (tb xs (V + i)).toNat) k = 0 := by
      intro k
      induction k with
      | zero => rfl
      | succ k ih => rw [cnt, ih, tb_out hok (V + k) (by omega)]; rfl
    exact hz _
  omega

def onesI (W : Int) (xs : List Nat) : Int := if rightB W xs = true then ((ones xs W.toNat : Nat) : Int) else -1


theorem implOnes_any (W : Int) (a : Option Addr) (c : Nat) (xs : List Nat) (w : World) (hr : Rd w a xs) :
    Calls Try.prog 20 #[.agg #[.int .i64 W, .slice a xs.length c]] w fun e w' => e = .returned (.int .i64 (onesI W xs)) ∧ Below w.heap.size w w' := by
  have hr' := hr.later ((Below.refl _ w).alloc (Nat.le_refl _) (Obj.cells #[Value.int IntKind.i64 W, Value.slice a xs.length c] 48))
  by_cases hok : rightB W xs = true
  · rw [onesI, if_pos hok]
    obtain ⟨hW1, hW2, hWl⟩ := right_W hok
    obtain ⟨V, rfl⟩ := Int.eq_ofNat_of_zero_le (show 0 ≤ W by omega)
    rw [Int.toNat_natCast]
    have hxx := hr.2.1
    have hl64 : xs.length ≤ 64 := by omega
    have HE : Hid (ones xs (64 * xs.length) = ones xs V) := ones_right hok
    clear hWl
    go_enter Try.func20, Try.ntmps20
    go_wp2_with fail
    refine (implOk_any _ _ _ _ _ hr').mono ?_
    rintro e w1 ⟨rfl, hb1⟩
    have s1 := (St.start w _).next hb1
    obtain ⟨c0, c1⟩ := s1.two
    have r1 := s1.rd hr
    clear hb1 hr'
    go_wp2_with fail
    go_loop [3, 12] (fun q i => ∃ k : Nat, k ≤ xs.length ∧ i = .int .i64 k ∧ q = .int .i64 ((ones xs (64 * k) : Nat) : Int)) (fun _ i => xs.length - (intOf i).toNat)
    case atStart => exact ⟨0, Nat.zero_le _, rfl, rfl⟩
    case round =>
      obtain ⟨k, hk, rfl, rfl⟩ := hrel
      have hol := ones_le xs (64 * k)
      by_cases hlt : k < xs.length
      · obtain ⟨-, -, hn | ⟨b, o, rfl, hc⟩⟩ := r1
        · subst hn; simp at hlt
        have hcell := hc k hlt
        have hy := getD_lt hxx k
        have hpl := pcnt_le (xs.getD k 0)
        have HS : Hid (ones xs (64 * (k + 1)) = ones xs (64 * k) + pcnt (xs.getD k 0) 64) := ones_word xs k hlt
        have hki : (k : Int) < (xs.length : Int) := by omega
        clear hc
        generalize xs.getD k 0 = y at *
        generalize ones xs (64 * k) = z at *
        go_wp2_with (go_at_call 53; refine (ones64_any _ _ hy).mono ?_; rintro e w' ⟨rfl, rfl⟩)
        go_round
        case rel => exact ⟨k + 1, by omega, by go_num, by rw [HS.out]; go_num⟩
        case measure => simp [intOf]; omega
      · have e : k = xs.length := by omega
        subst e
        go_wp2
        go_ret
        exact ⟨ret_int (by rw [HE.out]), s1.below⟩
  · have hf : rightB W xs = false := by simpa using hok
    rw [onesI, if_neg hok]
    go_enter Try.func20, Try.ntmps20
    go_wp2_with fail
    refine (implOk_any _ _ _ _ _ hr').mono ?_
    rintro e w1 ⟨rfl, hb1⟩
    have s1 := (St.start w _).next hb1
    go_wp2
    go_ret
    exact ⟨rfl, s1.below⟩

end Go.Proofs.Ythoiajpbpoglfaa

/- Plain facts on the next word: the first bit that is 0, the carry. -/
namespace Go.Proofs.Ythoiajpbpoglfaa
set_option linter.unusedVariables false
set_option linter.unusedSimpArgs false
open Go.RowKit

def fzFrom (xs : List Nat) (i : Nat) : Nat → Nat
  | 0 => i
  | n + 1 => if tb xs i = true then fzFrom xs (i + 1) n else i

theorem fzFrom_eq (xs : List Nat) (n : Nat) : ∀ i k, i ≤ k → k < i + n → (∀ j, i ≤ j → j < k → tb xs j = true) → tb xs k = false → fzFrom xs i n = k := by
  induction n with
  | zero => intro i k h1 h2; omega
  | succ n ih =>
    intro i k h1 h2 h3 h4
    rw [fzFrom]
    by_cases h : i = k
    · subst h; simp [h4]
    · rw [if_pos (h3 i (Nat.le_refl _) (by omega))]
      exact ih (i + 1) k (by omega) (by omega) (fun j hj hk => h3 j (by omega) hk) h4

theorem fzFrom_all (xs : List Nat) (n : Nat) : ∀ i, (∀ j, i ≤ j → j < i + n → tb xs j = true) → fzFrom xs i n = i + n := by
  induction n with
  | zero => intro i _; rfl
  | succ n ih =>
    intro i h
    rw [fzFrom, if_pos (h i (Nat.le_refl _) (by omega)), ih (i + 1) (fun j h1 h2 => h j (by omega) (by omega))]
    omega

theorem fzFrom_lt (xs : List Nat) (n : Nat) : ∀ i, fzFrom xs i n < i + n → tb xs (fzFrom xs i n) = false ∧ ∀ j, i ≤ j → j < fzFrom xs i n → tb xs j = true := by
  induction n with
  | zero => intro i h; simp [fzFrom] at h
  | succ n ih =>
    intro i h
    rw [fzFrom] at h ⊢
    by_cases hb : tb xs i = true
    · rw [if_pos hb] at h ⊢
      obtain ⟨h1, h2⟩ := ih (i + 1) (by omega)
      refine ⟨h1, fun j hj hk => ?_⟩
      by_cases e : j = i
      · rw [e]; exact hb
      · exact h2 j (by omega) hk
    · rw [if_neg hb]
      exact ⟨by simpa using hb, fun j h1 h2 => by omega⟩

def fz (xs : List Nat) (V : Nat) : Nat := fzFrom xs 0 V

def nxtList (bs : List Nat) (p : Nat) : List Nat := List.replicate p 0 ++ 1 :: bs.drop (p + 1)

def nextR (W : Int) (xs : List Nat) : Int × List Nat × Bool :=
  if rightB W xs = true ∧ fz xs W.toNat < W.toNat then (W, pack (nxtList (bitsTo xs W.toNat) (fz xs W.toNat)), true) else noR

/-- All bits are 1 just where as many are as there are. -/
theorem cnt_full (f : Nat → Nat) (k : Nat) (h1 : ∀ i, f i ≤ 1) (h : cnt f k = k) : ∀ i, i < k → f i = 1 := by
  induction k with
  | zero => intro i hi; omega
  | succ k ih =>
    rw [cnt] at h
    have := h1 k
    have := cnt_le f k h1
    intro i hi
    by_cases e : i = k
    · subst e; omega
    · exact ih (by omega) i (by omega)
theorem ones_full (xs : List Nat) (V : Nat) : ones xs V = V ↔ ∀ i, i < V → tb xs i = true := by
  constructor
  · intro h i hi
    have := cnt_full _ V (fun i => by cases tb xs i <;> decide) h i hi
    cases hb : tb xs i with
    | true => rfl
    | false => rw [hb] at this; exact absurd this (by decide)
  · intro h
    unfold ones
    rw [cnt_congr _ (fun _ => 1) V (fun i hi => by rw [h i hi]; rfl)]
    clear h
    induction V with
    | zero => rfl
    | succ V ih => rw [cnt, ih]

/-- The carry into the word k. -/
def cr (xs : List Nat) : Nat → Nat
  | 0 => 1
  | k + 1 => (xs.getD k 0 + cr xs k) / 18446744073709551616
theorem cr_le (xs : List Nat) (hx : ∀ x ∈ xs, x < 18446744073709551616) (k : Nat) : cr xs k ≤ 1 := by
  induction k with
  | zero => exact Nat.le_refl _
  | succ k ih => rw [cr]; have := getD_lt hx k; omega

def nxWord (xs : List Nat) (k : Nat) : Nat := (xs.getD k 0 + cr xs k) % 18446744073709551616
def nxTo (xs : List Nat) (N k : Nat) : List Nat := (List.range k).map (nxWord xs) ++ List.replicate (N - k) 0
theorem nxTo_len (xs : List Nat) (N k : Nat) (h : k ≤ N) : (nxTo xs N k).length = N := by simp [nxTo]; omega
theorem nxTo_set (xs : List Nat) (N k : Nat) (h : k < N) : (nxTo xs N k).set k (nxWord xs k) = nxTo xs N (k + 1) := by
  unfold nxTo
  rw [List.set_append_right _ _ (by simp)]
  simp only [List.length_map, List.length_range, Nat.sub_self]
  obtain ⟨m, hm⟩ : ∃ m, N - k = m + 1 := ⟨N - k - 1, by omega⟩
  rw [hm, List.replicate_succ, List.set_cons_zero, show N - (k + 1) = m by omega]
  simp [List.range_succ]
theorem nxTo_lt (xs : List Nat) (N k : Nat) : ∀ x ∈ nxTo xs N k, x < 18446744073709551616 := by
  intro x hx
  unfold nxTo at hx
  rcases List.mem_append.1 hx with h | h
  · obtain ⟨i, _, rfl⟩ := List.mem_map.1 h
    exact Nat.mod_lt _ (by decide)
  · have := List.eq_of_mem_replicate h; omega

/-- A word all of whose bits are 1. -/
theorem all_ones (x : Nat) (hx : x < 18446744073709551616) (h : ∀ j, j < 64 → x.testBit j = true) : x = 18446744073709551615 := by
  refine Nat.eq_of_testBit_eq fun j => ?_
  rw [show (18446744073709551615 : Nat) = 2 ^ 64 - 1 by decide, Nat.testBit_two_pow_sub_one]
  by_cases hj : j < 64
  · simp [h j hj, hj]
  · rw [Nat.testBit_lt_two_pow (Nat.lt_of_lt_of_le hx (show 2 ^ 64 ≤ 2 ^ j from Nat.pow_le_pow_right (by omega) (by omega)))]; simp [hj]

theorem cr_one (xs : List Nat) (hx : ∀ x ∈ xs, x < 18446744073709551616) (p : Nat) (h : ∀ i, i < p → tb xs i = true) (k : Nat) (hk : 64 * k ≤ p) : cr xs k = 1 := by
  induction k with
  | zero => rfl
  | succ k ih =>
    have e : xs.getD k 0 = 18446744073709551615 := by
      refine all_ones _ (getD_lt hx k) fun j hj => ?_
      have := h (64 * k + j) (by omega)
      unfold tb at this
      rwa [show (64 * k + j) / 64 = k by omega, show (64 * k + j) % 64 = j by omega] at this
    rw [cr, ih (by omega), e]

/-- A word whose lowest j bits are 1 and whose bit j is 0, and one more. -/
theorem succ_bit (x j i : Nat) (h : ∀ k, k < j → x.testBit k = true) (hj : x.testBit j = false) : (x + 1).testBit i = (if i < j then false else if i = j then true else x.testBit i) := by
  have hlow : x % 2 ^ j = 2 ^ j - 1 := by
    refine Nat.eq_of_testBit_eq fun k => ?_
    rw [Nat.testBit_mod_two_pow, Nat.testBit_two_pow_sub_one]
    by_cases hk : k < j
    · simp [hk, h k hk]
    · simp [hk]
  have hx : x = 2 ^ j * (x / 2 ^ j) + (2 ^ j - 1) := by
    have := Nat.div_add_mod x (2 ^ j)
    omega
  have hp : 0 < 2 ^ j := Nat.two_pow_pos j
  have he : x / 2 ^ j % 2 = 0 := by
    have := Nat.testBit_eq_decide_div_mod_eq (x := x) (i := j)
    rw [hj] at this
    simp at this
    omega
  have hx1 : x + 1 = 2 ^ j * (x / 2 ^ j + 1) + 0 := by rw [Nat.mul_add, Nat.mul_one]; omega
  rw [hx1, Nat.testBit_two_pow_mul_add _ hp]
  by_cases hi : i < j
  · simp [hi]
  · rw [if_neg hi, if_neg hi]
    generalize hq : x / 2 ^ j = q at *
    obtain ⟨r, hr⟩ : ∃ r, q = 2 * r := ⟨q / 2, by omega⟩
    by_cases e : i = j
    · subst e
      rw [if_pos rfl, Nat.sub_self, hr]
      simp [Nat.testBit_zero]
    · rw [if_neg e]
      have e2 : x.testBit i = q.testBit (i - j) := by
        rw [← hq, Nat.testBit_div_two_pow]; congr 1; omega
      rw [e2, hr]
      obtain ⟨s, hs⟩ : ∃ s, i - j = s + 1 := ⟨i - j - 1, by omega⟩
      rw [hs, Nat.testBit_succ, Nat.testBit_succ]
      congr 1
      omega

theorem cr_zero (xs : List Nat) (hx : ∀ x ∈ xs, x < 18446744073709551616) (p : Nat) (h : ∀ i, i < p → tb xs i = true) (hz : tb xs p = false) (k : Nat) (hk : p < 64 * k) : cr xs k = 0 := by
  induction k with
  | zero => omega
  | succ k ih =>
    have hy := getD_lt hx k
    rw [cr]
    by_cases hk2 : p < 64 * k
    · rw [ih hk2]; omega
    · have c1 := cr_one xs hx p h k (by omega)
      have : xs.getD k 0 ≠ 18446744073709551615 := by
        intro e
        unfold tb at hz
        rw [show p / 64 = k by omega, e, show (18446744073709551615 : Nat) = 2 ^ 64 - 1 by decide, Nat.testBit_two_pow_sub_one] at hz
        simp at hz
        omega
      rw [c1]; omega

theorem tb_next (xs : List Nat) (hx : ∀ x ∈ xs, x < 18446744073709551616) (N p : Nat) (hN : xs.length = N) (h : ∀ i, i < p → tb xs i = true) (hz : tb xs p = false) (hp : p < 64 * N) (i : Nat) (hi : i < 64 * N) :
    tb (nxTo xs N N) i = (if i < p then false else if i = p then true else tb xs i) := by
  have hk : i / 64 < N := by omega
  have e : (nxTo xs N N).getD (i / 64) 0 = nxWord xs (i / 64) := by simp [nxTo, List.getD, hk]
  have hy := getD_lt hx (i / 64)
  have tbe : tb (nxTo xs N N) i = (nxWord xs (i / 64)).testBit (i % 64) := by unfold tb; rw [e]
  rw [tbe, nxWord]
  by_cases h1 : i / 64 < p / 64
  · -- all ones below: the word becomes 0
    have c1 := cr_one xs hx p h (i / 64) (by omega)
    have e1 : xs.getD (i / 64) 0 = 18446744073709551615 := by
      refine all_ones _ hy fun j hj => ?_
      have := h (64 * (i / 64) + j) (by omega)
      unfold tb at this
      rwa [show (64 * (i / 64) + j) / 64 = i / 64 by omega, show (64 * (i / 64) + j) % 64 = j by omega] at this
    rw [c1, e1, if_pos (by omega)]
    simp
  · by_cases h2 : i / 64 = p / 64
    · have c1 := cr_one xs hx p h (i / 64) (by omega)
      have hne : xs.getD (i / 64) 0 ≠ 18446744073709551615 := by
        intro e1
        unfold tb at hz
        rw [← h2, e1, show (18446744073709551615 : Nat) = 2 ^ 64 - 1 by decide, Nat.testBit_two_pow_sub_one] at hz
        simp at hz
        omega
      rw [c1, Nat.mod_eq_of_lt (by omega), succ_bit _ (p % 64) (i % 64) ?_ ?_]
      · unfold tb
        by_cases h3 : i < p
        · rw [if_pos h3, if_pos (by omega)]
        · rw [if_neg h3, if_neg (by omega)]
          by_cases h4 : i = p
          · rw [if_pos h4, if_pos (by omega)]
          · rw [if_neg h4, if_neg (by omega)]
      · intro k hk3
        have := h (64 * (p / 64) + k) (by omega)
        unfold tb at this
        rwa [show (64 * (p / 64) + k) / 64 = i / 64 by omega, show (64 * (p / 64) + k) % 64 = k by omega] at this
      · unfold tb at hz
        rwa [← h2] at hz
    · have c0 := cr_zero xs hx p h hz (i / 64) (by omega)
      rw [c0, Nat.add_zero, Nat.mod_eq_of_lt hy, if_neg (by omega), if_neg (by omega)]
      rfl

theorem next_pack {V : Nat} {xs : List Nat} (hok : rightB V xs = true) (hx : ∀ x ∈ xs, x < 18446744073709551616) (p N : Nat) (hN : N = (V + 63) / 64) (h : ∀ i, i < p → tb xs i = true) (hz : tb xs p = false) (hp : p < V) :
    nxTo xs N N = pack (nxtList (bitsTo xs V) p) := by
  have hw := right_W hok
  have hl : xs.length = N := by omega
  have hll : (nxtList (bitsTo xs V) p).length = V := by simp [nxtList, bitsTo_len]; omega
  refine eq_pack (fun x hxm => ?_) (by rw [nxTo_len _ _ _ (Nat.le_refl _), hll, hN]) (nxTo_lt _ _ _) fun i hi => ?_
  · unfold nxtList at hxm
    rcases List.mem_append.1 hxm with h' | h'
    · have := List.eq_of_mem_replicate h'; omega
    · rcases List.mem_cons.1 h' with h'' | h''
      · omega
      · exact bitsTo_le xs V x (List.mem_of_mem_drop h'')
  · rw [nxTo_len _ _ _ (Nat.le_refl _)] at hi
    rw [tb_next xs hx N p hl h hz (by omega) i hi]
    have e : (nxtList (bitsTo xs V) p).getD i 0 = if i < p then 0 else if i = p then 1 else (tb xs i).toNat := by
      unfold nxtList
      simp only [List.getD]
      by_cases h1 : i < p
      · rw [List.getElem?_append_left (by simpa using h1), if_pos h1]
        simp [List.getElem?_replicate, h1]
      · rw [List.getElem?_append_right (by simp; omega), if_neg h1]
        by_cases h2 : i = p
        · subst h2; simp
        · rw [if_neg h2, List.length_replicate]
          obtain ⟨s, hs⟩ : ∃ s, i - p = s + 1 := ⟨i - p - 1, by omega⟩
          rw [hs, List.getElem?_cons_succ, List.getElem?_drop, show p + 1 + s = i by omega]
          by_cases h3 : i < V
          · simp [bitsTo, h3]
          · rw [List.getElem?_eq_none (by rw [bitsTo_len]; omega), tb_out hok i (by omega)]; rfl
    rw [e]
    by_cases h1 : i < p
    · simp [h1]
    · by_cases h2 : i = p
      · simp [h2]
      · simp only [h1, h2, if_false]
        cases tb xs i <;> simp

end Go.Proofs.Ythoiajpbpoglfaa
