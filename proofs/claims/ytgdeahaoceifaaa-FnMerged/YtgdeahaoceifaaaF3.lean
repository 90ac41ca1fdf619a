/- The reader of the draws: a right word of a width. -/
import Derived.Test.YtgdeahaoceifaaaF2
import Derived.Test.YtgdeahaoceifaaaF0
namespace Go.Proofs.Ytgdeahaoceifaaa
set_option linter.unusedVariables false
set_option linter.unusedSimpArgs false
open Go.RowKit

theorem Blk.put0 {w : World} {β : Nat} {x y : Value} {t : TypeId} (h : Blk w β x y t) (u : Value) : Blk (w.setCell ⟨β, 0, none⟩ u) β u y t := by
  unfold Blk
  rw [heap_setCell_same w β 0 _ _ _ h]; rfl

theorem Rr.lt {w : World} {β : Nat} {a : Option Addr} {c : Nat} {bs : List Nat} (h : Rr w β a c bs) : β < w.heap.size := by
  obtain ⟨p, _, hk, _⟩ := h; exact hk.lt

/-- What is written from w0's end on touches neither the reader nor its bytes. -/
theorem Rr.far {w0 w w' : World} {β : Nat} {a : Option Addr} {c : Nat} {bs : List Nat} {row : Option Nat} (h0 : Rr w0 β a c bs) (h : Rr w β a c bs) (hg : w.grownBy w' row) (hrow : ∀ k, row = some k → w0.heap.size ≤ k) : Rr w' β a c bs := by
  have hβ := h0.lt
  obtain ⟨_, _, _, ⟨_, _, h3⟩, _⟩ := h0
  obtain ⟨p, hp, hk, hr, hn⟩ := h
  refine ⟨p, hp, ?_, ?_, hn⟩
  · unfold Blk
    rw [hg.block β hk.lt (fun e => by have := hrow β e.symm; omega)]; exact hk
  · rcases h3 with h3 | ⟨b, o, rfl, hc⟩
    · subst h3; exact ⟨by simp, by simp, .inl rfl⟩
    · by_cases he : bs = []
      · subst he; exact ⟨by simp, by simp, .inl rfl⟩
      · have hb : b < w0.heap.size := block_lt_of_cell (hc 0 (List.length_pos_iff.2 he))
        exact hr.kept hg (fun x e _ h => by cases e; have := hrow _ h; simp at this; omega)

theorem Dw.own {β : Nat} {w0 w w' : World} {row : Option Nat} (h : Dw β w0 w) (hg : w.grownBy w' row) (hrow : ∀ k, row = some k → w0.heap.size ≤ k) : Dw β w0 w' :=
  ⟨hg.os.trans h.os, hg.tape.trans h.tape, hg.output.trans h.output, Nat.le_trans h.size hg.size, fun k hk hne => by
    rw [hg.block k (Nat.lt_of_lt_of_le hk h.size) (fun e => by have := hrow k e.symm; omega)]; exact h.block k hk hne⟩

theorem OwB.far {w w' : World} {base : Nat} {v : Value} {bs : List Nat} {β : Nat} (h : OwB w base v bs) (hd : Dw β w w') (hβ : β < base) : OwB w' base v bs := by
  obtain ⟨h1, h2⟩ := h
  refine ⟨h1, ?_⟩
  rcases h2 with h2 | ⟨g, cap, cur, rfl, hg, hh, r⟩
  · exact .inl h2
  · exact .inr ⟨g, cap, cur, rfl, hg, by rw [World.grownBy.block hd g (lt_of_block hh) (by simp; omega)]; exact hh, r⟩

set_option maxHeartbeats 1000000 in
set_option maxRecDepth 100000 in
theorem bits_any (V : Nat) (h1 : 1 ≤ V) (h2 : V ≤ 4096) (β : Nat) (a : Option Addr) (c : Nat) (bs : List Nat) (w : World) (hr : Rr w β a c bs) :
    Calls Try.prog 82 #[.pointer (some ⟨β, 0, none⟩), .int .i64 V] w fun e w' => ∃ a' l, l.length = V ∧ (∀ x ∈ l, x ≤ 1) ∧
      e = .returned (.agg #[.int .i64 V, .slice a' (pack l).length (pack l).length]) ∧ Fresh w' w.heap.size a' (pack l) ∧ Rr w' β a c bs ∧ Dw β w w' := by
  go_enter Try.func82, Try.ntmps82
  go_wp2_with fail
  have hb2 : Below w.heap.size w ((w.alloc (Obj.cells #[Value.int IntKind.i64 0, Value.slice none 0 0] 30)).alloc (Obj.cells #[] 5)) := Ba (Ba (Below.refl _ _) _) _
  have hβ := hr.lt
  refine (word_any β a c bs _ (hr.later hb2)).mono ?_
  rintro e w1 ⟨y, rfl, hy, hr1, hd1⟩
  go_wp2_with fail
  refine (below_any 4 (by omega) β a c bs _ hr1).mono ?_
  rintro e w2 ⟨m, rfl, hm, hr2, hd2⟩
  have hd12 := hd1.trans hd2
  have ho2 : OwB w2 (w.heap.size + 1) (.slice (some ⟨w.heap.size + 1, 0, none⟩) 0 0) [] := OwB.far (OwB.nil _ _ _ (by simp) (Nat.le_refl _)) hd12 (by omega)
  have hk2 : Blk w2 w.heap.size (.int .i64 0) (.slice none 0 0) 30 := by
    unfold Blk
    rw [World.grownBy.block hd12 w.heap.size (by simp; omega) (by simp; omega), heap_alloc_old _ _ (by simp), heap_alloc_new]
  have hd : Dw β w w2 := (Dw.of hb2).trans hd12
  clear hb2 hd1 hd2 hd12 hr1
  go_wp2
  go_loopw [5, 8] (fun v i wr => ∃ (k : Nat) (l : List Nat), k ≤ V ∧ i = .int .i64 k ∧ l.length = k ∧ (∀ x ∈ l, x ≤ 1) ∧ OwB wr (w.heap.size + 1) v l ∧ Blk wr w.heap.size (.int .i64 0) (.slice none 0 0) 30 ∧ Rr wr β a c bs ∧ Dw β w wr) (fun _ i _ => V - (intOf i).toNat)
  case atStart => exact ⟨0, [], Nat.zero_le _, rfl, rfl, by simp, ho2, hk2, hr2, hd⟩
  case round =>
    clear ho2 hk2 hr2 hd
    obtain ⟨k, l, hk, rfl, hlk, hl1, hown, hbk, hrr, hdd⟩ := hrel
    by_cases hlt : k < V
    · have hsz : w.heap.size < wr.heap.size := hbk.lt
      have hbl : l.length ≤ 4194304 := by omega
      have HLK : Hid (l.length = k) := hlk
      have HL1 : Hid (∀ x ∈ l, x ≤ 1) := hl1
      clear hlk hl1
      obtain ⟨t, ht, HC⟩ : ∃ t : Nat, t ≤ 1 ∧ Hid (bits BinOp.and IntKind.u64 ((y : Int) / 2 ^ (k * 7 % 64)) 1 % 256 = (t : Int)) := ⟨_, by omega, andOne y _ hy⟩
      by_cases m0 : m = 0
      · have e0 : ((m : Int) == 0) = true := by simp [m0]
        have e1 : ((m : Int) == 1) = false := by simp [m0]
        clear m0
        go_wp2_with (at_builtin; refine wpList_appB _ rfl _ _ rfl (w.heap.size + 1) _ l 0 rfl (hown.alloc _) wr.heap.size rfl (by simp) hbl (by simp; omega) ?_)
        intro v' w3 hown3 hgr
        have hgo : ∀ q, (Value.ownBlock u5) = some q → w.heap.size ≤ q := fun q hq => by have := hown.own q hq; omega
        have hd3 := (hdd.alloc _).own hgr hgo
        have hr3 := hr.far (hrr.later ((Below.refl _ _).alloc (Nat.le_refl _) _)) hgr hgo
        have hk3 : Blk w3 w.heap.size (.int .i64 0) (.slice none 0 0) 30 := by
          unfold Blk
          rw [hgr.block w.heap.size (by simp; omega) (fun e => by have := hown.own _ e.symm; omega)]
          exact hbk.alloc _
        clear hgr hown hdd hrr hbk hgo
        go_wp2
        go_roundw
        case rel => exact ⟨k + 1, l ++ [0], by omega, by go_num, by simp [HLK.out], fun x hx => by
                      rcases List.mem_append.1 hx with h | h
                      · exact HL1.out x h
                      · simp at h; omega, hown3, hk3, hr3, hd3⟩
        case measure => simp [intOf]; omega
      · have m0i : ¬ (m : Int) = 0 := by omega
        by_cases m1 : m = 1
        · have e0 : ((m : Int) == 0) = false := by simp [m1]
          have e1 : ((m : Int) == 1) = true := by simp [m1]
          clear m1 m0 m0i
          go_wp2_with (at_builtin; refine wpList_appB _ rfl _ _ rfl (w.heap.size + 1) _ l 1 rfl (hown.alloc _) wr.heap.size rfl (by simp) hbl (by simp; omega) ?_)
          intro v' w3 hown3 hgr
          have hgo : ∀ q, (Value.ownBlock u5) = some q → w.heap.size ≤ q := fun q hq => by have := hown.own q hq; omega
          have hd3 := (hdd.alloc _).own hgr hgo
          have hr3 := hr.far (hrr.later ((Below.refl _ _).alloc (Nat.le_refl _) _)) hgr hgo
          have hk3 : Blk w3 w.heap.size (.int .i64 0) (.slice none 0 0) 30 := by
            unfold Blk
            rw [hgr.block w.heap.size (by simp; omega) (fun e => by have := hown.own _ e.symm; omega)]
            exact hbk.alloc _
          clear hgr hown hdd hrr hbk hgo
          go_wp2
          go_roundw
          case rel => exact ⟨k + 1, l ++ [1], by omega, by go_num, by simp [HLK.out], fun x hx => by
                        rcases List.mem_append.1 hx with h | h
                        · exact HL1.out x h
                        · simp at h; omega, hown3, hk3, hr3, hd3⟩
          case measure => simp [intOf]; omega
        · have e0 : ((m : Int) == 0) = false := by simp [m0]
          have e1 : ((m : Int) == 1) = false := by simp; omega
          clear m1 m0 m0i
          go_wp2_with (at_builtin; refine wpList_appB _ rfl _ _ rfl (w.heap.size + 1) _ l t rfl (hown.alloc _) wr.heap.size rfl (by simp [HC.out]) hbl (by simp; omega) ?_)
          intro v' w3 hown3 hgr
          have hgo : ∀ q, (Value.ownBlock u5) = some q → w.heap.size ≤ q := fun q hq => by have := hown.own q hq; omega
          have hd3 := (hdd.alloc _).own hgr hgo
          have hr3 := hr.far (hrr.later ((Below.refl _ _).alloc (Nat.le_refl _) _)) hgr hgo
          have hk3 : Blk w3 w.heap.size (.int .i64 0) (.slice none 0 0) 30 := by
            unfold Blk
            rw [hgr.block w.heap.size (by simp; omega) (fun e => by have := hown.own _ e.symm; omega)]
            exact hbk.alloc _
          clear hgr hown hdd hrr hbk hgo
          go_wp2
          go_roundw
          case rel => exact ⟨k + 1, l ++ [t], by omega, by go_num, by simp [HLK.out], fun x hx => by
                        rcases List.mem_append.1 hx with h | h
                        · exact HL1.out x h
                        · simp at h; omega, hown3, hk3, hr3, hd3⟩
          case measure => simp [intOf]; omega
    · have HLK : Hid (l.length = k) := hlk
      have HL1 : Hid (∀ x ∈ l, x ≤ 1) := hl1
      have ek : k = V := by omega
      subst ek
      have hbl : l.length ≤ 4194304 := by omega
      obtain ⟨a', c', rfl, hrd, -, -⟩ := hown.shape hbl (fun x hx => by have := hl1 x hx; omega)
      have g1 : 1 ≤ l.length := by omega
      have g2 : l.length ≤ 4096 := by omega
      clear hl1 hlk
      go_wp2_with fail
      refine (l1From_cap _ _ _ _ hrd g1 g2).mono ?_
      rintro e w4 ⟨a4, rfl, hf, hb4⟩
      have hk4 := hbk.next hb4
      have hr4 := hrr.later hb4
      have hd4 := hdd.trans (Dw.of hb4)
      obtain ⟨c0, c1⟩ := hk4.cells
      have f0 : w4.frozen? ⟨w.heap.size, 0, none⟩ = false := frozen_of_row w4 _ 0 _ _ hk4
      have f1 : w4.frozen? ⟨w.heap.size, 1, none⟩ = false := frozen_of_row w4 _ 1 _ _ hk4
      have HF : Hid _ := hf
      have HB4 : Hid _ := hb4
      have hltr : w.heap.size < wr.heap.size := hbk.lt
      have hlt4 : w.heap.size < w4.heap.size := hk4.lt
      clear hown hbk hrr hdd hrd hb4 hf
      go_wp2
      obtain ⟨d0, d1⟩ := (((hk4.put0 (Value.int IntKind.i64 l.length)).put1 (Value.slice a4 (pack l).length (pack l).length)).alloc (Obj.cells #[Value.int IntKind.i64 l.length, Value.slice a4 (pack l).length (pack l).length] 30)).cells
      refine bodyPost_ret (v := .agg #[.int .i64 l.length, .slice a4 (pack l).length (pack l).length]) (by simp [results, Try.results82, go_sem, d0, d1]) rfl ?_
      have gw := (gsc w4 ⟨w.heap.size, 0, none⟩ (Value.int IntKind.i64 l.length)).trans (gsc _ ⟨w.heap.size, 1, none⟩ (Value.slice a4 (pack l).length (pack l).length))
      have gh : ∀ q, some w.heap.size = some q → w.heap.size ≤ q := fun q e => by cases e; exact Nat.le_refl _
      refine ⟨a4, l, HLK.out, HL1.out, by rw [HLK.out], ?_, (hr.far hr4 gw gh).later ((Below.refl _ _).alloc (Nat.le_refl _) _), (hd4.own gw gh).alloc _⟩
      rcases HF.out with h | ⟨g, rfl, hg, ho⟩
      · exact .inl h
      · refine .inr ⟨g, rfl, by omega, ?_⟩
        have ho2 := (ho.other (a := ⟨w.heap.size, 0, none⟩) (show g ≠ w.heap.size by omega) (Value.int IntKind.i64 l.length)).other (a := ⟨w.heap.size, 1, none⟩) (show g ≠ w.heap.size by omega) (Value.slice (some ⟨g, 0, none⟩) (pack l).length (pack l).length)
        exact ho2.later ((Below.refl _ _).alloc (Nat.le_refl _) _) ho2.lt

end Go.Proofs.Ytgdeahaoceifaaa
