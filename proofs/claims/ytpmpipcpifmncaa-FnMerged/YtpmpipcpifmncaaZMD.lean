/- Several texts in one. -/
import Derived.Test.YtpmpipcpifmncaaF1
import Derived.Test.YtpmpipcpifmncaaG1
import Derived.Test.YtpmpipcpifmncaaF0

/- The reader of the draws: near, off, wide. -/
namespace Go.Proofs.Ytpmpipcpifmncaa
set_option linter.unusedVariables false
set_option linter.unusedSimpArgs false
open Go.RowKit

theorem Dw.row {β : Nat} {w1 w2 : World} {o : Obj} (h : Dw β (w1.alloc o) w2) (hβ : β < w1.heap.size) : w2.heap[w1.heap.size]? = some o := by
  rw [World.grownBy.block h w1.heap.size (by simp) (by simp; omega), heap_alloc_new]

theorem wrap64_of {x : Int} (h1 : -9223372036854775808 ≤ x) (h2 : x ≤ 9223372036854775807) : wrap64 x = x := by
  unfold wrap64; omega

theorem near_any (l h : Nat) (hlh : l ≤ h) (hh : h ≤ 4194304) (β : Nat) (a : Option Addr) (c : Nat) (bs : List Nat) (w : World) (hr : Rr w β a c bs) :
    Calls Try.prog 81 #[.pointer (some ⟨β, 0, none⟩), .int .i64 l, .int .i64 h] w fun e w' => ∃ x : Nat, e = .returned (.int .i64 x) ∧ l ≤ x ∧ x ≤ h ∧ Rr w' β a c bs ∧ Dw β w w' := by
  go_enter Try.func81, Try.ntmps81
  go_wp2_with fail
  refine (below_any 8 (by omega) β a c bs _ hr).mono ?_
  rintro e w1 ⟨x, rfl, hx, hr1, hd1⟩
  rcases Nat.lt_or_ge 1 x with h1 | h1
  · have n0 : ¬ x = 0 := by omega
    have n1 : ¬ x = 1 := by omega
    have n0i : ¬ (x : Int) = 0 := by omega
    have n1i : ¬ (x : Int) = 1 := by omega
    have n2i : ¬ (h : Int) < (l : Int) := by omega
    go_wp2_with fail
    refine (word_any β a c bs _ hr1).mono ?_
    rintro e w2 ⟨y, rfl, hy, hr2, hd2⟩
    have hm : y / 2 % (h - l + 1) < h - l + 1 := Nat.mod_lt _ (by omega)
    have e1 : ((y : Int) / 2 % ((h : Int) - (l : Int) + 1)) = ((y / 2 % (h - l + 1) : Nat) : Int) := by
      rw [Int.natCast_emod, Int.natCast_ediv]; congr 1; omega
    generalize hz : y / 2 % (h - l + 1) = z at *
    have E1 : Hid ((y : Int) / 2 % ((h : Int) - (l : Int) + 1) = (z : Int)) := e1
    clear e1 hz
    go_wp2
    go_ret
    refine ⟨l + z, ?_, by omega, by omega, hr2, hd1.trans hd2⟩
    rw [E1.out, wrap64_of (show -9223372036854775808 ≤ (z : Int) by omega) (by omega), wrap64_of (by omega) (by omega)]
    simp
  · obtain rfl | rfl : x = 0 ∨ x = 1 := by omega
    · go_wp2
      go_ret
      exact ⟨l, rfl, Nat.le_refl _, hlh, hr1, hd1⟩
    · go_wp2
      go_ret
      exact ⟨h, rfl, hlh, Nat.le_refl _, hr1, hd1⟩

theorem off_any (l h : Nat) (hlh : l ≤ h) (hh : h ≤ 4194304) (β : Nat) (a : Option Addr) (c : Nat) (bs : List Nat) (w : World) (hr : Rr w β a c bs) :
    Calls Try.prog 60 #[.pointer (some ⟨β, 0, none⟩), .int .i64 l, .int .i64 h] w fun e w' => ∃ x : Int, e = .returned (.int .i64 x) ∧ -9223372036854775808 ≤ x ∧ x ≤ 9223372036854775807 ∧ Rr w' β a c bs ∧ Dw β w w' := by
  go_enter Try.func60, Try.ntmps60
  go_wp2_with fail
  refine (once_any 24 (by omega) (by omega) β a c bs _ hr).mono ?_
  rintro e w1 ⟨x, rfl, hr1, hd1⟩
  cases x with
  | true =>
    have hβ : β < w1.heap.size := by obtain ⟨p, _, hk, _⟩ := hr1; exact hk.lt
    go_wp2_with fail
    refine (below_any 4 (by omega) β a c bs _ (hr1.later ((Below.refl _ _).alloc (Nat.le_refl _) _))).mono ?_
    rintro e w2 ⟨y, rfl, hy, hr2, hd2⟩
    have hrow := hd2.row hβ
    have hy4 : y < 4 := by omega
    obtain ⟨z, hz1, hz2, hcell⟩ : ∃ z : Int, -9223372036854775808 ≤ z ∧ z ≤ 9223372036854775807 ∧ w2.cell? ⟨w1.heap.size, y, none⟩ = some (.int .i64 z) := by
      rw [cell_of_row w2 _ y _ _ _ hrow]
      match y, hy4 with
      | 0, _ => exact ⟨(l : Int) - 1, by omega, by omega, rfl⟩
      | 1, _ => exact ⟨(h : Int) + 1, by omega, by omega, rfl⟩
      | 2, _ => exact ⟨-9223372036854775808, by omega, by omega, rfl⟩
      | 3, _ => exact ⟨9223372036854775807, by omega, by omega, rfl⟩
    have hd := hd1.trans ((Dw.of ((Below.refl _ _).alloc (Nat.le_refl _) _)).trans hd2)
    clear hrow hd2
    go_wp2
    go_ret
    exact ⟨z, rfl, hz1, hz2, hr2, hd⟩
  | false =>
    go_wp2_with fail
    refine (near_any l h hlh hh β a c bs _ hr1).mono ?_
    rintro e w2 ⟨y, rfl, hy1, hy2, hr2, hd2⟩
    go_wp2
    go_ret
    exact ⟨y, rfl, by omega, by omega, hr2, hd1.trans hd2⟩

theorem wide_any (β : Nat) (a : Option Addr) (c : Nat) (bs : List Nat) (w : World) (hr : Rr w β a c bs) :
    Calls Try.prog 80 #[.pointer (some ⟨β, 0, none⟩)] w fun e w' => ∃ x : Nat, e = .returned (.int .i64 x) ∧ 1 ≤ x ∧ x ≤ 200 ∧ Rr w' β a c bs ∧ Dw β w w' := by
  go_enter Try.func80, Try.ntmps80
  go_wp2_with fail
  refine (below_any 10 (by omega) β a c bs _ hr).mono ?_
  rintro e w1 ⟨x, rfl, hx, hr1, hd1⟩
  rcases Nat.lt_or_ge 1 x with h1 | h1
  · have n0 : ¬ x = 0 := by omega
    have n1 : ¬ x = 1 := by omega
    have n0i : ¬ (x : Int) = 0 := by omega
    have n1i : ¬ (x : Int) = 1 := by omega
    go_wp2_with fail
    refine (below_any 12 (by omega) β a c bs _ hr1).mono ?_
    rintro e w2 ⟨y, rfl, hy, hr2, hd2⟩
    go_wp2
    go_ret
    exact ⟨1 + y, by simp, by omega, by omega, hr2, hd1.trans hd2⟩
  · obtain rfl | rfl : x = 0 ∨ x = 1 := by omega
    · have hβ : β < w1.heap.size := by obtain ⟨p, _, hk, _⟩ := hr1; exact hk.lt
      go_wp2_with fail
      refine (below_any 7 (by omega) β a c bs _ (hr1.later ((Below.refl _ _).alloc (Nat.le_refl _) _))).mono ?_
      rintro e w2 ⟨y, rfl, hy, hr2, hd2⟩
      have hrow := hd2.row hβ
      have hy7 : y < 7 := by omega
      obtain ⟨z, hz1, hz2, hcell⟩ : ∃ z : Nat, 1 ≤ z ∧ z ≤ 200 ∧ w2.cell? ⟨w1.heap.size, y, none⟩ = some (.int .i64 z) := by
        rw [cell_of_row w2 _ y _ _ _ hrow]
        match y, hy7 with
        | 0, _ => exact ⟨63, by omega, by omega, rfl⟩
        | 1, _ => exact ⟨64, by omega, by omega, rfl⟩
        | 2, _ => exact ⟨65, by omega, by omega, rfl⟩
        | 3, _ => exact ⟨127, by omega, by omega, rfl⟩
        | 4, _ => exact ⟨128, by omega, by omega, rfl⟩
        | 5, _ => exact ⟨129, by omega, by omega, rfl⟩
        | 6, _ => exact ⟨200, by omega, by omega, rfl⟩
      have hd := hd1.trans ((Dw.of ((Below.refl _ _).alloc (Nat.le_refl _) _)).trans hd2)
      clear hrow hd2
      go_wp2
      go_ret
      exact ⟨z, rfl, hz1, hz2, hr2, hd⟩
    · go_wp2_with fail
      refine (below_any 40 (by omega) β a c bs _ hr1).mono ?_
      rintro e w2 ⟨y, rfl, hy, hr2, hd2⟩
      go_wp2
      go_ret
      exact ⟨1 + y, by simp, by omega, by omega, hr2, hd1.trans hd2⟩

end Go.Proofs.Ytpmpipcpifmncaa

/- The reader of the draws: a right word of a width. -/
namespace Go.Proofs.Ytpmpipcpifmncaa
set_option linter.unusedVariables false
set_option linter.unusedSimpArgs false
open Go.RowKit

theorem Blk.put0 {w : World} {β : Nat} {x y : Value} {t : TypeId} (h : Blk w β x y t) (u : Value) : Blk (w.setCell ⟨β, 0, none⟩ u) β u y t := by
  unfold Blk
  rw [heap_setCell_same w β 0 _ _ _ h]; rfl

theorem Rr.lt {w : World} {β : Nat} {a : Option Addr} {c : Nat} {bs : List Nat} (h : Rr w β a c bs) : β < w.heap.size := by
  obtain ⟨p, _, hk, _⟩ := h; exact hk.lt

/-- What is written from w0's end on touches neither the reader nor its bytes. -/
theorem Rr.far {w0 w w' : World} {β : Nat} {a : Option Addr} {c : Nat} {bs : List Nat} {row : Option Nat} (h0 : Rr w0 β a c bs) (h : Rr w β a c bs) (hg : w.grownBy w' row) (hrow : ∀ k, row = some k → w0.heap.size ≤ k) : Rr w' β a c bs := by
  have hβ := h0.lt
  obtain ⟨_, _, _, ⟨_, _, h3⟩, _⟩ := h0
  obtain ⟨p, hp, hk, hr, hn⟩ := h
  refine ⟨p, hp, ?_, ?_, hn⟩
  · unfold Blk
    rw [hg.block β hk.lt (fun e => by have := hrow β e.symm; omega)]; exact hk
  · rcases h3 with h3 | ⟨b, o, rfl, hc⟩
    · subst h3; exact ⟨by simp, by simp, .inl rfl⟩
    · by_cases he : bs = []
      · subst he; exact ⟨by simp, by simp, .inl rfl⟩
      · have hb : b < w0.heap.size := block_lt_of_cell (hc 0 (List.length_pos_iff.2 he))
        exact hr.kept hg (fun x e _ h => by cases e; have := hrow _ h; simp at this; omega)

theorem Dw.own {β : Nat} {w0 w w' : World} {row : Option Nat} (h : Dw β w0 w) (hg : w.grownBy w' row) (hrow : ∀ k, row = some k → w0.heap.size ≤ k) : Dw β w0 w' :=
  ⟨hg.os.trans h.os, hg.tape.trans h.tape, hg.output.trans h.output, Nat.le_trans h.size hg.size, fun k hk hne => by
    rw [hg.block k (Nat.lt_of_lt_of_le hk h.size) (fun e => by have := hrow k e.symm; omega)]; exact h.block k hk hne⟩

theorem OwB.far {w w' : World} {base : Nat} {v : Value} {bs : List Nat} {β : Nat} (h : OwB w base v bs) (hd : Dw β w w') (hβ : β < base) : OwB w' base v bs := by
  obtain ⟨h1, h2⟩ := h
  refine ⟨h1, ?_⟩
  rcases h2 with h2 | ⟨g, cap, cur, rfl, hg, hh, r⟩
  · exact .inl h2
  · exact .inr ⟨g, cap, cur, rfl, hg, by rw [World.grownBy.block hd g (lt_of_block hh) (by simp; omega)]; exact hh, r⟩

set_option maxHeartbeats 1000000 in
set_option maxRecDepth 100000 in
theorem bits_any (V : Nat) (h1 : 1 ≤ V) (h2 : V ≤ 4096) (β : Nat) (a : Option Addr) (c : Nat) (bs : List Nat) (w : World) (hr : Rr w β a c bs) :
    Calls Try.prog 82 #[.pointer (some ⟨β, 0, none⟩), .int .i64 V] w fun e w' => ∃ a' l, l.length = V ∧ (∀ x ∈ l, x ≤ 1) ∧
      e = .returned (.agg #[.int .i64 V, .slice a' (pack l).length (pack l).length]) ∧ Fresh w' w.heap.size a' (pack l) ∧ Rr w' β a c bs ∧ Dw β w w' := by
  go_enter Try.func82, Try.ntmps82
  go_wp2_with fail
  have hb2 : Below w.heap.size w ((w.alloc (Obj.cells #[Value.int IntKind.i64 0, Value.slice none 0 0] 30)).alloc (Obj.cells #[] 5)) := Ba (Ba (Below.refl _ _) _) _
  have hβ := hr.lt
  refine (word_any β a c bs _ (hr.later hb2)).mono ?_
  rintro e w1 ⟨y, rfl, hy, hr1, hd1⟩
  go_wp2_with fail
  refine (below_any 4 (by omega) β a c bs _ hr1).mono ?_
  rintro e w2 ⟨m, rfl, hm, hr2, hd2⟩
  have hd12 := hd1.trans hd2
  have ho2 : OwB w2 (w.heap.size + 1) (.slice (some ⟨w.heap.size + 1, 0, none⟩) 0 0) [] := OwB.far (OwB.nil _ _ _ (by simp) (Nat.le_refl _)) hd12 (by omega)
  have hk2 : Blk w2 w.heap.size (.int .i64 0) (.slice none 0 0) 30 := by
    unfold Blk
    rw [World.grownBy.block hd12 w.heap.size (by simp; omega) (by simp; omega), heap_alloc_old _ _ (by simp), heap_alloc_new]
  have hd : Dw β w w2 := (Dw.of hb2).trans hd12
  clear hb2 hd1 hd2 hd12 hr1
  go_wp2
  go_loopw [5, 8] (fun v i wr => ∃ (k : Nat) (l : List Nat), k ≤ V ∧ i = .int .i64 k ∧ l.length = k ∧ (∀ x ∈ l, x ≤ 1) ∧ OwB wr (w.heap.size + 1) v l ∧ Blk wr w.heap.size (.int .i64 0) (.slice none 0 0) 30 ∧ Rr wr β a c bs ∧ Dw β w wr) (fun _ i _ => V - (intOf i).toNat)
  case atStart => exact ⟨0, [], Nat.zero_le _, rfl, rfl, by simp, ho2, hk2, hr2, hd⟩
  case round =>
    clear ho2 hk2 hr2 hd
    obtain ⟨k, l, hk, rfl, hlk, hl1, hown, hbk, hrr, hdd⟩ := hrel
    by_cases hlt : k < V
    · have hsz : w.heap.size < wr.heap.size := hbk.lt
      have hbl : l.length ≤ 4194304 := by omega
      have HLK : Hid (l.length = k) := hlk
      have HL1 : Hid (∀ x ∈ l, x ≤ 1) := hl1
      clear hlk hl1
      obtain ⟨t, ht, HC⟩ : ∃ t : Nat, t ≤ 1 ∧ Hid (bits BinOp.and IntKind.u64 ((y : Int) / 2 ^ (k * 7 % 64)) 1 % 256 = (t : Int)) := ⟨_, by omega, andOne y _ hy⟩
      by_cases m0 : m = 0
      · have e0 : ((m : Int) == 0) = true := by simp [m0]
        have e1 : ((m : Int) == 1) = false := by simp [m0]
        clear m0
        go_wp2_with (at_builtin; refine wpList_appB _ rfl _ _ rfl (w.heap.size + 1) _ l 0 rfl (hown.alloc _) wr.heap.size rfl (by simp) hbl (by simp; omega) ?_)
        intro v' w3 hown3 hgr
        have hgo : ∀ q, (Value.ownBlock u5) = some q → w.heap.size ≤ q := fun q hq => by have := hown.own q hq; omega
        have hd3 := (hdd.alloc _).own hgr hgo
        have hr3 := hr.far (hrr.later ((Below.refl _ _).alloc (Nat.le_refl _) _)) hgr hgo
        have hk3 : Blk w3 w.heap.size (.int .i64 0) (.slice none 0 0) 30 := by
          unfold Blk
          rw [hgr.block w.heap.size (by simp; omega) (fun e => by have := hown.own _ e.symm; omega)]
          exact hbk.alloc _
        clear hgr hown hdd hrr hbk hgo
        go_wp2
        go_roundw
        case rel => exact ⟨k + 1, l ++ [0], by omega, by go_num, by simp [HLK.out], fun x hx => by
                      rcases List.mem_append.1 hx with h | h
                      · exact HL1.out x h
                      · simp at h; omega, hown3, hk3, hr3, hd3⟩
        case measure => simp [intOf]; omega
      · have m0i : ¬ (m : Int) = 0 := by omega
        by_cases m1 : m = 1
        · have e0 : ((m : Int) == 0) = false := by simp [m1]
          have e1 : ((m : Int) == 1) = true := by simp [m1]
          clear m1 m0 m0i
          go_wp2_with (at_builtin; refine wpList_appB _ rfl _ _ rfl (w.heap.size + 1) _ l 1 rfl (hown.alloc _) wr.heap.size rfl (by simp) hbl (by simp; omega) ?_)
          intro v' w3 hown3 hgr
          have hgo : ∀ q, (Value.ownBlock u5) = some q → w.heap.size ≤ q := fun q hq => by have := hown.own q hq; omega
          have hd3 := (hdd.alloc _).own hgr hgo
          have hr3 := hr.far (hrr.later ((Below.refl _ _).alloc (Nat.le_refl _) _)) hgr hgo
          have hk3 : Blk w3 w.heap.size (.int .i64 0) (.slice none 0 0) 30 := by
            unfold Blk
            rw [hgr.block w.heap.size (by simp; omega) (fun e => by have := hown.own _ e.symm; omega)]
            exact hbk.alloc _
          clear hgr hown hdd hrr hbk hgo
          go_wp2
          go_roundw
          case rel => exact ⟨k + 1, l ++ [1], by omega, by go_num, by simp [HLK.out], fun x hx => by
                        rcases List.mem_append.1 hx with h | h
                        · exact HL1.out x h
                        · simp at h; omega, hown3, hk3, hr3, hd3⟩
          case measure => simp [intOf]; omega
        · have e0 : ((m : Int) == 0) = false := by simp [m0]
          have e1 : ((m : Int) == 1) = false := by simp; omega
          clear m1 m0 m0i
          go_wp2_with (at_builtin; refine wpList_appB _ rfl _ _ rfl (w.heap.size + 1) _ l t rfl (hown.alloc _) wr.heap.size rfl (by simp [HC.out]) hbl (by simp; omega) ?_)
          intro v' w3 hown3 hgr
          have hgo : ∀ q, (Value.ownBlock u5) = some q → w.heap.size ≤ q := fun q hq => by have := hown.own q hq; omega
          have hd3 := (hdd.alloc _).own hgr hgo
          have hr3 := hr.far (hrr.later ((Below.refl _ _).alloc (Nat.le_refl _) _)) hgr hgo
          have hk3 : Blk w3 w.heap.size (.int .i64 0) (.slice none 0 0) 30 := by
            unfold Blk
            rw [hgr.block w.heap.size (by simp; omega) (fun e => by have := hown.own _ e.symm; omega)]
            exact hbk.alloc _
          clear hgr hown hdd hrr hbk hgo
          go_wp2
          go_roundw
          case rel => exact ⟨k + 1, l ++ [t], by omega, by go_num, by simp [HLK.out], fun x hx => by
                        rcases List.mem_append.1 hx with h | h
                        · exact HL1.out x h
                        · simp at h; omega, hown3, hk3, hr3, hd3⟩
          case measure => simp [intOf]; omega
    · have HLK : Hid (l.length = k) := hlk
      have HL1 : Hid (∀ x ∈ l, x ≤ 1) := hl1
      have ek : k = V := by omega
      subst ek
      have hbl : l.length ≤ 4194304 := by omega
      obtain ⟨a', c', rfl, hrd, -, -⟩ := hown.shape hbl (fun x hx => by have := hl1 x hx; omega)
      have g1 : 1 ≤ l.length := by omega
      have g2 : l.length ≤ 4096 := by omega
      clear hl1 hlk
      go_wp2_with fail
      refine (l1From_cap _ _ _ _ hrd g1 g2).mono ?_
      rintro e w4 ⟨a4, rfl, hf, hb4⟩
      have hk4 := hbk.next hb4
      have hr4 := hrr.later hb4
      have hd4 := hdd.trans (Dw.of hb4)
      obtain ⟨c0, c1⟩ := hk4.cells
      have f0 : w4.frozen? ⟨w.heap.size, 0, none⟩ = false := frozen_of_row w4 _ 0 _ _ hk4
      have f1 : w4.frozen? ⟨w.heap.size, 1, none⟩ = false := frozen_of_row w4 _ 1 _ _ hk4
      have HF : Hid _ := hf
      have HB4 : Hid _ := hb4
      have hltr : w.heap.size < wr.heap.size := hbk.lt
      have hlt4 : w.heap.size < w4.heap.size := hk4.lt
      clear hown hbk hrr hdd hrd hb4 hf
      go_wp2
      obtain ⟨d0, d1⟩ := (((hk4.put0 (Value.int IntKind.i64 l.length)).put1 (Value.slice a4 (pack l).length (pack l).length)).alloc (Obj.cells #[Value.int IntKind.i64 l.length, Value.slice a4 (pack l).length (pack l).length] 30)).cells
      refine bodyPost_ret (v := .agg #[.int .i64 l.length, .slice a4 (pack l).length (pack l).length]) (by simp [results, Try.results82, go_sem, d0, d1]) rfl ?_
      have gw := (gsc w4 ⟨w.heap.size, 0, none⟩ (Value.int IntKind.i64 l.length)).trans (gsc _ ⟨w.heap.size, 1, none⟩ (Value.slice a4 (pack l).length (pack l).length))
      have gh : ∀ q, some w.heap.size = some q → w.heap.size ≤ q := fun q e => by cases e; exact Nat.le_refl _
      refine ⟨a4, l, HLK.out, HL1.out, by rw [HLK.out], ?_, (hr.far hr4 gw gh).later ((Below.refl _ _).alloc (Nat.le_refl _) _), (hd4.own gw gh).alloc _⟩
      rcases HF.out with h | ⟨g, rfl, hg, ho⟩
      · exact .inl h
      · refine .inr ⟨g, rfl, by omega, ?_⟩
        have ho2 := (ho.other (a := ⟨w.heap.size, 0, none⟩) (show g ≠ w.heap.size by omega) (Value.int IntKind.i64 l.length)).other (a := ⟨w.heap.size, 1, none⟩) (show g ≠ w.heap.size by omega) (Value.slice (some ⟨g, 0, none⟩) (pack l).length (pack l).length)
        exact ho2.later ((Below.refl _ _).alloc (Nat.le_refl _) _) ho2.lt

end Go.Proofs.Ytpmpipcpifmncaa

/- The reader of the draws: a word that is now and then spoilt. -/
namespace Go.Proofs.Ytpmpipcpifmncaa
set_option linter.unusedVariables false
set_option linter.unusedSimpArgs false
open Go.RowKit

/-- Words xs stand at a, in a block from lo on. -/
def Got (w : World) (lo : Nat) (a : Option Addr) (xs : List Nat) : Prop := Rd w a xs ∧ ∀ x, a = some x → lo ≤ x.block

theorem Fresh.got {w : World} {lo : Nat} {a : Option Addr} {ys : List Nat} (h : Fresh w lo a ys) (hl : ys.length ≤ 1048576) (hx : ∀ x ∈ ys, x < 18446744073709551616) : Got w lo a ys := by
  rcases h with ⟨rfl, rfl⟩ | ⟨g, rfl, hg, ho⟩
  · exact ⟨⟨hl, hx, .inl rfl⟩, fun x e => by cases e⟩
  · exact ⟨ho.rd hl hx, fun x e => by cases e; exact hg⟩

theorem Got.far {w w' : World} {lo : Nat} {a : Option Addr} {xs : List Nat} {β : Nat} (h : Got w lo a xs) (hd : Dw β w w') (hβ : β < lo) : Got w' lo a xs := by
  obtain ⟨⟨h1, h2, h3⟩, h4⟩ := h
  refine ⟨⟨h1, h2, ?_⟩, h4⟩
  rcases h3 with h3 | ⟨b, o, rfl, hc⟩
  · exact .inl h3
  · refine .inr ⟨b, o, rfl, fun i hi => ?_⟩
    have h5 := hc i hi
    have := h4 _ rfl
    simp only at this
    rw [World.cell?_of_block (World.grownBy.block hd b (block_lt_of_cell h5) (by simp; omega))]
    exact h5

theorem Got.farNe {w w' : World} {lo : Nat} {a : Option Addr} {xs : List Nat} {β : Nat} (h : Got w lo a xs) (hd : Dw β w w') (hn : ∀ x, a = some x → x.block ≠ β) : Got w' lo a xs := by
  obtain ⟨⟨h1, h2, h3⟩, h4⟩ := h
  refine ⟨⟨h1, h2, ?_⟩, h4⟩
  rcases h3 with h3 | ⟨b, o, rfl, hc⟩
  · exact .inl h3
  · refine .inr ⟨b, o, rfl, fun i hi => ?_⟩
    have h5 := hc i hi
    have := hn _ rfl
    simp only at this
    rw [World.cell?_of_block (World.grownBy.block hd b (block_lt_of_cell h5) (by simpa using this))]
    exact h5

theorem Dw.undrew {β : Nat} {w w' : World} (h : Dw β w.drew w') : Dw β w w' := ⟨h.os, h.tape, h.output, h.size, h.block⟩

theorem Got.later {w w' : World} {lo : Nat} {a : Option Addr} {xs : List Nat} (h : Got w lo a xs) (hb : Below w.heap.size w w') : Got w' lo a xs := ⟨h.1.later hb, h.2⟩
theorem Got.mono {w : World} {lo lo' : Nat} {a : Option Addr} {xs : List Nat} (h : Got w lo a xs) (hl : lo' ≤ lo) : Got w lo' a xs := ⟨h.1, fun x e => Nat.le_trans hl (h.2 x e)⟩

theorem Blk.far {w w' : World} {γ β : Nat} {x y : Value} {t : TypeId} (h : Blk w γ x y t) (hd : Dw β w w') (hn : γ ≠ β) : Blk w' γ x y t := by
  unfold Blk
  rw [World.grownBy.block hd γ h.lt (by simpa using hn)]; exact h
theorem Own.far {w w' : World} {g β : Nat} {xs : List Nat} (h : Own w g xs) (hd : Dw β w w') (hn : g ≠ β) : Own w' g xs := by
  unfold Own
  rw [World.grownBy.block hd g h.lt (by simpa using hn)]; exact h

def OwU (w : World) (base : Nat) (v : Value) (xs : List Nat) : Prop := w.ownsRow base 101 1 v xs.length (u64s xs).toList

theorem Own.owU {w : World} {g base : Nat} {xs : List Nat} (h : Own w g xs) (hb : base ≤ g) (hl : xs.length ≤ 1048576) : OwU w base (.slice (some ⟨g, 0, none⟩) xs.length xs.length) xs :=
  ⟨by simp [u64s], .inr ⟨g, xs.length, u64s xs, rfl, hb, h, Nat.le_refl _, by unfold maxLen; omega, by simp [u64s], by simp [u64s, List.take_of_length_le]⟩⟩

theorem OwU.shape {w : World} {base : Nat} {v : Value} {xs : List Nat} (h : OwU w base v xs) (hl : xs.length ≤ 1048576) (hx : ∀ x ∈ xs, x < 18446744073709551616) :
    ∃ a c, v = .slice a xs.length c ∧ Got w base a xs ∧ ∀ x, a = some x → ∃ cur, w.heap[x.block]? = some (.cells cur 101 (0, 0)) := by
  obtain ⟨h1, ⟨rfl, h2⟩ | ⟨g, cap, cur, rfl, hg, hh, hc1, hc2, hsz, hcur⟩⟩ := h
  · have e := List.eq_nil_of_length_eq_zero h2
    subst e
    exact ⟨none, 0, rfl, ⟨⟨hl, hx, .inl rfl⟩, fun x e => by cases e⟩, fun x e => by cases e⟩
  · refine ⟨some ⟨g, 0, none⟩, cap, rfl, ⟨⟨hl, hx, .inr ⟨g, 0, rfl, fun i hi => ?_⟩⟩, fun x e => by cases e; exact hg⟩, fun x e => by cases e; exact ⟨cur, hh⟩⟩
    rw [Nat.zero_add, cell_of_row w g i cur _ _ hh]
    have h3 : (cur.toList.take (xs.length * 1))[i]? = (u64s xs).toList[i]? := by rw [hcur]
    rw [List.getElem?_take, if_pos (by omega)] at h3
    simp only [Array.getElem?_toList] at h3
    rw [h3, u64s_get _ _ hi]

/-- 'append(out, y)' of a word, out the call's own. -/
theorem wpList_appU (w : World) {ops : Array Oper} {rest : List Oper} {o : Oper} {a : Act} {Q : Exit → Act → World → Prop} (hgd : o.guard = none) (s x : Operand)
    (ho : o.op = .call { callee := .builtin .append, args := #[s, x], argTypes := #[28, 28] })
    (base : Nat) (v : Value) (xs : List Nat) (y : Nat) (hs : a.eval s = v) (hown : OwU w base v xs) (g : Nat) (hx : a.eval x = .slice (some ⟨g, 0, none⟩) 1 1)
    (hnew : w.cell? ⟨g, 0, none⟩ = some (.int .u64 (y : Int))) (hl : xs.length ≤ 1048576) (hbase : base ≤ w.heap.size)
    (h : ∀ v' w', OwU w' base v' (xs ++ [y]) → w.grownBy w' v.ownBlock → wpList Try.prog ops Q rest (a.put o.dst v') w') : wpList Try.prog ops Q (o :: rest) a w := by
  obtain ⟨i0, hi, hz0, hz1, hz2⟩ := info_parts Try.infoU64
  refine wpList_append_own w hgd s x 28 ho base 101 i0 (.int .u64 0) 1 8 Try.underlying28 hi hz0 hz1 hz2 rfl (by decide) v xs.length (u64s xs).toList hs hown ⟨g, 0, none⟩ 1 1 [.int .u64 (y : Int)] hx rfl ?_ ?_ ?_ ?_ hbase ?_
  · intro j u hj
    match j, hj with
    | 0, hj => simp at hj; subst hj; simpa [Addr.add] using hnew
  · intro u hu; simp at hu; subst hu; rfl
  · unfold maxLen; omega
  · omega
  · intro v' w' h1 h2 _
    refine h v' w' ?_ h2
    unfold OwU
    simpa [u64s] using h1

theorem wrap_small (y : Nat) (h : y = 0 ∨ y < 2) : IntKind.i64.wrap (4096 + (y : Int)) = 4096 + (y : Int) := by
  obtain rfl | rfl : y = 0 ∨ y = 1 := by omega
  · rfl
  · rfl

set_option maxHeartbeats 2000000 in
set_option maxRecDepth 100000 in
theorem odd_any (β : Nat) (a : Option Addr) (c : Nat) (bs : List Nat) (w : World) (hr : Rr w β a c bs) :
    Calls Try.prog 84 #[.pointer (some ⟨β, 0, none⟩)] w fun e w' => ∃ a' c' W xs,
      e = .returned (.agg #[.int .i64 W, .slice a' xs.length c']) ∧ 1 ≤ xs.length ∧ -9223372036854775808 ≤ W ∧ W ≤ 9223372036854775807 ∧ Got w' w.heap.size a' xs ∧ Rr w' β a c bs ∧ Dw β w w' := by
  go_enter Try.func84, Try.ntmps84
  go_wp2_with fail
  have hb1 : Below w.heap.size w (w.alloc (Obj.cells #[Value.int IntKind.i64 0, Value.slice none 0 0] 30)) := Ba (Below.refl _ _) _
  have hβ := hr.lt
  refine (wide_any β a c bs _ (hr.later hb1)).mono ?_
  rintro e w1 ⟨V, rfl, hV1, hV2, hr1, hd1⟩
  go_wp2_with fail
  refine (bits_any V hV1 (by omega) β a c bs _ hr1).mono ?_
  rintro e w2 ⟨a2, l, hl, hl1, rfl, hf2, hr2, hd2⟩
  have hd12 := hd1.trans hd2
  have hk2 : Blk w2 w.heap.size (.int .i64 0) (.slice none 0 0) 30 := by
    unfold Blk
    rw [World.grownBy.block hd12 w.heap.size (by simp) (by simp; omega), heap_alloc_new]
  have hd : Dw β w w2 := (Dw.of hb1).trans hd12
  have hpl : (pack l).length = (V + 63) / 64 := by rw [pack_len, hl]
  have hplt := pack_lt l
  generalize pack l = xs at *
  obtain ⟨g, rfl, hg1, ho2⟩ : ∃ g, a2 = some ⟨g, 0, none⟩ ∧ w.heap.size < g ∧ Own w2 g xs := by
    rcases hf2 with ⟨h, _⟩ | ⟨g, h1, hg, ho⟩
    · subst h; simp at hpl; omega
    · exact ⟨g, h1, by have := hd1.size; simp at this; omega, ho⟩
  have hgl := ho2.lt
  have HPL : Hid (xs.length = (V + 63) / 64) := hpl
  have n1 : 1 ≤ xs.length := by omega
  have n2 : xs.length ≤ 4 := by omega
  clear hf2 hb1 hd1 hd2 hd12 hr1 hl hl1 hpl
  go_wp2_with fail
  refine (below_any 30 (by omega) β a c bs _ (hr2.later ((Below.refl _ _).alloc (Nat.le_refl _) _))).mono ?_
  rintro e w3 ⟨m, rfl, hm, hr3, hd3⟩
  have hB3 : Blk w3 w2.heap.size (.int .i64 V) (.slice (some ⟨g, 0, none⟩) xs.length xs.length) 30 := hd3.row hr2.lt
  have hR3 : Blk w3 w.heap.size (.int .i64 0) (.slice none 0 0) 30 := (hk2.alloc _).far hd3 (by omega)
  have ho3 : Own w3 g xs := (ho2.later ((Below.refl _ _).alloc (Nat.le_refl _) _) hgl).far hd3 (by omega)
  have hd' : Dw β w w3 := (hd.alloc _).trans hd3
  have hRB : w.heap.size < w2.heap.size := hk2.lt
  have hB3l : w2.heap.size < w3.heap.size := hB3.lt
  clear hd hd3 ho2 hk2 hr2
  generalize w2.heap.size = B at *
  obtain ⟨b0, b1⟩ := hB3.cells
  obtain ⟨r0, r1⟩ := hR3.cells
  have fb0 : w3.frozen? ⟨B, 0, none⟩ = false := frozen_of_row w3 _ 0 _ _ hB3
  have fb1 : w3.frozen? ⟨B, 1, none⟩ = false := frozen_of_row w3 _ 1 _ _ hB3
  have fr0 : w3.frozen? ⟨w.heap.size, 0, none⟩ = false := frozen_of_row w3 _ 0 _ _ hR3
  have fr1 : w3.frozen? ⟨w.heap.size, 1, none⟩ = false := frozen_of_row w3 _ 1 _ _ hR3
  have hRl : w.heap.size < w3.heap.size := hR3.lt
  have hgB : ∀ (u : World), Own u g xs → Got u (w.heap.size + 1) (some ⟨g, 0, none⟩) xs := fun u hu => ⟨hu.rd (by omega) hplt, fun x e => by cases e; exact hg1⟩
  have HG : Hid _ := hgB
  clear hgB
  by_cases m0 : m = 0
  ·
    have e0 : ((m : Int) == 0) = true := by simp [m0]
    have e1 : ((m : Int) == 1) = false := by simp [m0]
    have e2 : ((m : Int) == 2) = false := by simp [m0]
    have e3 : ((m : Int) == 3) = false := by simp [m0]
    have e4 : ((m : Int) == 4) = false := by simp [m0]
    clear m0 hm
    go_wp2
    have gB : Dw B w3 (w3.setCell ⟨B, 0, none⟩ (Value.int IntKind.i64 ((V : Int) + 1))) := gsc _ _ _
    have gw : Dw w.heap.size (w3.setCell ⟨B, 0, none⟩ (Value.int IntKind.i64 ((V : Int) + 1))) (((w3.setCell ⟨B, 0, none⟩ (Value.int IntKind.i64 ((V : Int) + 1))).setCell ⟨w.heap.size, 0, none⟩ (.int .i64 ((V : Int) + 1))).setCell ⟨w.heap.size, 1, none⟩ (.slice (some ⟨g, 0, none⟩) xs.length xs.length)) := (gsc _ ⟨w.heap.size, 0, none⟩ _).trans (gsc _ ⟨w.heap.size, 1, none⟩ _)
    have gh : ∀ q, some w.heap.size = some q → w.heap.size ≤ q := fun q e => by cases e; exact Nat.le_refl _
    obtain ⟨d0, d1⟩ := ((hR3.far gB (by omega)).put0 (Value.int IntKind.i64 ((V : Int) + 1)) |>.put1 (Value.slice (some ⟨g, 0, none⟩) xs.length xs.length)).cells
    exact bodyPost_ret (v := .agg #[.int .i64 ((V : Int) + 1), .slice (some ⟨g, 0, none⟩) xs.length xs.length]) (by simp [results, Try.results84, go_sem, d0, d1]) rfl ⟨_, _, ((V : Int) + 1), xs, rfl, n1, by omega, by omega, ((HG.out _ (ho3.far gB (by omega))).far gw (Nat.lt_succ_self _)).mono (Nat.le_succ _), hr.far (hr.far hr3 gB (fun q e => by cases e; omega)) gw gh, (hd'.own gB (fun q e => by cases e; omega)).own gw gh⟩
  by_cases m1 : m = 1
  ·
    have e0 : ((m : Int) == 0) = false := by simp [m1]
    have e1 : ((m : Int) == 1) = true := by simp [m1]
    have e2 : ((m : Int) == 2) = false := by simp [m1]
    have e3 : ((m : Int) == 3) = false := by simp [m1]
    have e4 : ((m : Int) == 4) = false := by simp [m1]
    clear m0 m1 hm
    have hou := ho3.owU (base := w.heap.size + 1) hg1 (by omega)
    go_wp2_with (at_builtin; refine wpList_appU _ rfl _ _ rfl (w.heap.size + 1) _ xs 0 rfl (World.ownsRow.alloc hou _) w3.heap.size rfl (by simp) (by omega) (by simp; omega) ?_)
    intro v4 w4 hou4 hgr4
    replace hgr4 : Dw g (w3.alloc (Obj.cells #[Value.int IntKind.u64 0] 101)) w4 := hgr4
    have hB4 := (hB3.alloc _).far hgr4 (by omega)
    have hR4 := (hR3.alloc _).far hgr4 (by omega)
    have hr4 := hr.far (hr3.later ((Below.refl _ _).alloc (Nat.le_refl _) _)) hgr4 (fun q e => by cases e; omega)
    have hdd := (hd'.alloc _).own hgr4 (fun q e => by cases e; omega)
    obtain ⟨a4, c4, rfl, hgot, hty⟩ := hou4.shape (by simp; omega) (fun x hx => by
      rcases List.mem_append.1 hx with h | h
      · exact hplt x h
      · simp at h; omega)
    have hne : ∀ x, a4 = some x → x.block ≠ B := fun x e he => by
      obtain ⟨cur, hc⟩ := hty x e
      unfold Blk at hB4
      rw [he, hB4] at hc
      simp at hc
    have hl4 : B < w4.heap.size := hB4.lt
    have hRl4 : w.heap.size < w4.heap.size := hR4.lt
    clear b0 b1 r0 r1 fb0 fb1 fr0 fr1 hB3 hR3 ho3 hr3 hd' hgr4 hou hou4 hty hB3l hRl
    obtain ⟨b0, b1⟩ := hB4.cells
    obtain ⟨r0, r1⟩ := hR4.cells
    have fb1 : w4.frozen? ⟨B, 1, none⟩ = false := frozen_of_row w4 _ 1 _ _ hB4
    have fr0 : w4.frozen? ⟨w.heap.size, 0, none⟩ = false := frozen_of_row w4 _ 0 _ _ hR4
    have fr1 : w4.frozen? ⟨w.heap.size, 1, none⟩ = false := frozen_of_row w4 _ 1 _ _ hR4
    generalize hzs : xs ++ [0] = zs at *
    have hzl : 1 ≤ zs.length := by rw [← hzs]; simp
    clear hzs
    go_wp2
    have gB : Dw B w4 (w4.setCell ⟨B, 1, none⟩ (Value.slice a4 zs.length c4)) := gsc _ _ _
    have gw : Dw w.heap.size (w4.setCell ⟨B, 1, none⟩ (Value.slice a4 zs.length c4)) (((w4.setCell ⟨B, 1, none⟩ (Value.slice a4 zs.length c4)).setCell ⟨w.heap.size, 0, none⟩ (.int .i64 (V : Int))).setCell ⟨w.heap.size, 1, none⟩ (.slice a4 zs.length c4)) := (gsc _ ⟨w.heap.size, 0, none⟩ _).trans (gsc _ ⟨w.heap.size, 1, none⟩ _)
    have gh : ∀ q, some w.heap.size = some q → w.heap.size ≤ q := fun q e => by cases e; exact Nat.le_refl _
    obtain ⟨d0, d1⟩ := ((hR4.far gB (by omega)).put0 (Value.int IntKind.i64 (V : Int)) |>.put1 (Value.slice a4 zs.length c4)).cells
    exact bodyPost_ret (v := .agg #[.int .i64 (V : Int), .slice a4 zs.length c4]) (by simp [results, Try.results84, go_sem, d0, d1]) rfl ⟨_, _, (V : Int), zs, rfl, hzl, by omega, by omega, ((hgot.farNe gB hne).far gw (Nat.lt_succ_self _)).mono (Nat.le_succ _), hr.far (hr.far hr4 gB (fun q e => by cases e; omega)) gw gh, (hdd.own gB (fun q e => by cases e; omega)).own gw gh⟩
  by_cases m2 : m = 2
  ·
    have e0 : ((m : Int) == 0) = false := by simp [m2]
    have e1 : ((m : Int) == 1) = false := by simp [m2]
    have e2 : ((m : Int) == 2) = true := by simp [m2]
    have e3 : ((m : Int) == 3) = false := by simp [m2]
    have e4 : ((m : Int) == 4) = false := by simp [m2]
    clear m0 m1 m2 hm
    obtain ⟨n, hn⟩ : ∃ n, xs.length = n + 1 := ⟨xs.length - 1, by omega⟩
    have hn3 : n ≤ 3 := by omega
    have hwr : IntKind.i64.wrap (n : Int) = (n : Int) := by
      match n, hn3 with
      | 0, _ => rfl
      | 1, _ => rfl
      | 2, _ => rfl
      | 3, _ => rfl
    have hi0 : (0 : Int) ≤ (n : Int) := by omega
    have hi1 : (n : Int) < (n : Int) + 1 := by omega
    go_wp2_with fail
    go_region_held3 (fun u => u.cell? ⟨B, 1, none⟩ = some (Value.slice (some { block := g, off := 0 }) (n + 1) (n + 1))) (first | assumption | (rw [World.cell?_setCell_far _ _ _ _ (by simp <;> omega)]; assumption) | simp [*])
      ((go_at_call 83; refine (word_any β a c bs _ ?_).mono ?_; exact hr3; rintro e w4 ⟨y, rfl, hy, hr4, hd4⟩; replace hd4 := hd4.undrew; have hB4 := hB3.far hd4 (by omega); have hR4 := hR3.far hd4 (by omega); have ho4 := ho3.far hd4 (by omega); obtain ⟨b40, b41⟩ := hB4.cells; obtain ⟨r40, r41⟩ := hR4.cells; have hc4 := ho4.cell (i := n) (by omega); have hf4 := ho4.free n; generalize xs.getD n 0 = x0 at hc4; have fr40 : w4.frozen? ⟨w.heap.size, 0, none⟩ = false := frozen_of_row w4 _ 0 _ _ hR4; have fr41 : w4.frozen? ⟨w.heap.size, 1, none⟩ = false := frozen_of_row w4 _ 1 _ _ hR4))
    have hdd := hd'.trans hd4
    go_wp2
    have gB : Dw g w4 (w4.setCell ⟨g, n, none⟩ (Value.int IntKind.u64 y)) := gsc _ _ _
    have hgo : Got (w4.setCell ⟨g, n, none⟩ (Value.int IntKind.u64 y)) (w.heap.size + 1) (some ⟨g, 0, none⟩) (xs.set n y) := ⟨(ho4.put n y).rd (by simp; omega) (fun x hx => by
      rcases List.mem_or_eq_of_mem_set hx with h | h
      · exact hplt x h
      · rw [h]; exact hy), fun x e => by cases e; exact hg1⟩
    have gw : Dw w.heap.size (w4.setCell ⟨g, n, none⟩ (Value.int IntKind.u64 y)) (((w4.setCell ⟨g, n, none⟩ (Value.int IntKind.u64 y)).setCell ⟨w.heap.size, 0, none⟩ (.int .i64 (V : Int))).setCell ⟨w.heap.size, 1, none⟩ (.slice (some ⟨g, 0, none⟩) (n + 1) (n + 1))) := (gsc _ ⟨w.heap.size, 0, none⟩ _).trans (gsc _ ⟨w.heap.size, 1, none⟩ _)
    have gh : ∀ q, some w.heap.size = some q → w.heap.size ≤ q := fun q e => by cases e; exact Nat.le_refl _
    obtain ⟨d0, d1⟩ := ((hR4.far gB (by omega)).put0 (Value.int IntKind.i64 (V : Int)) |>.put1 (Value.slice (some ⟨g, 0, none⟩) (n + 1) (n + 1))).cells
    exact bodyPost_ret (v := .agg #[.int .i64 (V : Int), .slice (some ⟨g, 0, none⟩) (n + 1) (n + 1)]) (by simp [results, Try.results84, go_sem, d0, d1]) rfl ⟨_, _, (V : Int), xs.set n y, by rw [List.length_set, hn], by rw [List.length_set]; exact n1, by omega, by omega, ((hgo).far gw (Nat.lt_succ_self _)).mono (Nat.le_succ _), hr.far (hr.far hr4 gB (fun q e => by cases e; omega)) gw gh, (hdd.own gB (fun q e => by cases e; omega)).own gw gh⟩
  by_cases m3 : m = 3
  ·
    have e0 : ((m : Int) == 0) = false := by simp [m3]
    have e1 : ((m : Int) == 1) = false := by simp [m3]
    have e2 : ((m : Int) == 2) = false := by simp [m3]
    have e3 : ((m : Int) == 3) = true := by simp [m3]
    have e4 : ((m : Int) == 4) = false := by simp [m3]
    clear m0 m1 m2 m3 hm
    go_wp2_with fail
    refine (off_any 0 4096 (by omega) (by omega) β a c bs _ hr3).mono ?_
    rintro e w4 ⟨y, rfl, hy1, hy2, hr4, hd4⟩
    have hB4 := hB3.far hd4 (by omega)
    have hR4 := hR3.far hd4 (by omega)
    have ho4 := ho3.far hd4 (by omega)
    have hdd := hd'.trans hd4
    clear b0 b1 r0 r1 fb0 fb1 fr0 fr1 hB3 hR3 ho3 hr3 hd' hd4
    obtain ⟨b0, b1⟩ := hB4.cells
    obtain ⟨r0, r1⟩ := hR4.cells
    have fb0 : w4.frozen? ⟨B, 0, none⟩ = false := frozen_of_row w4 _ 0 _ _ hB4
    have fr0 : w4.frozen? ⟨w.heap.size, 0, none⟩ = false := frozen_of_row w4 _ 0 _ _ hR4
    have fr1 : w4.frozen? ⟨w.heap.size, 1, none⟩ = false := frozen_of_row w4 _ 1 _ _ hR4
    go_wp2
    have gB : Dw B w4 (w4.setCell ⟨B, 0, none⟩ (Value.int IntKind.i64 y)) := gsc _ _ _
    have gw : Dw w.heap.size (w4.setCell ⟨B, 0, none⟩ (Value.int IntKind.i64 y)) (((w4.setCell ⟨B, 0, none⟩ (Value.int IntKind.i64 y)).setCell ⟨w.heap.size, 0, none⟩ (.int .i64 y)).setCell ⟨w.heap.size, 1, none⟩ (.slice (some ⟨g, 0, none⟩) xs.length xs.length)) := (gsc _ ⟨w.heap.size, 0, none⟩ _).trans (gsc _ ⟨w.heap.size, 1, none⟩ _)
    have gh : ∀ q, some w.heap.size = some q → w.heap.size ≤ q := fun q e => by cases e; exact Nat.le_refl _
    obtain ⟨d0, d1⟩ := ((hR4.far gB (by omega)).put0 (Value.int IntKind.i64 y) |>.put1 (Value.slice (some ⟨g, 0, none⟩) xs.length xs.length)).cells
    exact bodyPost_ret (v := .agg #[.int .i64 y, .slice (some ⟨g, 0, none⟩) xs.length xs.length]) (by simp [results, Try.results84, go_sem, d0, d1]) rfl ⟨_, _, y, xs, rfl, n1, by omega, by omega, ((HG.out _ (ho4.far gB (by omega))).far gw (Nat.lt_succ_self _)).mono (Nat.le_succ _), hr.far (hr.far hr4 gB (fun q e => by cases e; omega)) gw gh, (hdd.own gB (fun q e => by cases e; omega)).own gw gh⟩
  by_cases m4 : m = 4
  ·
    have e0 : ((m : Int) == 0) = false := by simp [m4]
    have e1 : ((m : Int) == 1) = false := by simp [m4]
    have e2 : ((m : Int) == 2) = false := by simp [m4]
    have e3 : ((m : Int) == 3) = false := by simp [m4]
    have e4 : ((m : Int) == 4) = true := by simp [m4]
    clear m0 m1 m2 m3 m4 hm
    have hmk := fun kl kc w => run_make_row' (P := Try.prog) 28 101 (.int .u64 0) 8 Try.underlying28 Try.infoU64 rfl kl kc 64 (by omega) (by omega) w
    change ∀ kl kc w, Sem.run Try.prog (Instr.makeSlice 28 (.int kl 64) (.int kc 64)) w = _ at hmk
    go_wp2_with fail
    have hr3d : Rr w3.drew β a c bs := hr3
    have hB3d : Blk w3.drew B (Value.int IntKind.i64 V) (Value.slice (some ⟨g, 0, none⟩) xs.length xs.length) 30 := hB3
    have hR3d : Blk w3.drew w.heap.size (Value.int IntKind.i64 0) (Value.slice none 0 0) 30 := hR3
    have hdd : Dw β w w3.drew := hd'.drew
    go_region_with (first
      | (go_at_call 79; refine (below_any 2 (by omega) β a c bs _ ?_).mono ?_; exact hr3d; rintro e w4 ⟨y, rfl, hy, hr4, hd4⟩; have hB4 := hB3d.far hd4 (by omega); have hR4 := hR3d.far hd4 (by omega); obtain ⟨b40, b41⟩ := hB4.cells; obtain ⟨r40, r41⟩ := hR4.cells; have fb40 : w4.frozen? ⟨B, 0, none⟩ = false := frozen_of_row w4 _ 0 _ _ hB4; have fb41 : w4.frozen? ⟨B, 1, none⟩ = false := frozen_of_row w4 _ 1 _ _ hB4; have fr40 : w4.frozen? ⟨w.heap.size, 0, none⟩ = false := frozen_of_row w4 _ 0 _ _ hR4; have fr41 : w4.frozen? ⟨w.heap.size, 1, none⟩ = false := frozen_of_row w4 _ 1 _ _ hR4; have lB4 := hB4.lt; have lR4 := hR4.lt; have hwy := wrap_small y hy)
      | (go_at_call 79; refine (below_any 2 (by omega) β a c bs _ ?_).mono ?_; exact hr3d.later ((Below.refl _ _).alloc (Nat.le_refl _) _); rintro e w4 ⟨y, rfl, hy, hr4, hd4⟩; have hB4 := (hB3d.alloc _).far hd4 (by omega); have hR4 := (hR3d.alloc _).far hd4 (by omega); obtain ⟨b40, b41⟩ := hB4.cells; obtain ⟨r40, r41⟩ := hR4.cells; have fb40 : w4.frozen? ⟨B, 0, none⟩ = false := frozen_of_row w4 _ 0 _ _ hB4; have fb41 : w4.frozen? ⟨B, 1, none⟩ = false := frozen_of_row w4 _ 1 _ _ hB4; have fr40 : w4.frozen? ⟨w.heap.size, 0, none⟩ = false := frozen_of_row w4 _ 0 _ _ hR4; have fr41 : w4.frozen? ⟨w.heap.size, 1, none⟩ = false := frozen_of_row w4 _ 1 _ _ hR4; have lB4 := hB4.lt; have lR4 := hR4.lt; have hwy := wrap_small y hy))
    all_goals clear hmk b0 b1 r0 r1 fb0 fb1 fr0 fr1
    · -- the draw first
      have gB : Dw B w4 ((w4.setCell ⟨B, 0, none⟩ (Value.int IntKind.i64 (4096 + (y : Int)))).setCell ⟨B, 1, none⟩ (Value.slice (some ⟨w4.heap.size, 0, none⟩) 64 64)) := (gsc _ ⟨B, 0, none⟩ _).trans (gsc _ ⟨B, 1, none⟩ _)
      have gw : Dw w.heap.size ((w4.setCell ⟨B, 0, none⟩ (Value.int IntKind.i64 (4096 + (y : Int)))).setCell ⟨B, 1, none⟩ (Value.slice (some ⟨w4.heap.size, 0, none⟩) 64 64)) ((((w4.setCell ⟨B, 0, none⟩ (Value.int IntKind.i64 (4096 + (y : Int)))).setCell ⟨B, 1, none⟩ (Value.slice (some ⟨w4.heap.size, 0, none⟩) 64 64)).setCell ⟨w.heap.size, 0, none⟩ (.int .i64 (4096 + (y : Int)))).setCell ⟨w.heap.size, 1, none⟩ (.slice (some ⟨w4.heap.size, 0, none⟩) 64 64)) := (gsc _ ⟨w.heap.size, 0, none⟩ _).trans (gsc _ ⟨w.heap.size, 1, none⟩ _)
      have gh : ∀ q, some w.heap.size = some q → w.heap.size ≤ q := fun q e => by cases e; exact Nat.le_refl _
      have hRX := ((((hR4.far gB (by omega)).put0 (Value.int IntKind.i64 (4096 + (y : Int)))).put1 (Value.slice (some ⟨w4.heap.size, 0, none⟩) 64 64)).alloc (Obj.cells (madeCells #[Value.int IntKind.u64 0] 64) 101)).cells
      have hrX := (hr.far (hr.far hr4 gB (fun q e => by cases e; omega)) gw gh).later ((Below.refl _ _).alloc (Nat.le_refl _) (Obj.cells (madeCells #[Value.int IntKind.u64 0] 64) 101))
      have hdX := (((hdd.trans hd4).own gB (fun q e => by cases e; omega)).own gw gh).alloc (Obj.cells (madeCells #[Value.int IntKind.u64 0] 64) 101)
      have ho4 : Own (((((w4.setCell ⟨B, 0, none⟩ (Value.int IntKind.i64 (4096 + (y : Int)))).setCell ⟨B, 1, none⟩ (Value.slice (some ⟨w4.heap.size, 0, none⟩) 64 64)).setCell ⟨w.heap.size, 0, none⟩ (.int .i64 (4096 + (y : Int)))).setCell ⟨w.heap.size, 1, none⟩ (.slice (some ⟨w4.heap.size, 0, none⟩) 64 64)).alloc (Obj.cells (madeCells #[Value.int IntKind.u64 0] 64) 101)) w4.heap.size (List.replicate 64 0) := by
        unfold Own
        rw [← u64s_made]
        have h := heap_alloc_new ((((w4.setCell ⟨B, 0, none⟩ (Value.int IntKind.i64 (4096 + (y : Int)))).setCell ⟨B, 1, none⟩ (Value.slice (some ⟨w4.heap.size, 0, none⟩) 64 64)).setCell ⟨w.heap.size, 0, none⟩ (.int .i64 (4096 + (y : Int)))).setCell ⟨w.heap.size, 1, none⟩ (.slice (some ⟨w4.heap.size, 0, none⟩) 64 64)) (Obj.cells (madeCells #[Value.int IntKind.u64 0] 64) 101)
        simpa using h
      have hgo : Got (((((w4.setCell ⟨B, 0, none⟩ (Value.int IntKind.i64 (4096 + (y : Int)))).setCell ⟨B, 1, none⟩ (Value.slice (some ⟨w4.heap.size, 0, none⟩) 64 64)).setCell ⟨w.heap.size, 0, none⟩ (.int .i64 (4096 + (y : Int)))).setCell ⟨w.heap.size, 1, none⟩ (.slice (some ⟨w4.heap.size, 0, none⟩) 64 64)).alloc (Obj.cells (madeCells #[Value.int IntKind.u64 0] 64) 101)) w.heap.size (some ⟨w4.heap.size, 0, none⟩) (List.replicate 64 0) := ⟨ho4.rd (by simp) (fun x hx => by simp at hx; omega), fun x e => by cases e; exact Nat.le_of_lt lR4⟩
      obtain ⟨d0, d1⟩ := hRX
      have HD0 : Hid _ := d0
      have HD1 : Hid _ := d1
      have HX : Hid (_ ∧ _ ∧ _) := ⟨hgo, hrX, hdX⟩
      clear hgo hrX hdX ho4 gB gw d0 d1 hd4 hr4 hdd hd'
      go_wp2
      have d0 := HD0.out
      have d1 := HD1.out
      exact bodyPost_ret (v := .agg #[.int .i64 (4096 + (y : Int)), .slice (some ⟨w4.heap.size, 0, none⟩) 64 64]) (by simp [results, Try.results84, go_sem, d0, d1]) rfl ⟨_, 64, (4096 + (y : Int)), List.replicate 64 0, by simp, by simp, by omega, by omega, HX.out⟩
    · -- the row first
      have ho4 : Own w4 w3.heap.size (List.replicate 64 0) := by
        unfold Own
        rw [← u64s_made]; exact hd4.undrew.row hr3.lt
      have gB : Dw B w4 ((w4.setCell ⟨B, 0, none⟩ (Value.int IntKind.i64 (4096 + (y : Int)))).setCell ⟨B, 1, none⟩ (Value.slice (some ⟨w3.heap.size, 0, none⟩) 64 64)) := (gsc _ ⟨B, 0, none⟩ _).trans (gsc _ ⟨B, 1, none⟩ _)
      have hgo : Got ((w4.setCell ⟨B, 0, none⟩ (Value.int IntKind.i64 (4096 + (y : Int)))).setCell ⟨B, 1, none⟩ (Value.slice (some ⟨w3.heap.size, 0, none⟩) 64 64)) (w.heap.size + 1) (some ⟨w3.heap.size, 0, none⟩) (List.replicate 64 0) := ⟨(ho4.far gB (by omega)).rd (by simp) (fun x hx => by simp at hx; omega), fun x e => by cases e; exact hRl⟩
      have hRX := hR4.far gB (by omega)
      have hrX := hr.far hr4 gB (fun q e => by cases e; omega)
      have hdX := ((hd'.alloc _).trans hd4.undrew).own gB (fun q e => by cases e; omega)
      go_wp2
      have gw : Dw w.heap.size ((w4.setCell ⟨B, 0, none⟩ (Value.int IntKind.i64 (4096 + (y : Int)))).setCell ⟨B, 1, none⟩ (Value.slice (some ⟨w3.heap.size, 0, none⟩) 64 64)) ((((w4.setCell ⟨B, 0, none⟩ (Value.int IntKind.i64 (4096 + (y : Int)))).setCell ⟨B, 1, none⟩ (Value.slice (some ⟨w3.heap.size, 0, none⟩) 64 64)).setCell ⟨w.heap.size, 0, none⟩ (.int .i64 (4096 + (y : Int)))).setCell ⟨w.heap.size, 1, none⟩ (.slice (some ⟨w3.heap.size, 0, none⟩) 64 64)) := (gsc _ ⟨w.heap.size, 0, none⟩ _).trans (gsc _ ⟨w.heap.size, 1, none⟩ _)
      have gh : ∀ q, some w.heap.size = some q → w.heap.size ≤ q := fun q e => by cases e; exact Nat.le_refl _
      obtain ⟨d0, d1⟩ := ((hRX).put0 (Value.int IntKind.i64 (4096 + (y : Int))) |>.put1 (Value.slice (some ⟨w3.heap.size, 0, none⟩) 64 64)).cells
      exact bodyPost_ret (v := .agg #[.int .i64 (4096 + (y : Int)), .slice (some ⟨w3.heap.size, 0, none⟩) 64 64]) (by simp [results, Try.results84, go_sem, d0, d1]) rfl ⟨_, 64, (4096 + (y : Int)), List.replicate 64 0, by simp, by simp, by omega, by omega, ((hgo).far gw (Nat.lt_succ_self _)).mono (Nat.le_succ _), hr.far (hrX) gw gh, (hdX).own gw gh⟩
  have e0 : ((m : Int) == 0) = false := by simp; omega
  have e1 : ((m : Int) == 1) = false := by simp; omega
  have e2 : ((m : Int) == 2) = false := by simp; omega
  have e3 : ((m : Int) == 3) = false := by simp; omega
  have e4 : ((m : Int) == 4) = false := by simp; omega
  clear m0 m1 m2 m3 m4 hm
  go_wp2
  have gw : Dw w.heap.size (w3) (((w3).setCell ⟨w.heap.size, 0, none⟩ (.int .i64 (V : Int))).setCell ⟨w.heap.size, 1, none⟩ (.slice (some ⟨g, 0, none⟩) xs.length xs.length)) := (gsc _ ⟨w.heap.size, 0, none⟩ _).trans (gsc _ ⟨w.heap.size, 1, none⟩ _)
  have gh : ∀ q, some w.heap.size = some q → w.heap.size ≤ q := fun q e => by cases e; exact Nat.le_refl _
  obtain ⟨d0, d1⟩ := ((hR3).put0 (Value.int IntKind.i64 (V : Int)) |>.put1 (Value.slice (some ⟨g, 0, none⟩) xs.length xs.length)).cells
  exact bodyPost_ret (v := .agg #[.int .i64 (V : Int), .slice (some ⟨g, 0, none⟩) xs.length xs.length]) (by simp [results, Try.results84, go_sem, d0, d1]) rfl ⟨_, _, (V : Int), xs, rfl, n1, by omega, by omega, ((HG.out _ ho3).far gw (Nat.lt_succ_self _)).mono (Nat.le_succ _), hr.far (hr3) gw gh, (hd').own gw gh⟩

end Go.Proofs.Ytpmpipcpifmncaa

/- Draws of words: the readers begun, one word, two words. -/
namespace Go.Proofs.Ytpmpipcpifmncaa
set_option linter.unusedVariables false
set_option linter.unusedSimpArgs false
open Go.RowKit

theorem open_any (a : Option Addr) (c : Nat) (bs : List Nat) (w : World) (h : RdB w a bs) :
    Calls Try.prog 57 #[.slice a bs.length c] w fun e w' => ∃ β, e = .returned (.pointer (some ⟨β, 0, none⟩)) ∧ w.heap.size ≤ β ∧ Rr w' β a c bs ∧ Below w.heap.size w w' := by
  have hl := h.1
  go_enter Try.func57, Try.ntmps57
  go_wp2
  go_ret
  refine ⟨w.heap.size, rfl, Nat.le_refl _, ⟨0, Nat.zero_le _, Blk.new _ _ _ _, h.later (Ba (Below.refl _ _) _), fun x e hb => ?_⟩, Ba (Below.refl _ _) _⟩
  obtain ⟨-, -, h | ⟨b, o, rfl, hc⟩⟩ := h
  · exact absurd h hb
  · cases e
    have := block_lt_of_cell (hc 0 (List.length_pos_iff.2 hb))
    simp at this ⊢
    omega

/-- What a draw of a word answers. -/
def RetD (w : World) (e : Ending) (w' : World) : Prop :=
  ∃ a' c' W xs, e = .returned (.agg #[.int .i64 W, .slice a' xs.length c']) ∧ -9223372036854775808 ≤ W ∧ W ≤ 9223372036854775807 ∧ Got w' w.heap.size a' xs ∧ Below w.heap.size w w'


end Go.Proofs.Ytpmpipcpifmncaa

/- Contracts of the laws' big and sameBits. -/
namespace Go.Proofs.Ytpmpipcpifmncaa
set_option linter.unusedVariables false
set_option linter.unusedSimpArgs false
open Go.RowKit

theorem big_any (a : Option Addr) (n c : Nat) (w : World) (hn : n ≤ 9223372036854775807) :
    Calls Try.prog 23 #[.slice a n c] w fun e w' => e = .returned (.bool (decide (1048576 < n))) ∧ w' = w := by
  by_cases h : 1048576 < n
  · have hi : (1048576 : Int) < (n : Int) := by omega
    go_enter Try.func23, Try.ntmps23
    go_wp2
    go_ret
    exact ⟨by simp [h], rfl⟩
  · have hi : ¬ (1048576 : Int) < (n : Int) := by omega
    go_enter Try.func23, Try.ntmps23
    go_wp2
    go_ret
    exact ⟨by simp [h], rfl⟩

set_option maxHeartbeats 1000000 in
set_option maxRecDepth 100000 in
theorem same_any (V W : Int) (a b : Option Addr) (c d : Nat) (xs ys : List Nat) (w : World) (hr : Rd w a xs) (hs : Rd w b ys) :
    Calls Try.prog 28 #[.agg #[.int .i64 V, .slice a xs.length c], .agg #[.int .i64 W, .slice b ys.length d]] w fun e w' => e = .returned (.bool (decide (V = W ∧ xs = ys))) ∧ Below w.heap.size w w' := by
  have h2 : Below w.heap.size w ((w.alloc (Obj.cells #[Value.int IntKind.i64 V, Value.slice a xs.length c] 30)).alloc (Obj.cells #[Value.int IntKind.i64 W, Value.slice b ys.length d] 30)) := Ba (Ba (Below.refl _ _) _) _
  have hl1 := hr.1
  have hl2 := hs.1
  by_cases hV : V = W
  · have hne : (V != W) = false := by simp [hV]
    have HV : Hid (V = W) := hV
    clear hV
    by_cases hl : xs.length = ys.length
    · have hnl : ((xs.length : Int) != (ys.length : Int)) = false := by simp [hl]
      have HL : Hid (xs.length = ys.length) := hl
      clear hl
      go_enter Try.func28, Try.ntmps28
      go_wp2
      clear hne hnl
      have bB0 := Blk.new1 w (Obj.cells #[Value.int IntKind.i64 V, Value.slice a xs.length c] 30) (Value.int IntKind.i64 W) (Value.slice b ys.length d) 30
      have bA0 := (Blk.new w (Value.int IntKind.i64 V) (Value.slice a xs.length c) 30).alloc (Obj.cells #[Value.int IntKind.i64 W, Value.slice b ys.length d] 30)
      generalize (w.alloc (Obj.cells #[Value.int IntKind.i64 V, Value.slice a xs.length c] 30)).alloc (Obj.cells #[Value.int IntKind.i64 W, Value.slice b ys.length d] 30) = w0 at *
      have h2' : Hid (Below w.heap.size w w0) := h2
      have hr' := hr.later h2
      have hs' := hs.later h2
      go_loopw [5] (fun i wr => ∃ k : Nat, k ≤ xs.length ∧ i = .int .i64 k ∧ (∀ j, j < k → xs.getD j 0 = ys.getD j 0) ∧ Below w0.heap.size w0 wr) (fun i _ => xs.length - (intOf i).toNat)
      case atStart => exact ⟨0, Nat.zero_le _, rfl, fun j h => by omega, Below.refl _ _⟩
      case round =>
        obtain ⟨k, hk, rfl, hz, hbel⟩ := hrel
        have HZ := show Hid _ from hz
        have HB := show Hid _ from hbel
        obtain ⟨k0, k1⟩ := (bA0.next hbel).cells
        obtain ⟨l0, l1⟩ := (bB0.next hbel).cells
        by_cases hlt : k < xs.length
        · obtain ⟨-, -, h | ⟨b1, o1, rfl, hc1⟩⟩ := hr'
          · subst h; simp at hlt
          have hlt2 : k < ys.length := by have := HL.out; omega
          obtain ⟨-, -, h | ⟨b2, o2, rfl, hc2⟩⟩ := hs'
          · subst h; simp at hlt2
          have e1 := hc1 k hlt
          have e2 := hc2 k hlt2
          have f1 : wr.cell? ⟨b1, o1 + k, none⟩ = some (.int .u64 ((xs.getD k 0 : Nat) : Int)) := by rw [hbel.cell (by exact block_lt_of_cell e1)]; exact e1
          have f2 : wr.cell? ⟨b2, o2 + k, none⟩ = some (.int .u64 ((ys.getD k 0 : Nat) : Int)) := by rw [hbel.cell (by exact block_lt_of_cell e2)]; exact e2
          have hxe : decide (xs = ys) = false ∨ xs.getD k 0 = ys.getD k 0 := by
            by_cases h : xs = ys
            · exact .inr (by rw [h])
            · exact .inl (by simp [h])
          clear hc1 hc2 hz hbel e1 e2 hr hs h2 bA0 bB0
          have i0 : (k : Int) < (xs.length : Int) := by omega
          have i1 : (k : Int) < (ys.length : Int) := by omega
          generalize hx1 : xs.getD k 0 = x1 at *
          generalize hy1 : ys.getD k 0 = y1 at *
          have HX : Hid (xs.getD k 0 = x1) := hx1
          have HY : Hid (ys.getD k 0 = y1) := hy1
          clear hx1 hy1
          by_cases hxy : x1 = y1
          · have hb : ((x1 : Int) != (y1 : Int)) = false := by simp [hxy]
            have HE : Hid (x1 = y1) := hxy
            clear hxe hxy
            go_wp2_with fail
            go_quiet (fail)
            go_wp2
            go_roundw
            case rel =>
              refine ⟨k + 1, by omega, by go_num, fun j hj => ?_, below_drewN HB.out _⟩
              by_cases hj' : j = k
              · rw [hj', HX.out, HY.out]; exact HE.out
              · exact HZ.out j (by omega)
            case measure => simp [intOf]; omega
          · have hb : ((x1 : Int) != (y1 : Int)) = true := by simp; omega
            have HE : Hid (decide (xs = ys) = false) := by
              rcases hxe with h | h
              · exact h
              · exact absurd h hxy
            clear hxe hxy
            go_wp2_with fail
            go_quiet (fail)
            go_wp2
            go_ret
            refine ⟨ret_bool ?_, below_drewN (h2'.out.trans (HB.out.mono h2'.out.size)) _⟩
            have := HE.out
            simp at this
            simp [this]
        · clear hz hbel
          go_wp2
          go_ret
          refine ⟨ret_bool ?_, h2'.out.trans (HB.out.mono h2'.out.size)⟩
          have he : xs = ys := by
            refine List.ext_getElem HL.out fun j h1 h2 => ?_
            have := HZ.out j (by omega)
            simpa [List.getD, h1, h2] using this
          simp [he, HV.out]
    · have hnl : ((xs.length : Int) != (ys.length : Int)) = true := by simp; omega
      have hx : xs ≠ ys := fun h => hl (by rw [h])
      clear hl
      go_enter Try.func28, Try.ntmps28
      go_wp2
      go_ret
      exact ⟨ret_bool (by simp [hx]), h2⟩
  · have hne : (V != W) = true := by simp [hV]
    go_enter Try.func28, Try.ntmps28
    go_wp2
    go_ret
    exact ⟨ret_bool (by simp [hV]), h2⟩

end Go.Proofs.Ytpmpipcpifmncaa
