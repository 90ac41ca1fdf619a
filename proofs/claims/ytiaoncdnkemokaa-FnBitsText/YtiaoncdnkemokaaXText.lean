/- The law FnBitsText returns true, whatever it is handed. -/
import Derived.Test.YtiaoncdnkemokaaFA2
import Derived.Test.YtiaoncdnkemokaaFB
import Derived.Test.YtiaoncdnkemokaaRT
namespace Go.Proofs.Ytiaoncdnkemokaa
set_option linter.unusedVariables false
set_option linter.unusedSimpArgs false
open Go.RowKit

theorem RetB.yes2 {w w' : World} {W : Int} {ys : List Nat} {e : Ending} (h : RetB w (W, ys, true) e w') (hl : ys.length ≤ 1048576) (hy : ∀ x ∈ ys, x < 18446744073709551616) :
    ∃ a c, e = .returned (.tuple #[.agg #[.int .i64 W, .slice a ys.length c], .bool true]) ∧ Got w' w.heap.size a ys ∧ Below w.heap.size w w' := by
  obtain ⟨a, c, he, hf, hb⟩ := h
  exact ⟨a, c, he, hf.got hl hy, hb⟩

theorem RetB.none2 {w w' : World} {e : Ending} (h : RetB w noR e w') : ∃ a c, e = .returned (.tuple #[.agg #[.int .i64 0, .slice a 0 c], .bool false]) ∧ Below w.heap.size w w' := by
  obtain ⟨a, c, he, hf, hb⟩ := h
  exact ⟨a, c, he, hb⟩

theorem readR_cases (s : ByteArray) : readR s = noR ∨ ∃ (P : Nat) (ys : List Nat), readR s = ((P : Int), ys, true) ∧ rightB P ys = true ∧ ys.length ≤ 64 ∧ ∀ x ∈ ys, x < 18446744073709551616 := by
  unfold readR
  split
  · cases hr : readTo (bn s 1 == 120) s (s.size - 2) with
    | none => exact .inl rfl
    | some l =>
      have h1 := (readTo_len hr).2
      show fromR l.reverse = noR ∨ ∃ (P : Nat) (ys : List Nat), fromR l.reverse = _ ∧ _
      unfold fromR
      split
      · rename_i h
        exact .inr ⟨l.reverse.length, pack l.reverse, rfl, pack_right _ (fun x hx => h1 x (List.mem_reverse.1 hx)) h.1 h.2, by rw [pack_len]; omega, pack_lt _⟩
      · exact .inl rfl
  · exact .inl rfl

theorem writeL_len {V : Nat} {xs : List Nat} (hok : rightB V xs = true) : (writeL V xs).length ≤ 9223372036854775807 := by
  have h := right_W hok
  unfold writeL
  split
  · rw [List.length_append, wTo_len]; simp; omega
  · rw [List.length_append, wTo_len]; simp; omega

set_option maxHeartbeats 4000000 in
set_option maxRecDepth 100000 in
theorem law_text (a : Option Addr) (c : Nat) (bs : List Nat) (b : Option Addr) (d : Nat) (ds : List Nat) (w : World) (hr : RdB w a bs) (hl : bs.length ≤ 1048576) (hs : RdB w b ds) (hm : ds.length ≤ 1048576) :
    Calls Try.prog 3 #[.slice a bs.length c, .slice b ds.length d] w fun e w' => e = .returned (.bool true) ∧ Below w.heap.size w w' := by
  go_enter Try.func3, Try.ntmps3
  go_wp2_with fail
  refine (big_any a bs.length c w (by omega)).mono ?_
  rw [show decide (1048576 < bs.length) = false by simp; omega]
  rintro e w ⟨rfl, rfl⟩
  go_wp2_with fail
  refine (big_any b ds.length d w (by omega)).mono ?_
  rw [show decide (1048576 < ds.length) = false by simp; omega]
  rintro e w ⟨rfl, rfl⟩
  go_wp2_with fail
  refine (drawW_any a c bs _ hr).mono ?_
  rintro e w1 ⟨a1, c1, W, xs, rfl, hW1, hW2, hg, B⟩
  have hx := hg.1.2.1
  have hl1 := hg.1.1
  go_wp2_with fail
  have b_b := Blk.new w1 (Value.int IntKind.i64 W) (Value.slice a1 xs.length c1) 26
  have r_b : Rd (w1.alloc (Obj.cells #[Value.int IntKind.i64 W, Value.slice a1 xs.length c1] 26)) a1 xs := hg.1.later (Ba (Below.refl _ _) _)
  replace B := Ba B (Obj.cells #[Value.int IntKind.i64 W, Value.slice a1 xs.length c1] 26)
  generalize w1.alloc (Obj.cells #[Value.int IntKind.i64 W, Value.slice a1 xs.length c1] 26) = w1' at *
  generalize w1.heap.size = β_b at *
  have hT := specOk_any W a1 c1 xs w1' r_b
  refine hT.mono ?_
  rintro e w2 ⟨rfl, hb2⟩
  clear hT hg
  replace b_b := b_b.next hb2
  replace r_b := r_b.later hb2
  replace B := chain B hb2
  obtain ⟨x_b, y_b⟩ := b_b.cells
  have l_b := b_b.lt
  cases hok : rightB W xs with
  | true =>
    obtain ⟨hV1, hV2, hVl⟩ := right_W hok
    obtain ⟨V, rfl⟩ := Int.eq_ofNat_of_zero_le (show 0 ≤ W by omega)
    go_wp2_with fail
    have hT := implWrite_any V a1 c1 xs w2 r_b
    rw [writeR, if_pos hok, Int.toNat_natCast] at hT
    refine hT.mono ?_
    rintro e w3 ⟨rfl, hb3⟩
    clear hT
    clear x_b y_b l_b
    replace b_b := b_b.next hb3
    replace r_b := r_b.later hb3
    replace B := chain B hb3
    obtain ⟨x_b, y_b⟩ := b_b.cells
    have l_b := b_b.lt
    go_wp2_with fail
    have hT := implRead_any (txt (writeL V xs)) w3 (by rw [txt_size]; exact writeL_len hok)
    rw [text_back hok hx] at hT
    refine hT.mono ?_
    intro e w4 h4
    obtain ⟨a4, c4, rfl, g4, hb4⟩ := h4.yes2 (by omega) hx
    clear hT h4
    clear x_b y_b l_b
    replace b_b := b_b.next hb4
    replace r_b := r_b.later hb4
    replace B := chain B hb4
    obtain ⟨x_b, y_b⟩ := b_b.cells
    have l_b := b_b.lt
    go_wp2_with fail
    clear x_b y_b l_b
    have b_c := Blk.new w4 (Value.int IntKind.i64 V) (Value.slice a4 xs.length c4) 26
    have r_c : Rd (w4.alloc (Obj.cells #[Value.int IntKind.i64 V, Value.slice a4 xs.length c4] 26)) a4 xs := g4.1.later (Ba (Below.refl _ _) _)
    replace b_b := b_b.alloc (Obj.cells #[Value.int IntKind.i64 V, Value.slice a4 xs.length c4] 26)
    replace r_b := r_b.later (Ba (Below.refl _ _) (Obj.cells #[Value.int IntKind.i64 V, Value.slice a4 xs.length c4] 26))
    replace B := Ba B (Obj.cells #[Value.int IntKind.i64 V, Value.slice a4 xs.length c4] 26)
    generalize w4.alloc (Obj.cells #[Value.int IntKind.i64 V, Value.slice a4 xs.length c4] 26) = w4' at *
    generalize w4.heap.size = β_c at *
    have hT := same_any V V a4 a1 c4 c1 xs xs w4' r_c r_b
    rw [show decide ((V : Int) = V ∧ xs = xs) = true by simp] at hT
    refine hT.mono ?_
    rintro e w5 ⟨rfl, hb5⟩
    clear hT
    replace b_b := b_b.next hb5
    replace r_b := r_b.later hb5
    replace b_c := b_c.next hb5
    replace r_c := r_c.later hb5
    replace B := chain B hb5
    obtain ⟨x_b, y_b⟩ := b_b.cells
    have l_b := b_b.lt
    obtain ⟨x_c, y_c⟩ := b_c.cells
    have l_c := b_c.lt
    go_wp2_with fail
    refine (drawRead_any b d ds _ (hs.later B)).mono ?_
    rintro e w10 ⟨s, rfl, hsz, hb10⟩
    clear x_b y_b l_b
    clear x_c y_c l_c
    replace b_b := b_b.next hb10
    replace r_b := r_b.later hb10
    replace b_c := b_c.next hb10
    replace r_c := r_c.later hb10
    replace B := chain B hb10
    clear hb10
    go_wp2_with fail
    rcases readR_cases s with E | ⟨P, ys, E, hok2, ys1, ys2⟩
    · have hT := specRead_any s w10
      rw [E] at hT
      refine hT.mono ?_
      intro e w11 h11
      obtain ⟨a11, c11, rfl, hb11⟩ := h11.none2
      clear hT h11
      replace B := chain B hb11
      go_wp2_with fail
      replace B := Ba B (Obj.cells #[Value.int IntKind.i64 0, Value.slice a11 0 c11] 26)
      generalize w11.alloc (Obj.cells #[Value.int IntKind.i64 0, Value.slice a11 0 c11] 26) = w11' at *
      generalize w11.heap.size = β_w11 at *
      have hT := implRead_any s w11' (by omega)
      rw [E] at hT
      refine hT.mono ?_
      intro e w12 h12
      obtain ⟨a12, c12, rfl, hb12⟩ := h12.none2
      clear hT h12
      replace B := chain B hb12
      go_wp2
      go_ret
      exact ⟨rfl, Ba B _⟩
    · have hT := specRead_any s w10
      rw [E] at hT
      refine hT.mono ?_
      intro e w11 h11
      obtain ⟨a11, c11, rfl, -, hb11⟩ := h11.yes2 (by omega) ys2
      clear hT h11
      replace B := chain B hb11
      go_wp2_with fail
      replace B := Ba B (Obj.cells #[Value.int IntKind.i64 P, Value.slice a11 ys.length c11] 26)
      generalize w11.alloc (Obj.cells #[Value.int IntKind.i64 P, Value.slice a11 ys.length c11] 26) = w11' at *
      generalize w11.heap.size = β_w11 at *
      have hT := implRead_any s w11' (by omega)
      rw [E] at hT
      refine hT.mono ?_
      intro e w12 h12
      obtain ⟨a12, c12, rfl, g12, hb12⟩ := h12.yes2 (by omega) ys2
      clear hT h12
      replace B := chain B hb12
      go_wp2_with fail
      have b_d := Blk.new w12 (Value.int IntKind.i64 P) (Value.slice a12 ys.length c12) 26
      have r_d : Rd (w12.alloc (Obj.cells #[Value.int IntKind.i64 P, Value.slice a12 ys.length c12] 26)) a12 ys := g12.1.later (Ba (Below.refl _ _) _)
      replace B := Ba B (Obj.cells #[Value.int IntKind.i64 P, Value.slice a12 ys.length c12] 26)
      generalize w12.alloc (Obj.cells #[Value.int IntKind.i64 P, Value.slice a12 ys.length c12] 26) = w12' at *
      generalize w12.heap.size = β_d at *
      have hT := implWrite_any P a12 c12 ys w12' r_d
      rw [writeR, if_pos hok2, Int.toNat_natCast] at hT
      refine hT.mono ?_
      rintro e w13 ⟨rfl, hb13⟩
      clear hT g12
      replace b_d := b_d.next hb13
      replace r_d := r_d.later hb13
      replace B := chain B hb13
      obtain ⟨x_d, y_d⟩ := b_d.cells
      have l_d := b_d.lt
      go_wp2_with fail
      have hT := implRead_any (txt (writeL P ys)) w13 (by rw [txt_size]; exact writeL_len hok2)
      rw [text_back hok2 ys2] at hT
      refine hT.mono ?_
      intro e w14 h14
      obtain ⟨a14, c14, rfl, g14, hb14⟩ := h14.yes2 (by omega) ys2
      clear hT h14
      clear x_d y_d l_d
      replace b_d := b_d.next hb14
      replace r_d := r_d.later hb14
      replace B := chain B hb14
      obtain ⟨x_d, y_d⟩ := b_d.cells
      have l_d := b_d.lt
      go_wp2_with fail
      clear x_d y_d l_d
      have b_e := Blk.new w14 (Value.int IntKind.i64 P) (Value.slice a14 ys.length c14) 26
      have r_e : Rd (w14.alloc (Obj.cells #[Value.int IntKind.i64 P, Value.slice a14 ys.length c14] 26)) a14 ys := g14.1.later (Ba (Below.refl _ _) _)
      replace b_d := b_d.alloc (Obj.cells #[Value.int IntKind.i64 P, Value.slice a14 ys.length c14] 26)
      replace r_d := r_d.later (Ba (Below.refl _ _) (Obj.cells #[Value.int IntKind.i64 P, Value.slice a14 ys.length c14] 26))
      replace B := Ba B (Obj.cells #[Value.int IntKind.i64 P, Value.slice a14 ys.length c14] 26)
      generalize w14.alloc (Obj.cells #[Value.int IntKind.i64 P, Value.slice a14 ys.length c14] 26) = w14' at *
      generalize w14.heap.size = β_e at *
      have hT := same_any P P a14 a12 c14 c12 ys ys w14' r_e r_d
      rw [show decide ((P : Int) = P ∧ ys = ys) = true by simp] at hT
      refine hT.mono ?_
      rintro e w15 ⟨rfl, hb15⟩
      replace B := chain B hb15
      go_wp2
      go_ret
      exact ⟨rfl, B⟩
  | false =>
    go_wp2_with fail
    refine (drawRead_any b d ds _ (hs.later B)).mono ?_
    rintro e w10 ⟨s, rfl, hsz, hb10⟩
    clear x_b y_b l_b
    replace b_b := b_b.next hb10
    replace r_b := r_b.later hb10
    replace B := chain B hb10
    clear hb10
    go_wp2_with fail
    rcases readR_cases s with E | ⟨P, ys, E, hok2, ys1, ys2⟩
    · have hT := specRead_any s w10
      rw [E] at hT
      refine hT.mono ?_
      intro e w11 h11
      obtain ⟨a11, c11, rfl, hb11⟩ := h11.none2
      clear hT h11
      replace B := chain B hb11
      go_wp2_with fail
      replace B := Ba B (Obj.cells #[Value.int IntKind.i64 0, Value.slice a11 0 c11] 26)
      generalize w11.alloc (Obj.cells #[Value.int IntKind.i64 0, Value.slice a11 0 c11] 26) = w11' at *
      generalize w11.heap.size = β_w11 at *
      have hT := implRead_any s w11' (by omega)
      rw [E] at hT
      refine hT.mono ?_
      intro e w12 h12
      obtain ⟨a12, c12, rfl, hb12⟩ := h12.none2
      clear hT h12
      replace B := chain B hb12
      go_wp2
      go_ret
      exact ⟨rfl, Ba B _⟩
    · have hT := specRead_any s w10
      rw [E] at hT
      refine hT.mono ?_
      intro e w11 h11
      obtain ⟨a11, c11, rfl, -, hb11⟩ := h11.yes2 (by omega) ys2
      clear hT h11
      replace B := chain B hb11
      go_wp2_with fail
      replace B := Ba B (Obj.cells #[Value.int IntKind.i64 P, Value.slice a11 ys.length c11] 26)
      generalize w11.alloc (Obj.cells #[Value.int IntKind.i64 P, Value.slice a11 ys.length c11] 26) = w11' at *
      generalize w11.heap.size = β_w11 at *
      have hT := implRead_any s w11' (by omega)
      rw [E] at hT
      refine hT.mono ?_
      intro e w12 h12
      obtain ⟨a12, c12, rfl, g12, hb12⟩ := h12.yes2 (by omega) ys2
      clear hT h12
      replace B := chain B hb12
      go_wp2_with fail
      have b_d := Blk.new w12 (Value.int IntKind.i64 P) (Value.slice a12 ys.length c12) 26
      have r_d : Rd (w12.alloc (Obj.cells #[Value.int IntKind.i64 P, Value.slice a12 ys.length c12] 26)) a12 ys := g12.1.later (Ba (Below.refl _ _) _)
      replace B := Ba B (Obj.cells #[Value.int IntKind.i64 P, Value.slice a12 ys.length c12] 26)
      generalize w12.alloc (Obj.cells #[Value.int IntKind.i64 P, Value.slice a12 ys.length c12] 26) = w12' at *
      generalize w12.heap.size = β_d at *
      have hT := implWrite_any P a12 c12 ys w12' r_d
      rw [writeR, if_pos hok2, Int.toNat_natCast] at hT
      refine hT.mono ?_
      rintro e w13 ⟨rfl, hb13⟩
      clear hT g12
      replace b_d := b_d.next hb13
      replace r_d := r_d.later hb13
      replace B := chain B hb13
      obtain ⟨x_d, y_d⟩ := b_d.cells
      have l_d := b_d.lt
      go_wp2_with fail
      have hT := implRead_any (txt (writeL P ys)) w13 (by rw [txt_size]; exact writeL_len hok2)
      rw [text_back hok2 ys2] at hT
      refine hT.mono ?_
      intro e w14 h14
      obtain ⟨a14, c14, rfl, g14, hb14⟩ := h14.yes2 (by omega) ys2
      clear hT h14
      clear x_d y_d l_d
      replace b_d := b_d.next hb14
      replace r_d := r_d.later hb14
      replace B := chain B hb14
      obtain ⟨x_d, y_d⟩ := b_d.cells
      have l_d := b_d.lt
      go_wp2_with fail
      clear x_d y_d l_d
      have b_e := Blk.new w14 (Value.int IntKind.i64 P) (Value.slice a14 ys.length c14) 26
      have r_e : Rd (w14.alloc (Obj.cells #[Value.int IntKind.i64 P, Value.slice a14 ys.length c14] 26)) a14 ys := g14.1.later (Ba (Below.refl _ _) _)
      replace b_d := b_d.alloc (Obj.cells #[Value.int IntKind.i64 P, Value.slice a14 ys.length c14] 26)
      replace r_d := r_d.later (Ba (Below.refl _ _) (Obj.cells #[Value.int IntKind.i64 P, Value.slice a14 ys.length c14] 26))
      replace B := Ba B (Obj.cells #[Value.int IntKind.i64 P, Value.slice a14 ys.length c14] 26)
      generalize w14.alloc (Obj.cells #[Value.int IntKind.i64 P, Value.slice a14 ys.length c14] 26) = w14' at *
      generalize w14.heap.size = β_e at *
      have hT := same_any P P a14 a12 c14 c12 ys ys w14' r_e r_d
      rw [show decide ((P : Int) = P ∧ ys = ys) = true by simp] at hT
      refine hT.mono ?_
      rintro e w15 ⟨rfl, hb15⟩
      replace B := chain B hb15
      go_wp2
      go_ret
      exact ⟨rfl, B⟩

end Go.Proofs.Ytiaoncdnkemokaa
