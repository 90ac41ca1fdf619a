/- What DrawMerge tells. -/
import Derived.Test.YtgdeahaoceifaaaDB
import Derived.Test.YtgdeahaoceifaaaKI
namespace Go.Proofs.Ytgdeahaoceifaaa
set_option linter.unusedVariables false
set_option linter.unusedSimpArgs false
open Go.RowKit

/-- An owned row of numbers. -/
def OI (w : World) (B : Nat) (v : Value) (l : List Int) : Prop := w.ownsRow B 2 1 v l.length (i64s l).toList
theorem OI.move {w w' : World} {B : Nat} {v : Value} {l : List Int} (h : OI w B v l) (hk : ∀ b, v.ownBlock = some b → w'.heap[b]? = w.heap[b]?) : OI w' B v l := by
  refine ⟨h.1, ?_⟩
  rcases h.2 with h0 | ⟨g, cap, cur, rfl, hg, hh, r⟩
  · exact .inl h0
  · exact .inr ⟨g, cap, cur, rfl, hg, (hk g rfl).trans hh, r⟩
theorem OI.lt {w : World} {B : Nat} {v : Value} {l : List Int} (h : OI w B v l) {b : Nat} (hb : v.ownBlock = some b) : B ≤ b ∧ b < w.heap.size := by
  rcases h.2 with ⟨rfl, -⟩ | ⟨g, cap, cur, rfl, hg, hh, -⟩
  · cases hb
  · cases hb
    exact ⟨hg, lt_of_block hh⟩
theorem OI.far {w w' : World} {B : Nat} {v : Value} {l : List Int} {β : Nat} (h : OI w B v l) (hd : Dw β w w') (hβ : β < B) : OI w' B v l := h.move fun b hb => hd.block b (h.lt hb).2 (fun e => by cases e; have := (h.lt hb).1; omega)
theorem OI.later {w w' : World} {B : Nat} {v : Value} {l : List Int} (h : OI w B v l) (hb : Below w.heap.size w w') : OI w' B v l := h.move fun b hb' => hb.block b (h.lt hb').2
theorem OI.empty (w : World) (B : Nat) (h : B ≤ w.heap.size) : OI (w.alloc (.cells #[] 2)) B (.slice (some ⟨w.heap.size, 0, Option.none⟩) 0 0) [] := World.ownsRow_made w #[] 0 h (Nat.zero_le _) (by simp)
theorem OI.rd {w : World} {B : Nat} {v : Value} {l : List Int} (h : OI w B v l) (hl : l.length ≤ 1048576) (hx : ∀ x ∈ l, in64 x) : ∃ a c, v = .slice a l.length c ∧ RdI w a l := by
  rcases h.2 with ⟨rfl, h0⟩ | ⟨g, cap, cur, rfl, hg, hh, hc1, hc2, hsz, hcur⟩
  · have e := List.eq_nil_of_length_eq_zero h0
    subst e
    exact ⟨none, 0, rfl, by simp, by simp, .inl rfl⟩
  · refine ⟨some ⟨g, 0, none⟩, cap, rfl, hl, hx, .inr ⟨g, 0, rfl, fun i hi => ?_⟩⟩
    have h3 : (cur.toList.take (l.length * 1))[i]? = (i64s l).toList[i]? := by rw [hcur]
    rw [List.getElem?_take, if_pos (by omega)] at h3
    simp only [Array.getElem?_toList] at h3
    rw [Nat.zero_add, cell_of_row w g i cur _ _ hh, h3, i64s_get _ _ hi]
theorem wpList_appI {w : World} {ops : Array Oper} {rest : List Oper} {o : Oper} {a : Act} {Q : Exit → Act → World → Prop} (hgd : o.guard = none) (s x : Operand)
    (ho : o.op = .call { callee := .builtin .append, args := #[s, x], argTypes := #[50, 50] })
    (B : Nat) (v : Value) (l : List Int) (y : Int) (hs : a.eval s = v) (hown : OI w B v l) (gx c : Nat) (hx : a.eval x = .slice (some ⟨gx, 0, none⟩) 1 c)
    (h0 : w.cell? ⟨gx, 0, none⟩ = some (.int .i64 y)) (hl : l.length ≤ 1073741824) (hB : B ≤ w.heap.size)
    (h : ∀ g cap w', OI w' B (.slice (some ⟨g, 0, none⟩) (l.length + 1) cap) (l ++ [y]) → w.grownBy w' v.ownBlock → wpList Try.prog ops Q rest (a.put o.dst (.slice (some ⟨g, 0, none⟩) (l.length + 1) cap)) w') : wpList Try.prog ops Q (o :: rest) a w := by
  obtain ⟨i0, hi, hz0, hz1, hz2⟩ := info_parts Try.infoI64
  refine wpList_append_lies w hgd s x 50 ho B 2 i0 _ 1 8 Try.underlying50 hi hz0 hz1 hz2 rfl (by decide) v l.length (i64s l).toList hs hown ⟨gx, 0, none⟩ 1 c [.int .i64 y] hx rfl ?_ ?_ (by decide) ?_ ?_ hB _ rfl ?_
  · intro j u hj
    rw [Addr.add_lit]
    match j, hj with
    | 0, hj => simp at hj; subst hj; exact h0
    | j + 1, hj => simp at hj
  · intro u hu
    simp at hu
    subst hu
    rfl
  · unfold maxLen; omega
  · omega
  · intro g cap w' h1 h2 _ _
    refine h g cap w' ?_ h2
    unfold OI
    rw [List.length_append]
    simpa [i64s] using h1

/-- What the draw tells. -/
def RetDM (w : World) (e : Ending) (w' : World) : Prop := ∃ a1 c1 ds a2 c2 xs a3 c3 ys a4 c4 vs, e = .returned (.tuple #[.slice a1 ds.length c1, .slice a2 xs.length c2, .slice a3 ys.length c3, .slice a4 vs.length c4]) ∧ RdD w' a1 ds ∧ RdW w' a2 xs ∧ RdW w' a3 ys ∧ RdI w' a4 vs ∧ Below w.heap.size w w'

set_option maxHeartbeats 1000000 in
theorem drawMerge_any (a : Option Addr) (c : Nat) (bs : List Nat) (w : World) (h : RdB w a bs) :
    Calls Try.prog 24 #[.slice a bs.length c] w (RetDM w) := by
  have HO := kide (open_any a c bs w h)
  have hlb := h.1
  generalize bs.length = bn at *
  clear h
  go_enter Try.func24, Try.ntmps24
  go_wp2_with fail
  refine Calls.mono HO.out ?_
  rintro e w1 ⟨β, rfl, hβ, r1, hb1⟩
  have R1 := kide r1
  have B1 := kide hb1
  clear r1 hb1
  go_wp2_with fail
  refine Calls.mono (decls_any β a c bs w1 R1.out) ?_
  rintro e w2 ⟨v2, ds, rfl, o2, hd1, hd6, hdx, r2, d2⟩
  have R2 := kide r2
  have D2 := kide d2
  have HL1 := R1.out.lt
  obtain ⟨a1, c1, rfl, hrd⟩ := o2.rd (by omega) (fun x hx => ⟨by have := hdx x hx; unfold in64; omega, by have := (hdx x hx).2.2; omega⟩)
  have O2 := kide o2
  have RD2 := kide hrd
  have HDX := kide hdx
  have HA1 : Hid (∀ p, a1 = some p → p.block ≠ β) := fun p hp e => by
    subst hp
    have := (o2.lt (b := p.block) (by rcases o2.2 with ⟨e', -⟩ | ⟨g, cap, cur, e', -⟩ <;> cases e'; rfl)).1
    omega
  clear r2 d2 o2 hrd hdx
  go_wp2_with fail
  have HL2 : β < w2.heap.size := Nat.lt_of_lt_of_le HL1 D2.out.size
  have RA := kide (R2.out.alloc (.cells #[] 2))
  have OA := kide (OI.empty w2 w2.heap.size (Nat.le_refl _))
  have DA : Hid (Dw β w2 (w2.alloc (.cells #[] 2))) := (Dw.refl β w2).alloc _
  generalize w2.alloc (Obj.cells #[] 2) = w3 at *
  have HVL := kide (fun u (hr : Rr u β a c bs) (hd : RdD u a1 ds) => values_any β a c bs a1 c1 ds u hr hd HA1.out hd1 hd6 (fun x hx => ⟨(HDX.out x hx).1, (HDX.out x hx).2.1⟩))
  obtain ⟨n, hn⟩ : ∃ n, ds.length = n := ⟨_, rfl⟩
  have HN := kide hn
  rw [hn] at hd1 hd6 HVL ⊢
  clear hn
  go_loopw [8, 9] (fun v q wr => ∃ (k : Nat) (l : List Int) (av : Option Addr) (cv : Nat), k ≤ n ∧ q = .int .i64 (k : Int) ∧ v = .slice av l.length cv ∧ l.length ≤ k ∧ (∀ x ∈ l, in64 x) ∧ OI wr w2.heap.size (.slice av l.length cv) l ∧ Rr wr β a c bs ∧ Dw β w2 wr) (fun _ q _ => n - (intOf q).toNat)
  case atStart => exact ⟨0, [], some ⟨w2.heap.size, 0, none⟩, 0, Nat.zero_le _, rfl, rfl, Nat.le_refl _, by simp, OA.out, RA.out, DA.out⟩
  case round =>
    clear RA OA DA
    obtain ⟨k, lv, av, cv, hk, rfl, rfl, hlk, hx, ho, hr, hd⟩ := hrel
    have OO := kide ho
    have HV := kide hx
    have RR := kide hr
    have DD := kide hd
    clear ho hx hr hd
    by_cases hlt : k < n
    · go_wp2_with fail
      refine Calls.mono (once_any 2 (by omega) (by omega) β a c bs wr RR.out) ?_
      rintro e w4 ⟨x4, rfl, r4, d4⟩
      have R4 := kide r4
      have D4 := kide (DD.out.trans d4)
      have O4 := kide (OO.out.far d4 HL2)
      clear r4 d4 RR DD OO
      cases x4 with
      | true =>
        have hb5 : Below w4.heap.size w4 (w4.alloc (Obj.cells #[Value.int .i64 (k : Int)] 2)) := (Below.refl _ _).alloc (Nat.le_refl _) _
        have q0 : (w4.alloc (Obj.cells #[Value.int .i64 (k : Int)] 2)).cell? ⟨w4.heap.size, 0, none⟩ = some (.int .i64 (k : Int)) := by simp
        have R5 := kide (R4.out.later hb5)
        have D5 := kide (D4.out.trans (Dw.of hb5))
        have O5 := kide (O4.out.later hb5)
        have hsz : w2.heap.size ≤ (w4.alloc (Obj.cells #[Value.int .i64 (k : Int)] 2)).heap.size := D5.out.size
        clear hb5
        go_wp2_with (at_builtin; refine wpList_appI rfl _ _ rfl w2.heap.size (.slice av lv.length cv) lv (k : Int) (by first | rfl | simp [Act.eval]) O5.out w4.heap.size 1 (by first | rfl | simp [Act.eval]) q0 (by omega) hsz ?_)
        intro g cap w6 ho6 hg6
        have O6 := kide ho6
        have R6 : Hid (Rr w6 β a c bs) := R2.out.far R5.out hg6 (fun k e => (O5.out.lt e).1)
        have D6 : Hid (Dw β w2 w6) := D5.out.own hg6 (fun k e => (O5.out.lt e).1)
        clear ho6 hg6 q0
        go_wp2_with fail
        go_roundw
        case rel =>
          refine ⟨k + 1, lv ++ [(k : Int)], some ⟨g, 0, none⟩, cap, by omega, by go_num, by simp, by simp; omega, fun x hx => ?_, by simpa using O6.out, R6.out, D6.out⟩
          rcases List.mem_append.1 hx with hx | hx
          · exact HV.out x hx
          · simp at hx
            subst hx
            unfold in64; omega
        case measure => simp [intOf]; omega
      | false =>
        go_wp2_with fail
        go_roundw
        case rel => exact ⟨k + 1, lv, av, cv, by omega, by go_num, rfl, by omega, HV.out, O4.out, R4.out, D4.out⟩
        case measure => simp [intOf]; omega
    · go_wp2_with fail
      refine Calls.mono (once_any 16 (by omega) (by omega) β a c bs wr RR.out) ?_
      rintro e w4 ⟨x4, rfl, r4, d4⟩
      have R4 := kide r4
      have D4 := kide (DD.out.trans d4)
      have O4 := kide (OO.out.far d4 HL2)
      clear r4 d4 RR DD OO
      cases x4 with
      | true =>
        obtain ⟨nd, rfl⟩ : ∃ nd, n = nd + 1 := ⟨n - 1, by omega⟩
        go_wp2_with fail
        refine Calls.mono (off_any 0 nd (by omega) (by omega) β a c bs w4 R4.out) ?_
        rintro e w5 ⟨y, rfl, hy1, hy2, r5, d5⟩
        have RX := kide r5
        have DX := kide (D4.out.trans d5)
        have OX := kide (O4.out.far d5 HL2)
        clear r5 d5 R4 D4 O4
        have hb5 : Below w5.heap.size w5 (w5.alloc (Obj.cells #[Value.int .i64 y] 2)) := (Below.refl _ _).alloc (Nat.le_refl _) _
        have q0 : (w5.alloc (Obj.cells #[Value.int .i64 y] 2)).cell? ⟨w5.heap.size, 0, none⟩ = some (.int .i64 y) := by simp
        have R5 := kide (RX.out.later hb5)
        have D5 := kide (DX.out.trans (Dw.of hb5))
        have O5 := kide (OX.out.later hb5)
        have hsz : w2.heap.size ≤ (w5.alloc (Obj.cells #[Value.int .i64 y] 2)).heap.size := D5.out.size
        clear hb5 RX DX OX
        go_wp2_with (at_builtin; refine wpList_appI rfl _ _ rfl w2.heap.size (.slice av lv.length cv) lv y (by first | rfl | simp [Act.eval]) O5.out w5.heap.size 1 (by first | rfl | simp [Act.eval]) q0 (by omega) hsz ?_)
        intro g cap w4 ho6 hg6
        have O4 : Hid (OI w4 w2.heap.size (.slice (some ⟨g, 0, none⟩) (lv ++ [y]).length cap) (lv ++ [y])) := by show OI _ _ _ _; simpa using ho6
        have R4 : Hid (Rr w4 β a c bs) := R2.out.far R5.out hg6 (fun k e => (O5.out.lt e).1)
        have D4 : Hid (Dw β w2 w4) := D5.out.own hg6 (fun k e => (O5.out.lt e).1)
        have HV2 : Hid (∀ x ∈ lv ++ [y], in64 x) := fun x hx => by
          rcases List.mem_append.1 hx with hx | hx
          · exact HV.out x hx
          · simp at hx
            subst hx
            exact ⟨hy1, hy2⟩
        have hlv : (lv ++ [y]).length ≤ 7 := by simp; omega
        rw [show lv.length + 1 = (lv ++ [y]).length by simp]
        generalize lv ++ [y] = lw at *
        clear ho6 hg6 q0 HV R5 D5 O5
        obtain ⟨av, hav⟩ : ∃ av, av = (some ⟨g, 0, none⟩ : Option Addr) := ⟨_, rfl⟩
        rw [← hav] at O4 ⊢
        have HV := HV2
        clear HV2 hav
        go_wp2_with fail
        refine Calls.mono (HVL.out w4 R4.out (RD2.out.farB D4.out HA1.out)) ?_
        rintro e w8 ⟨a8, c8, xs8, rfl, h86, g8, r8, d8⟩
        have R8 := kide r8
        have D8 := kide (D4.out.trans d8)
        have O8 := kide (O4.out.far d8 HL2)
        have G8 := kide g8
        have S8 := kide (show w2.heap.size ≤ w4.heap.size from D4.out.size)
        clear r8 d8 g8 R4 D4 O4
        go_wp2_with fail
        refine Calls.mono (HVL.out w8 R8.out (RD2.out.farB D8.out HA1.out)) ?_
        rintro e w9 ⟨a9, c9, xs9, rfl, h96, g9, r9, d9⟩
        have D9 := kide (D8.out.trans d9)
        have O9 := kide (O8.out.far d9 HL2)
        have G9 := kide (G8.out.far d9 (Nat.lt_of_lt_of_le HL2 S8.out))
        obtain ⟨a4, c4, e4, h4⟩ := O9.out.rd (by omega) HV.out
        have eV := e4
        cases e4
        have HF : Hid (RdD w9 a1 ds ∧ RdW w9 a8 xs8 ∧ RdW w9 a9 xs9 ∧ RdI w9 av lw ∧ Below w.heap.size w w9) := ⟨RD2.out.farB D9.out HA1.out, G9.out.1, g9.1, h4, (B1.out.trans ((D2.out.below hβ B1.out.size))).trans ((D9.out.below hβ (Nat.le_trans B1.out.size D2.out.size)))⟩
        clear h4 g9 r9 d9 eV
        go_wp2_with fail
        go_returns
        exact ⟨a1, c1, ds, a8, c8, xs8, a9, c9, xs9, av, cap, lw, by rw [HN.out], HF.out⟩
      | false =>
        have hlv : lv.length ≤ 7 := by omega
        go_wp2_with fail
        refine Calls.mono (HVL.out w4 R4.out (RD2.out.farB D4.out HA1.out)) ?_
        rintro e w8 ⟨a8, c8, xs8, rfl, h86, g8, r8, d8⟩
        have R8 := kide r8
        have D8 := kide (D4.out.trans d8)
        have O8 := kide (O4.out.far d8 HL2)
        have G8 := kide g8
        have S8 := kide (show w2.heap.size ≤ w4.heap.size from D4.out.size)
        clear r8 d8 g8 R4 D4 O4
        go_wp2_with fail
        refine Calls.mono (HVL.out w8 R8.out (RD2.out.farB D8.out HA1.out)) ?_
        rintro e w9 ⟨a9, c9, xs9, rfl, h96, g9, r9, d9⟩
        have D9 := kide (D8.out.trans d9)
        have O9 := kide (O8.out.far d9 HL2)
        have G9 := kide (G8.out.far d9 (Nat.lt_of_lt_of_le HL2 S8.out))
        obtain ⟨a4, c4, e4, h4⟩ := O9.out.rd (by omega) HV.out
        have eV := e4
        cases e4
        have HF : Hid (RdD w9 a1 ds ∧ RdW w9 a8 xs8 ∧ RdW w9 a9 xs9 ∧ RdI w9 av lv ∧ Below w.heap.size w w9) := ⟨RD2.out.farB D9.out HA1.out, G9.out.1, g9.1, h4, (B1.out.trans ((D2.out.below hβ B1.out.size))).trans ((D9.out.below hβ (Nat.le_trans B1.out.size D2.out.size)))⟩
        clear h4 g9 r9 d9 eV
        go_wp2_with fail
        go_returns
        exact ⟨a1, c1, ds, a8, c8, xs8, a9, c9, xs9, av, cv, lv, by rw [HN.out], HF.out⟩

end Go.Proofs.Ytgdeahaoceifaaa
