/- A drawn forest, where the bytes are many. -/
import Derived.Test.YtakicdlfolhhcaaHO
namespace Go.Proofs.Ytakicdlfolhhcaa
set_option linter.unusedVariables false
set_option linter.unusedSimpArgs false
open Go.RowKit

set_option maxHeartbeats 2000000 in
set_option maxRecDepth 100000 in
theorem forest_drawA (β : Nat) (a : Option Addr) (c : Nat) (bs : List Nat) (w : World) (h : Rr w β a c bs) (hba : Ah w.heap.size a bs) (hm : (14 : Int) ≤ 2 + (bs.length : Int) / 4) :
    Calls Try.prog 61 #[.pointer (some ⟨β, 0, none⟩)] w (RetFo β a c bs w) := by
  have hβa := kide hba
  clear hba
  have hbl : bs.length ≤ 4194304 := by obtain ⟨p, _, _, hr, _⟩ := h; exact hr.1
  have h2 : Below w.heap.size w (w.alloc (Obj.cells #[.int .i64 0, .slice none 0 0] 29)) := (Below.refl _ _).alloc (Nat.le_refl _) _
  have XR := kide (Bx.new w #[.int .i64 0, .slice none 0 0] 29)
  have H0 := kide (h.later h2)
  have D0 : Hid (Dw β w (w.alloc (Obj.cells #[.int .i64 0, .slice none 0 0] 29))) := Dw.of h2
  have g0 : (w.alloc (Obj.cells #[.int .i64 0, .slice none 0 0] 29)).cell? ⟨β, 0, none⟩ = some (.slice a bs.length c) := by
    obtain ⟨p, _, hk, _⟩ := H0.out
    exact hk.cells.1
  have hβ : β < w.heap.size := by obtain ⟨p, _, hk, _⟩ := h; exact hk.lt
  clear h h2
  go_enter Try.func61, Try.ntmps61
  go_wp2_with fail
  generalize w.alloc (Obj.cells #[.int .i64 0, .slice none 0 0] 29) = w0 at *
  refine Calls.mono (belowI_any _ (by omega) (by omega) β a c bs w0 H0.out) ?_
  rintro e w1 ⟨x1, rfl, hx1, hr1, hd1⟩
  have hxb : x1 ≤ 13 := by omega
  have H1 := kide hr1
  have D1 := kide (D0.out.trans hd1)
  have hnb : w.heap.size ≠ β := by omega
  have XR1 : Hid (Bx w1 w.heap.size #[.int .i64 0, .slice none 0 0] 29) := by
    show w1.heap[w.heap.size]? = _
    rw [World.grownBy.block hd1 _ XR.out.lt (by simp; omega)]
    exact XR.out
  clear hr1 hd1 XR H0 D0 g0 hx1 hm
  go_wp2_with fail
  obtain ⟨Z, hZ⟩ : ∃ Z : Int, (1 : Int) + (x1 : Int) = Z := ⟨_, rfl⟩
  have hZ1 : 1 ≤ Z := by omega
  have hZ2 : Z ≤ 14 := by omega
  simp only [hZ]
  have hbx : Below w1.heap.size w1 (w1.alloc (Obj.cells #[.int .i64 Z, .slice none 0 0] 29)) := (Below.refl _ _).alloc (Nat.le_refl _) _
  have XF2 := kide (Bx.new w1 #[.int .i64 Z, .slice none 0 0] 29)
  have H2 := kide (H1.out.later hbx)
  have D2 := kide (D1.out.alloc (Obj.cells #[.int .i64 Z, .slice none 0 0] 29))
  have XR2 := kide (XR1.out.later hbx)
  have hBF : w.heap.size < w1.heap.size := XR1.out.lt
  clear hZ hbx H1 D1 XR1
  obtain ⟨F, hF⟩ : ∃ F, w1.heap.size = F := ⟨_, rfl⟩
  rw [hF] at XF2 hBF ⊢
  generalize w1.alloc (Obj.cells #[.int .i64 Z, .slice none 0 0] 29) = w2 at *
  refine Calls.mono (belowI_any _ (by omega) (by omega) β a c bs w2 H2.out) ?_
  rintro e w3 ⟨m, rfl, hm3, hr3, hd3⟩
  have hmb : m ≤ 16 := by omega
  have H3 := kide hr3
  have D3 := kide (D2.out.trans hd3)
  have hFb : F ≠ β := by omega
  have keep : Hid (∀ (u u' : World) (b : Nat) (cs : Array Value), b ≠ β → Dw β u u' → Bx u b cs 29 → Bx u' b cs 29) := fun u u' b cs hb hd hx => by
    show u'.heap[b]? = _
    rw [World.grownBy.block hd _ hx.lt (by simp; omega)]
    exact hx
  have XF3 := kide (keep.out _ _ _ _ hFb hd3 XF2.out)
  have XR3 := kide (keep.out _ _ _ _ hnb hd3 XR2.out)
  clear hr3 hd3 H2 D2 XF2 XR2 hF hm3 hxb
  go_wp2_with fail
  go_loopw [4] (fun q wr => ∃ (k : Nat) (v : Value) (ls : List Lk), k ≤ 16 ∧ q = .int .i64 (k : Int) ∧ ls.length + k ≤ 16 ∧ Bx wr F #[.int .i64 Z, v] 29 ∧ OK3 wr w.heap.size v ls ∧ (∀ l ∈ ls, in64 l.1 ∧ in64 l.2.1 ∧ in64 l.2.2) ∧ Bx wr w.heap.size #[.int .i64 0, .slice none 0 0] 29 ∧ Rr wr β a c bs ∧ Dw β w wr) (fun q _ => (intOf q).toNat)
  case atStart => exact ⟨m, _, [], hmb, rfl, by simpa using hmb, XF3.out, ⟨rfl, .inl ⟨rfl, rfl⟩⟩, by simp, XR3.out, H3.out, D3.out⟩
  case round =>
    obtain ⟨k, v, ls, hk, rfl, hlk, hxf, hok, hin, hxr, hrr, hdw⟩ := hrel
    have XF := kide hxf
    have OK := kide hok
    have IN := kide hin
    have XR := kide hxr
    have RR := kide hrr
    have DW := kide hdw
    have LK := kide hlk
    obtain ⟨av, cv, rfl⟩ := ok3_form hok
    generalize hNl : ls.length = N at *
    have HNl := kide hNl
    have p0 := hxf.cell 0
    have p1 := hxf.cell 1
    simp at p0 p1
    have hFl : F < wr.heap.size := hxf.lt
    clear hxf hok hin hxr hrr hdw XF3 XR3 H3 D3 hNl hlk
    by_cases hz : k = 0
    case neg =>
      have hk0 : (0 : Int) < (k : Int) := by omega
      obtain ⟨k', hk'⟩ : ∃ k', k = k' + 1 := ⟨k - 1, by omega⟩
      have HK' := kide hk'
      have hkm : (k : Int) - 1 = (k' : Int) := by omega
      have hkw : IntKind.i64.wrap (k' : Int) = (k' : Int) := by rw [IntKind.wrap_i64]; omega
      have hβw : β < w.heap.size := hβ
      clear hk'
      go_wp2_with fail
      refine wp_region_x (SA := fun _ => False) (SB := fun u => u.cell? ⟨F, 0, none⟩ = some (Value.int .i64 Z) ∧ u.cell? ⟨F, 1, none⟩ = some (Value.slice av N cv)) (k := 999) (by kernel_rfl) ?_
      have hbd : Below wr.heap.size wr wr.drew := (Below.refl _ _).drew
      have XF0 := kide (XF.out.later hbd)
      have XR0 := kide (XR.out.later hbd)
      have OQ0 : Hid (OK3 _ _ _ _) := own3_later OK.out hbd
      have RR0 := kide (RR.out.later hbd)
      have DW0 := kide DW.out.drew
      clear hbd XF XR OK RR DW p0 p1 hFl
      generalize wr.drew = u0 at *
      have hs0 : Hid ((fun u => u.cell? ⟨F, 0, none⟩ = some (Value.int .i64 Z) ∧ u.cell? ⟨F, 1, none⟩ = some (Value.slice av N cv)) u0) := ⟨XF0.out.cell 0, XF0.out.cell 1⟩
      try go_simp
      refine wpAnyX_both (T := fun u => u.cell? ⟨F, 0, none⟩ = some (Value.int .i64 Z) ∧ u.cell? ⟨F, 1, none⟩ = some (Value.slice av N cv)) (i := 0) (v := Value.agg #[Value.int .i64 Z, Value.slice av N cv]) rfl (by kernel_rfl) (by kernel_rfl) (by kernel_rfl) (fun _ _ _ h => by first | exact h | exact h.elim | cases h.1) (by decide) (fun _ h => h.elim) (fun _ h => h) (Sx.behind (by kernel_rfl) hs0.out) (Or.inl ⟨by rfl, fun u hu => by obtain ⟨e1, e2⟩ := hu; go_simp⟩) ?_
      try go_simp
      refine wpAnyX_both (T := fun u => u.cell? ⟨F, 0, none⟩ = some (Value.int .i64 Z) ∧ u.cell? ⟨F, 1, none⟩ = some (Value.slice av N cv)) (i := 1) (v := Value.pointer (some ⟨β, 0, none⟩)) rfl (by kernel_rfl) (by kernel_rfl) (by kernel_rfl) (fun _ _ _ h => by first | exact h | exact h.elim | cases h.1) (by decide) (fun _ h => h.elim) (fun _ h => h) (Sx.behind (by kernel_rfl) hs0.out) (Or.inl ⟨by rfl, fun u hu => by obtain ⟨e1, e2⟩ := hu; go_simp⟩) ?_
      try go_simp
      refine wpAnyX_both (T := fun u => u.cell? ⟨F, 0, none⟩ = some (Value.int .i64 Z) ∧ u.cell? ⟨F, 1, none⟩ = some (Value.slice av N cv)) (i := 2) (v := Value.pointer (some ⟨F, 0, none⟩)) rfl (by kernel_rfl) (by kernel_rfl) (by kernel_rfl) (fun _ _ _ h => by first | exact h | exact h.elim | cases h.1) (by decide) (fun _ h => h.elim) (fun _ h => h) (Sx.behind (by kernel_rfl) hs0.out) (Or.inl ⟨by rfl, fun u hu => by obtain ⟨e1, e2⟩ := hu; go_simp⟩) ?_
      try go_simp
      refine wpAnyX_both (T := fun u => u.cell? ⟨F, 0, none⟩ = some (Value.int .i64 Z) ∧ u.cell? ⟨F, 1, none⟩ = some (Value.slice av N cv)) (i := 3) (v := Value.int .i64 Z) rfl (by kernel_rfl) (by kernel_rfl) (by kernel_rfl) (fun _ _ _ h => by first | exact h | exact h.elim | cases h.1) (by decide) (fun _ h => h.elim) (fun _ h => h) (Sx.behind (by kernel_rfl) hs0.out) (Or.inl ⟨by rfl, fun u hu => by obtain ⟨e1, e2⟩ := hu; go_simp⟩) ?_
      try go_simp
      refine wpAnyX_both (T := fun u => u.cell? ⟨F, 0, none⟩ = some (Value.int .i64 Z) ∧ u.cell? ⟨F, 1, none⟩ = some (Value.slice av N cv)) (i := 5) (v := Value.pointer (some ⟨β, 0, none⟩)) rfl (by kernel_rfl) (by kernel_rfl) (by kernel_rfl) (fun _ _ _ h => by first | exact h | exact h.elim | cases h.1) (by decide) (fun _ h => h.elim) (fun _ h => h) (Sx.behind (by kernel_rfl) hs0.out) (Or.inl ⟨by rfl, fun u hu => by obtain ⟨e1, e2⟩ := hu; go_simp⟩) ?_
      try go_simp
      refine wpAnyX_both (T := fun u => u.cell? ⟨F, 0, none⟩ = some (Value.int .i64 Z) ∧ u.cell? ⟨F, 1, none⟩ = some (Value.slice av N cv)) (i := 6) (v := Value.pointer (some ⟨F, 0, none⟩)) rfl (by kernel_rfl) (by kernel_rfl) (by kernel_rfl) (fun _ _ _ h => by first | exact h | exact h.elim | cases h.1) (by decide) (fun _ h => h.elim) (fun _ h => h) (Sx.behind (by kernel_rfl) hs0.out) (Or.inl ⟨by rfl, fun u hu => by obtain ⟨e1, e2⟩ := hu; go_simp⟩) ?_
      try go_simp
      refine wpAnyX_both (T := fun u => u.cell? ⟨F, 0, none⟩ = some (Value.int .i64 Z) ∧ u.cell? ⟨F, 1, none⟩ = some (Value.slice av N cv)) (i := 7) (v := Value.int .i64 Z) rfl (by kernel_rfl) (by kernel_rfl) (by kernel_rfl) (fun _ _ _ h => by first | exact h | exact h.elim | cases h.1) (by decide) (fun _ h => h.elim) (fun _ h => h) (Sx.behind (by kernel_rfl) hs0.out) (Or.inl ⟨by rfl, fun u hu => by obtain ⟨e1, e2⟩ := hu; go_simp⟩) ?_
      try go_simp
      refine wpAnyX_both (T := fun u => u.cell? ⟨F, 0, none⟩ = some (Value.int .i64 Z) ∧ u.cell? ⟨F, 1, none⟩ = some (Value.slice av N cv)) (i := 9) (v := Value.pointer (some ⟨β, 0, none⟩)) rfl (by kernel_rfl) (by kernel_rfl) (by kernel_rfl) (fun _ _ _ h => by first | exact h | exact h.elim | cases h.1) (by decide) (fun _ h => h.elim) (fun _ h => h) (Sx.behind (by kernel_rfl) hs0.out) (Or.inl ⟨by rfl, fun u hu => by obtain ⟨e1, e2⟩ := hu; go_simp⟩) ?_
      try go_simp
      refine wpAnyX_ready (rs := [4, 16]) (by kernel_rfl) (by simp) (AllX.cons rfl (fun K hK => ?_) (AllX.cons rfl (fun K hK => ?_) AllX.nil))
      · go_simp
        refine Calls.mono (belowI_any Z (by omega) (by omega) β a c bs u0 RR0.out) ?_
        rintro e u1 ⟨y1, rfl, hy1, hr1, hd1⟩
        have RR1 := kide hr1
        have DW1 := kide (DW0.out.trans hd1)
        have XF1 := kide (keep.out _ _ _ _ hFb hd1 XF0.out)
        have XR1 := kide (keep.out _ _ _ _ hnb hd1 XR0.out)
        have OQ1 := kide (OQ0.out.dw hd1 hβw)
        clear hr1 hd1
        have hs1 : Hid ((fun u => u.cell? ⟨F, 0, none⟩ = some (Value.int .i64 Z) ∧ u.cell? ⟨F, 1, none⟩ = some (Value.slice av N cv)) u1) := ⟨XF1.out.cell 0, XF1.out.cell 1⟩
        refine hK _ _ (Sx.behind (by kernel_rfl) hs1.out) ?_
        clear hK K
        try go_simp
        refine wpAnyX_ready (rs := [8, 16]) (by kernel_rfl) (by simp) (AllX.cons rfl (fun K hK => ?_) (AllX.cons rfl (fun K hK => ?_) AllX.nil))
        · go_simp
          refine Calls.mono (belowI_any Z (by omega) (by omega) β a c bs u1 RR1.out) ?_
          rintro e u2 ⟨y2, rfl, hy2, hr2, hd2⟩
          have RR2 := kide hr2
          have DW2 := kide (DW1.out.trans hd2)
          have XF2 := kide (keep.out _ _ _ _ hFb hd2 XF1.out)
          have XR2 := kide (keep.out _ _ _ _ hnb hd2 XR1.out)
          have OQ2 := kide (OQ1.out.dw hd2 hβw)
          clear hr2 hd2
          have hs2 : Hid ((fun u => u.cell? ⟨F, 0, none⟩ = some (Value.int .i64 Z) ∧ u.cell? ⟨F, 1, none⟩ = some (Value.slice av N cv)) u2) := ⟨XF2.out.cell 0, XF2.out.cell 1⟩
          refine hK _ _ (Sx.behind (by kernel_rfl) hs2.out) ?_
          clear hK K
          try go_simp
          refine wpAnyX_ready (rs := [10, 16]) (by kernel_rfl) (by simp) (AllX.cons rfl (fun K hK => ?_) (AllX.cons rfl (fun K hK => ?_) AllX.nil))
          · go_simp
            refine Calls.mono (belowI_any 9 (by omega) (by omega) β a c bs u2 RR2.out) ?_
            rintro e u3 ⟨y3, rfl, hy3, hr3, hd3⟩
            have RR3 := kide hr3
            have DW3 := kide (DW2.out.trans hd3)
            have XF3 := kide (keep.out _ _ _ _ hFb hd3 XF2.out)
            have XR3 := kide (keep.out _ _ _ _ hnb hd3 XR2.out)
            have OQ3 := kide (OQ2.out.dw hd3 hβw)
            clear hr3 hd3
            have hs3 : Hid ((fun u => u.cell? ⟨F, 0, none⟩ = some (Value.int .i64 Z) ∧ u.cell? ⟨F, 1, none⟩ = some (Value.slice av N cv)) u3) := ⟨XF3.out.cell 0, XF3.out.cell 1⟩
            refine hK _ _ (Sx.behind (by kernel_rfl) hs3.out) ?_
            clear hK K
            try go_simp
            refine wpAnyX_ready (rs := [11, 16]) (by kernel_rfl) (by simp) (AllX.cons rfl (fun K hK => ?_) (AllX.cons rfl (fun K hK => ?_) AllX.nil))
            · go_simp
              have HJ := kide (specJoin_own Z (y1 : Int) (y2 : Int) (y3 : Int) (Value.slice av N cv) w.heap.size ls u3 OQ3.out (by have := HNl.out; have := LK.out; omega) IN.out)
              have hJY := joinR_yes (z := Z) (ls := ls) (x := (y1 : Int)) (y := (y2 : Int)) (q := (y3 : Int))
              have hJI := (joinR_ok Z ls (y1 : Int) (y2 : Int) (y3 : Int) (by have := HNl.out; have := LK.out; omega) IN.out).2
              generalize joinR Z ls (y1 : Int) (y2 : Int) (y3 : Int) = R at *
              obtain ⟨Rz, RL, b1, b2⟩ := R
              have JY := kide hJY
              have JI := kide hJI
              unfold RetJ at HJ
              simp only [] at HJ JY JI
              clear hJY hJI
              refine Calls.mono HJ.out ?_
              rintro e u4 ⟨vJ, rfl, oJ, hb4⟩
              obtain ⟨aJ, cJ, rfl⟩ := ok3_form oJ
              have RR4 := kide (RR3.out.later hb4)
              have XF4 := kide (XF3.out.later hb4)
              have XR4 := kide (XR3.out.later hb4)
              have OQ4 : Hid (OK3 _ _ _ _) := own3_later OQ3.out hb4
              have DW4 := kide (DW3.out.trans (Dw.of hb4))
              have OJ4 := kide (ok3_base oJ (show w.heap.size ≤ u3.heap.size from DW3.out.size))
              clear oJ hb4 HJ
              have hs4 : Hid ((fun u => u.cell? ⟨F, 0, none⟩ = some (Value.int .i64 Z) ∧ u.cell? ⟨F, 1, none⟩ = some (Value.slice av N cv)) u4) := ⟨XF4.out.cell 0, XF4.out.cell 1⟩
              refine hK _ _ (Sx.behind (by kernel_rfl) hs4.out) ?_
              clear hK K
              try go_simp
              refine wpAnyX_both (T := fun u => u.cell? ⟨F, 0, none⟩ = some (Value.int .i64 Z) ∧ u.cell? ⟨F, 1, none⟩ = some (Value.slice av N cv)) (i := 12) (v := Value.tuple #[Value.agg #[Value.int .i64 Rz, Value.slice aJ RL.length cJ], Value.bool b1, Value.bool b2]) rfl (by kernel_rfl) (by kernel_rfl) (by kernel_rfl) (fun _ _ _ h => by first | exact h | exact h.elim | cases h.1) (by decide) (fun _ h => h.elim) (fun _ h => h) (Sx.behind (by kernel_rfl) hs4.out) (Or.inl ⟨by rfl, fun u hu => by obtain ⟨e1, e2⟩ := hu; go_simp⟩) ?_
              try go_simp
              refine wpAnyX_both (T := fun u => u.cell? ⟨F, 0, none⟩ = some (Value.int .i64 Z) ∧ u.cell? ⟨F, 1, none⟩ = some (Value.slice av N cv)) (i := 13) (v := Value.agg #[Value.int .i64 Rz, Value.slice aJ RL.length cJ]) rfl (by kernel_rfl) (by kernel_rfl) (by kernel_rfl) (fun _ _ _ h => by first | exact h | exact h.elim | cases h.1) (by decide) (fun _ h => h.elim) (fun _ h => h) (Sx.behind (by kernel_rfl) hs4.out) (Or.inl ⟨by rfl, fun u hu => by obtain ⟨e1, e2⟩ := hu; go_simp⟩) ?_
              try go_simp
              refine wpAnyX_both (T := fun u => u.cell? ⟨F, 0, none⟩ = some (Value.int .i64 Z) ∧ u.cell? ⟨F, 1, none⟩ = some (Value.slice av N cv)) (i := 14) (v := Value.bool b1) rfl (by kernel_rfl) (by kernel_rfl) (by kernel_rfl) (fun _ _ _ h => by first | exact h | exact h.elim | cases h.1) (by decide) (fun _ h => h.elim) (fun _ h => h) (Sx.behind (by kernel_rfl) hs4.out) (Or.inl ⟨by rfl, fun u hu => by obtain ⟨e1, e2⟩ := hu; go_simp⟩) ?_
              try go_simp
              refine wpAnyX_both (T := fun u => u.cell? ⟨F, 0, none⟩ = some (Value.int .i64 Z) ∧ u.cell? ⟨F, 1, none⟩ = some (Value.slice av N cv)) (i := 15) (v := Value.bool b2) rfl (by kernel_rfl) (by kernel_rfl) (by kernel_rfl) (fun _ _ _ h => by first | exact h | exact h.elim | cases h.1) (by decide) (fun _ h => h.elim) (fun _ h => h) (Sx.behind (by kernel_rfl) hs4.out) (Or.inl ⟨by rfl, fun u hu => by obtain ⟨e1, e2⟩ := hu; go_simp⟩) ?_
              try go_simp
              refine wpAnyX_ready (rs := [16]) (by kernel_rfl) (by simp) (AllX.cons rfl (fun K hK => ?_) AllX.nil)
              go_simp
              have hbx : Below u4.heap.size u4 (u4.alloc (Obj.cells #[.int .i64 0, .slice none 0 0] 29)) := (Below.refl _ _).alloc (Nat.le_refl _) _
              have XN5 := kide (Bx.new u4 #[.int .i64 0, .slice none 0 0] 29)
              have RR5 := kide (RR4.out.later hbx)
              have XF5 := kide (XF4.out.later hbx)
              have XR5 := kide (XR4.out.later hbx)
              have OJ5 := kide (own3_later OJ4.out hbx)
              have OQ5 : Hid (OK3 _ _ _ _) := own3_later OQ4.out hbx
              have DW5 := kide (DW4.out.alloc (Obj.cells #[.int .i64 0, .slice none 0 0] 29))
              have hNF : Hid (F < u4.heap.size) := XF4.out.lt
              obtain ⟨bN, hbN⟩ : ∃ x, u4.heap.size = x := ⟨_, rfl⟩
              rw [hbN] at XN5 hNF ⊢
              have hNb : bN ≠ β := by have := hNF.out; omega
              clear hbN hbx
              generalize u4.alloc (Obj.cells #[.int .i64 0, .slice none 0 0] 29) = u5 at *
              have hs5 : Hid ((fun u => u.cell? ⟨F, 0, none⟩ = some (Value.int .i64 Z) ∧ u.cell? ⟨F, 1, none⟩ = some (Value.slice av N cv)) u5) := ⟨XF5.out.cell 0, XF5.out.cell 1⟩
              refine hK _ _ (Sx.behind (by kernel_rfl) hs5.out) ?_
              clear hK K
              try go_simp
              refine wpAnyX_ready (rs := [17]) (by kernel_rfl) (by simp) (AllX.cons rfl (fun K hK => ?_) AllX.nil)
              have e8 := XN5.out.cell 0
              have e9 := XN5.out.cell 1
              have f8 := XN5.out.froz 0
              have f9 := XN5.out.froz 1
              simp at e8 e9
              go_simp
              have XN6 : Hid (Bx ((u5.setCell ⟨bN, 0, none⟩ (.int .i64 Rz)).setCell ⟨bN, 1, none⟩ (Value.slice aJ RL.length cJ)) bN #[.int .i64 Rz, Value.slice aJ RL.length cJ] 29) := (XN5.out.set 0 _).set 1 _
              have XF6 : Hid (Bx ((u5.setCell ⟨bN, 0, none⟩ (.int .i64 Rz)).setCell ⟨bN, 1, none⟩ (Value.slice aJ RL.length cJ)) F #[.int .i64 Z, Value.slice av N cv] 29) := (XF5.out.other (by have := hNF.out; omega) 0 _).other (by have := hNF.out; omega) 1 _
              have XR6 : Hid (Bx ((u5.setCell ⟨bN, 0, none⟩ (.int .i64 Rz)).setCell ⟨bN, 1, none⟩ (Value.slice aJ RL.length cJ)) w.heap.size #[.int .i64 0, .slice none 0 0] 29) := (XR5.out.other (by have := hNF.out; omega) 0 _).other (by have := hNF.out; omega) 1 _
              have OQ6 : Hid (OK3 ((u5.setCell ⟨bN, 0, none⟩ (.int .i64 Rz)).setCell ⟨bN, 1, none⟩ (Value.slice aJ RL.length cJ)) w.heap.size (Value.slice av N cv) ls) := own3_set (own3_set OQ5.out XN5.out (by decide) _) (XN5.out.set 0 (.int .i64 Rz)) (by decide) _
              have OJ6 : Hid (OK3 ((u5.setCell ⟨bN, 0, none⟩ (.int .i64 Rz)).setCell ⟨bN, 1, none⟩ (Value.slice aJ RL.length cJ)) w.heap.size (Value.slice aJ RL.length cJ) RL) := own3_set (own3_set OJ5.out XN5.out (by decide) _) (XN5.out.set 0 (.int .i64 Rz)) (by decide) _
              have DW6 : Hid (Dw β w ((u5.setCell ⟨bN, 0, none⟩ (.int .i64 Rz)).setCell ⟨bN, 1, none⟩ (Value.slice aJ RL.length cJ))) := (DW5.out.put bN 0 _ (by have := hNF.out; omega)).put bN 1 _ (by have := hNF.out; omega)
              have RR6 : Hid (Rr ((u5.setCell ⟨bN, 0, none⟩ (.int .i64 Rz)).setCell ⟨bN, 1, none⟩ (Value.slice aJ RL.length cJ)) β a c bs) := (RR5.out.put DW5.out.size hβa.out (by have := hNF.out; omega) (by have := hNF.out; omega) 0 _).put (by simpa using DW5.out.size) hβa.out (by have := hNF.out; omega) (by have := hNF.out; omega) 1 _
              generalize (u5.setCell ⟨bN, 0, none⟩ (.int .i64 Rz)).setCell ⟨bN, 1, none⟩ (Value.slice aJ RL.length cJ) = u6 at *
              clear e8 e9 f8 f9
              have hs6 : Hid ((fun u => u.cell? ⟨F, 0, none⟩ = some (Value.int .i64 Z) ∧ u.cell? ⟨F, 1, none⟩ = some (Value.slice av N cv)) u6) := ⟨XF6.out.cell 0, XF6.out.cell 1⟩
              refine hK _ _ (Sx.behind (by kernel_rfl) hs6.out) ?_
              clear hK K
              try go_simp
              refine wpAnyX_both (T := fun u => u.cell? ⟨F, 0, none⟩ = some (Value.int .i64 Z) ∧ u.cell? ⟨F, 1, none⟩ = some (Value.slice av N cv)) (i := 18) (v := Value.bool b1) rfl (by kernel_rfl) (by kernel_rfl) (by kernel_rfl) (fun _ _ _ h => by first | exact h | exact h.elim | cases h.1) (by decide) (fun _ h => h.elim) (fun _ h => h) (Sx.behind (by kernel_rfl) hs6.out) (Or.inl ⟨by rfl, fun u hu => by obtain ⟨e1, e2⟩ := hu; go_simp⟩) ?_
              try go_simp
              refine wpAnyX_both (T := fun u => u.cell? ⟨F, 0, none⟩ = some (Value.int .i64 Z) ∧ u.cell? ⟨F, 1, none⟩ = some (Value.slice av N cv)) (i := 19) (v := Value.bool b2) rfl (by kernel_rfl) (by kernel_rfl) (by kernel_rfl) (fun _ _ _ h => by first | exact h | exact h.elim | cases h.1) (by decide) (fun _ h => h.elim) (fun _ h => h) (Sx.behind (by kernel_rfl) hs6.out) (Or.inl ⟨by rfl, fun u hu => by obtain ⟨e1, e2⟩ := hu; go_simp⟩) ?_
              try go_simp
              refine wpAnyX_done (by kernel_rfl) ?_ _
              cases b2 with
              | true =>
                have q0 := XN6.out.cell 0
                have q1 := XN6.out.cell 1
                have p0 := XF6.out.cell 0
                have p1 := XF6.out.cell 1
                have f0 := XF6.out.froz 0
                have f1 := XF6.out.froz 1
                simp at q0 q1 p0 p1
                obtain ⟨hRz, hRl⟩ := JY.out rfl
                subst hRz
                go_wp2_with fail
                go_roundw
                case rel =>
                  have XE := (XF6.out.set 0 (.int .i64 Rz)).set 1 (.slice aJ RL.length cJ)
                  refine ⟨k', _, RL, by have := HK'.out; omega, by first | rfl | go_num, by have := HK'.out; have := HNl.out; have := LK.out; omega, XE, ?_, JI.out, ?_, ?_, ?_⟩
                  · exact own3_set (own3_set OJ6.out XF6.out (by decide) _) (XF6.out.set 0 (.int .i64 Rz)) (by decide) _
                  · exact (XR6.out.other (by omega) 0 _).other (by omega) 1 _
                  · exact (RR6.out.put DW6.out.size hβa.out (by omega) (by omega) 0 _).put (by simpa using DW6.out.size) hβa.out (by omega) (by omega) 1 _
                  · exact (DW6.out.put F 0 _ (by omega)).put F 1 _ (by omega)
                case measure => have := HK'.out; simp [intOf]; omega
              | false =>
                go_wp2_with fail
                go_roundw
                case rel => exact ⟨k', _, ls, by have := HK'.out; omega, by first | rfl | go_num, by have := HK'.out; have := HNl.out; have := LK.out; omega, XF6.out, OQ6.out, IN.out, XR6.out, RR6.out, DW6.out⟩
                case measure => have := HK'.out; simp [intOf]; omega
            · go_simp
              have hbx : Below u3.heap.size u3 (u3.alloc (Obj.cells #[.int .i64 0, .slice none 0 0] 29)) := (Below.refl _ _).alloc (Nat.le_refl _) _
              have XN4 := kide (Bx.new u3 #[.int .i64 0, .slice none 0 0] 29)
              have RR4 := kide (RR3.out.later hbx)
              have XF4 := kide (XF3.out.later hbx)
              have XR4 := kide (XR3.out.later hbx)
              have OQ4 : Hid (OK3 _ _ _ _) := own3_later OQ3.out hbx
              have DW4 := kide (DW3.out.alloc (Obj.cells #[.int .i64 0, .slice none 0 0] 29))
              have hNF : Hid (F < u3.heap.size) := XF3.out.lt
              obtain ⟨bN, hbN⟩ : ∃ x, u3.heap.size = x := ⟨_, rfl⟩
              rw [hbN] at XN4 hNF ⊢
              have hNb : bN ≠ β := by have := hNF.out; omega
              clear hbN hbx
              generalize u3.alloc (Obj.cells #[.int .i64 0, .slice none 0 0] 29) = u4 at *
              have hs4 : Hid ((fun u => u.cell? ⟨F, 0, none⟩ = some (Value.int .i64 Z) ∧ u.cell? ⟨F, 1, none⟩ = some (Value.slice av N cv)) u4) := ⟨XF4.out.cell 0, XF4.out.cell 1⟩
              refine hK _ _ (Sx.behind (by kernel_rfl) hs4.out) ?_
              clear hK K
              try go_simp
              refine wpAnyX_ready (rs := [11]) (by kernel_rfl) (by simp) (AllX.cons rfl (fun K hK => ?_) AllX.nil)
              go_simp
              have HJ := kide (specJoin_own Z (y1 : Int) (y2 : Int) (y3 : Int) (Value.slice av N cv) w.heap.size ls u4 OQ4.out (by have := HNl.out; have := LK.out; omega) IN.out)
              have hJY := joinR_yes (z := Z) (ls := ls) (x := (y1 : Int)) (y := (y2 : Int)) (q := (y3 : Int))
              have hJI := (joinR_ok Z ls (y1 : Int) (y2 : Int) (y3 : Int) (by have := HNl.out; have := LK.out; omega) IN.out).2
              generalize joinR Z ls (y1 : Int) (y2 : Int) (y3 : Int) = R at *
              obtain ⟨Rz, RL, b1, b2⟩ := R
              have JY := kide hJY
              have JI := kide hJI
              unfold RetJ at HJ
              simp only [] at HJ JY JI
              clear hJY hJI
              refine Calls.mono HJ.out ?_
              rintro e u5 ⟨vJ, rfl, oJ, hb5⟩
              obtain ⟨aJ, cJ, rfl⟩ := ok3_form oJ
              have RR5 := kide (RR4.out.later hb5)
              have XF5 := kide (XF4.out.later hb5)
              have XR5 := kide (XR4.out.later hb5)
              have XN5 := kide (XN4.out.later hb5)
              have OQ5 : Hid (OK3 _ _ _ _) := own3_later OQ4.out hb5
              have DW5 := kide (DW4.out.trans (Dw.of hb5))
              have OJ5 := kide (ok3_base oJ (show w.heap.size ≤ u4.heap.size from DW4.out.size))
              clear oJ hb5 HJ
              have hs5 : Hid ((fun u => u.cell? ⟨F, 0, none⟩ = some (Value.int .i64 Z) ∧ u.cell? ⟨F, 1, none⟩ = some (Value.slice av N cv)) u5) := ⟨XF5.out.cell 0, XF5.out.cell 1⟩
              refine hK _ _ (Sx.behind (by kernel_rfl) hs5.out) ?_
              clear hK K
              try go_simp
              refine wpAnyX_both (T := fun u => u.cell? ⟨F, 0, none⟩ = some (Value.int .i64 Z) ∧ u.cell? ⟨F, 1, none⟩ = some (Value.slice av N cv)) (i := 12) (v := Value.tuple #[Value.agg #[Value.int .i64 Rz, Value.slice aJ RL.length cJ], Value.bool b1, Value.bool b2]) rfl (by kernel_rfl) (by kernel_rfl) (by kernel_rfl) (fun _ _ _ h => by first | exact h | exact h.elim | cases h.1) (by decide) (fun _ h => h.elim) (fun _ h => h) (Sx.behind (by kernel_rfl) hs5.out) (Or.inl ⟨by rfl, fun u hu => by obtain ⟨e1, e2⟩ := hu; go_simp⟩) ?_
              try go_simp
              refine wpAnyX_both (T := fun u => u.cell? ⟨F, 0, none⟩ = some (Value.int .i64 Z) ∧ u.cell? ⟨F, 1, none⟩ = some (Value.slice av N cv)) (i := 13) (v := Value.agg #[Value.int .i64 Rz, Value.slice aJ RL.length cJ]) rfl (by kernel_rfl) (by kernel_rfl) (by kernel_rfl) (fun _ _ _ h => by first | exact h | exact h.elim | cases h.1) (by decide) (fun _ h => h.elim) (fun _ h => h) (Sx.behind (by kernel_rfl) hs5.out) (Or.inl ⟨by rfl, fun u hu => by obtain ⟨e1, e2⟩ := hu; go_simp⟩) ?_
              try go_simp
              refine wpAnyX_both (T := fun u => u.cell? ⟨F, 0, none⟩ = some (Value.int .i64 Z) ∧ u.cell? ⟨F, 1, none⟩ = some (Value.slice av N cv)) (i := 14) (v := Value.bool b1) rfl (by kernel_rfl) (by kernel_rfl) (by kernel_rfl) (fun _ _ _ h => by first | exact h | exact h.elim | cases h.1) (by decide) (fun _ h => h.elim) (fun _ h => h) (Sx.behind (by kernel_rfl) hs5.out) (Or.inl ⟨by rfl, fun u hu => by obtain ⟨e1, e2⟩ := hu; go_simp⟩) ?_
              try go_simp
              refine wpAnyX_both (T := fun u => u.cell? ⟨F, 0, none⟩ = some (Value.int .i64 Z) ∧ u.cell? ⟨F, 1, none⟩ = some (Value.slice av N cv)) (i := 15) (v := Value.bool b2) rfl (by kernel_rfl) (by kernel_rfl) (by kernel_rfl) (fun _ _ _ h => by first | exact h | exact h.elim | cases h.1) (by decide) (fun _ h => h.elim) (fun _ h => h) (Sx.behind (by kernel_rfl) hs5.out) (Or.inl ⟨by rfl, fun u hu => by obtain ⟨e1, e2⟩ := hu; go_simp⟩) ?_
              try go_simp
              refine wpAnyX_ready (rs := [17]) (by kernel_rfl) (by simp) (AllX.cons rfl (fun K hK => ?_) AllX.nil)
              have e8 := XN5.out.cell 0
              have e9 := XN5.out.cell 1
              have f8 := XN5.out.froz 0
              have f9 := XN5.out.froz 1
              simp at e8 e9
              go_simp
              have XN6 : Hid (Bx ((u5.setCell ⟨bN, 0, none⟩ (.int .i64 Rz)).setCell ⟨bN, 1, none⟩ (Value.slice aJ RL.length cJ)) bN #[.int .i64 Rz, Value.slice aJ RL.length cJ] 29) := (XN5.out.set 0 _).set 1 _
              have XF6 : Hid (Bx ((u5.setCell ⟨bN, 0, none⟩ (.int .i64 Rz)).setCell ⟨bN, 1, none⟩ (Value.slice aJ RL.length cJ)) F #[.int .i64 Z, Value.slice av N cv] 29) := (XF5.out.other (by have := hNF.out; omega) 0 _).other (by have := hNF.out; omega) 1 _
              have XR6 : Hid (Bx ((u5.setCell ⟨bN, 0, none⟩ (.int .i64 Rz)).setCell ⟨bN, 1, none⟩ (Value.slice aJ RL.length cJ)) w.heap.size #[.int .i64 0, .slice none 0 0] 29) := (XR5.out.other (by have := hNF.out; omega) 0 _).other (by have := hNF.out; omega) 1 _
              have OQ6 : Hid (OK3 ((u5.setCell ⟨bN, 0, none⟩ (.int .i64 Rz)).setCell ⟨bN, 1, none⟩ (Value.slice aJ RL.length cJ)) w.heap.size (Value.slice av N cv) ls) := own3_set (own3_set OQ5.out XN5.out (by decide) _) (XN5.out.set 0 (.int .i64 Rz)) (by decide) _
              have OJ6 : Hid (OK3 ((u5.setCell ⟨bN, 0, none⟩ (.int .i64 Rz)).setCell ⟨bN, 1, none⟩ (Value.slice aJ RL.length cJ)) w.heap.size (Value.slice aJ RL.length cJ) RL) := own3_set (own3_set OJ5.out XN5.out (by decide) _) (XN5.out.set 0 (.int .i64 Rz)) (by decide) _
              have DW6 : Hid (Dw β w ((u5.setCell ⟨bN, 0, none⟩ (.int .i64 Rz)).setCell ⟨bN, 1, none⟩ (Value.slice aJ RL.length cJ))) := (DW5.out.put bN 0 _ (by have := hNF.out; omega)).put bN 1 _ (by have := hNF.out; omega)
              have RR6 : Hid (Rr ((u5.setCell ⟨bN, 0, none⟩ (.int .i64 Rz)).setCell ⟨bN, 1, none⟩ (Value.slice aJ RL.length cJ)) β a c bs) := (RR5.out.put DW5.out.size hβa.out (by have := hNF.out; omega) (by have := hNF.out; omega) 0 _).put (by simpa using DW5.out.size) hβa.out (by have := hNF.out; omega) (by have := hNF.out; omega) 1 _
              generalize (u5.setCell ⟨bN, 0, none⟩ (.int .i64 Rz)).setCell ⟨bN, 1, none⟩ (Value.slice aJ RL.length cJ) = u6 at *
              clear e8 e9 f8 f9
              have hs6 : Hid ((fun u => u.cell? ⟨F, 0, none⟩ = some (Value.int .i64 Z) ∧ u.cell? ⟨F, 1, none⟩ = some (Value.slice av N cv)) u6) := ⟨XF6.out.cell 0, XF6.out.cell 1⟩
              refine hK _ _ (Sx.behind (by kernel_rfl) hs6.out) ?_
              clear hK K
              try go_simp
              refine wpAnyX_both (T := fun u => u.cell? ⟨F, 0, none⟩ = some (Value.int .i64 Z) ∧ u.cell? ⟨F, 1, none⟩ = some (Value.slice av N cv)) (i := 18) (v := Value.bool b1) rfl (by kernel_rfl) (by kernel_rfl) (by kernel_rfl) (fun _ _ _ h => by first | exact h | exact h.elim | cases h.1) (by decide) (fun _ h => h.elim) (fun _ h => h) (Sx.behind (by kernel_rfl) hs6.out) (Or.inl ⟨by rfl, fun u hu => by obtain ⟨e1, e2⟩ := hu; go_simp⟩) ?_
              try go_simp
              refine wpAnyX_both (T := fun u => u.cell? ⟨F, 0, none⟩ = some (Value.int .i64 Z) ∧ u.cell? ⟨F, 1, none⟩ = some (Value.slice av N cv)) (i := 19) (v := Value.bool b2) rfl (by kernel_rfl) (by kernel_rfl) (by kernel_rfl) (fun _ _ _ h => by first | exact h | exact h.elim | cases h.1) (by decide) (fun _ h => h.elim) (fun _ h => h) (Sx.behind (by kernel_rfl) hs6.out) (Or.inl ⟨by rfl, fun u hu => by obtain ⟨e1, e2⟩ := hu; go_simp⟩) ?_
              try go_simp
              refine wpAnyX_done (by kernel_rfl) ?_ _
              cases b2 with
              | true =>
                have q0 := XN6.out.cell 0
                have q1 := XN6.out.cell 1
                have p0 := XF6.out.cell 0
                have p1 := XF6.out.cell 1
                have f0 := XF6.out.froz 0
                have f1 := XF6.out.froz 1
                simp at q0 q1 p0 p1
                obtain ⟨hRz, hRl⟩ := JY.out rfl
                subst hRz
                go_wp2_with fail
                go_roundw
                case rel =>
                  have XE := (XF6.out.set 0 (.int .i64 Rz)).set 1 (.slice aJ RL.length cJ)
                  refine ⟨k', _, RL, by have := HK'.out; omega, by first | rfl | go_num, by have := HK'.out; have := HNl.out; have := LK.out; omega, XE, ?_, JI.out, ?_, ?_, ?_⟩
                  · exact own3_set (own3_set OJ6.out XF6.out (by decide) _) (XF6.out.set 0 (.int .i64 Rz)) (by decide) _
                  · exact (XR6.out.other (by omega) 0 _).other (by omega) 1 _
                  · exact (RR6.out.put DW6.out.size hβa.out (by omega) (by omega) 0 _).put (by simpa using DW6.out.size) hβa.out (by omega) (by omega) 1 _
                  · exact (DW6.out.put F 0 _ (by omega)).put F 1 _ (by omega)
                case measure => have := HK'.out; simp [intOf]; omega
              | false =>
                go_wp2_with fail
                go_roundw
                case rel => exact ⟨k', _, ls, by have := HK'.out; omega, by first | rfl | go_num, by have := HK'.out; have := HNl.out; have := LK.out; omega, XF6.out, OQ6.out, IN.out, XR6.out, RR6.out, DW6.out⟩
                case measure => have := HK'.out; simp [intOf]; omega
          · go_simp
            have hbx : Below u2.heap.size u2 (u2.alloc (Obj.cells #[.int .i64 0, .slice none 0 0] 29)) := (Below.refl _ _).alloc (Nat.le_refl _) _
            have XN3 := kide (Bx.new u2 #[.int .i64 0, .slice none 0 0] 29)
            have RR3 := kide (RR2.out.later hbx)
            have XF3 := kide (XF2.out.later hbx)
            have XR3 := kide (XR2.out.later hbx)
            have OQ3 : Hid (OK3 _ _ _ _) := own3_later OQ2.out hbx
            have DW3 := kide (DW2.out.alloc (Obj.cells #[.int .i64 0, .slice none 0 0] 29))
            have hNF : Hid (F < u2.heap.size) := XF2.out.lt
            obtain ⟨bN, hbN⟩ : ∃ x, u2.heap.size = x := ⟨_, rfl⟩
            rw [hbN] at XN3 hNF ⊢
            have hNb : bN ≠ β := by have := hNF.out; omega
            clear hbN hbx
            generalize u2.alloc (Obj.cells #[.int .i64 0, .slice none 0 0] 29) = u3 at *
            have hs3 : Hid ((fun u => u.cell? ⟨F, 0, none⟩ = some (Value.int .i64 Z) ∧ u.cell? ⟨F, 1, none⟩ = some (Value.slice av N cv)) u3) := ⟨XF3.out.cell 0, XF3.out.cell 1⟩
            refine hK _ _ (Sx.behind (by kernel_rfl) hs3.out) ?_
            clear hK K
            try go_simp
            refine wpAnyX_ready (rs := [10]) (by kernel_rfl) (by simp) (AllX.cons rfl (fun K hK => ?_) AllX.nil)
            go_simp
            refine Calls.mono (belowI_any 9 (by omega) (by omega) β a c bs u3 RR3.out) ?_
            rintro e u4 ⟨y3, rfl, hy3, hr4, hd4⟩
            have RR4 := kide hr4
            have DW4 := kide (DW3.out.trans hd4)
            have XF4 := kide (keep.out _ _ _ _ hFb hd4 XF3.out)
            have XR4 := kide (keep.out _ _ _ _ hnb hd4 XR3.out)
            have OQ4 := kide (OQ3.out.dw hd4 hβw)
            have XN4 := kide (keep.out _ _ _ _ hNb hd4 XN3.out)
            clear hr4 hd4
            have hs4 : Hid ((fun u => u.cell? ⟨F, 0, none⟩ = some (Value.int .i64 Z) ∧ u.cell? ⟨F, 1, none⟩ = some (Value.slice av N cv)) u4) := ⟨XF4.out.cell 0, XF4.out.cell 1⟩
            refine hK _ _ (Sx.behind (by kernel_rfl) hs4.out) ?_
            clear hK K
            try go_simp
            refine wpAnyX_ready (rs := [11]) (by kernel_rfl) (by simp) (AllX.cons rfl (fun K hK => ?_) AllX.nil)
            go_simp
            have HJ := kide (specJoin_own Z (y1 : Int) (y2 : Int) (y3 : Int) (Value.slice av N cv) w.heap.size ls u4 OQ4.out (by have := HNl.out; have := LK.out; omega) IN.out)
            have hJY := joinR_yes (z := Z) (ls := ls) (x := (y1 : Int)) (y := (y2 : Int)) (q := (y3 : Int))
            have hJI := (joinR_ok Z ls (y1 : Int) (y2 : Int) (y3 : Int) (by have := HNl.out; have := LK.out; omega) IN.out).2
            generalize joinR Z ls (y1 : Int) (y2 : Int) (y3 : Int) = R at *
            obtain ⟨Rz, RL, b1, b2⟩ := R
            have JY := kide hJY
            have JI := kide hJI
            unfold RetJ at HJ
            simp only [] at HJ JY JI
            clear hJY hJI
            refine Calls.mono HJ.out ?_
            rintro e u5 ⟨vJ, rfl, oJ, hb5⟩
            obtain ⟨aJ, cJ, rfl⟩ := ok3_form oJ
            have RR5 := kide (RR4.out.later hb5)
            have XF5 := kide (XF4.out.later hb5)
            have XR5 := kide (XR4.out.later hb5)
            have XN5 := kide (XN4.out.later hb5)
            have OQ5 : Hid (OK3 _ _ _ _) := own3_later OQ4.out hb5
            have DW5 := kide (DW4.out.trans (Dw.of hb5))
            have OJ5 := kide (ok3_base oJ (show w.heap.size ≤ u4.heap.size from DW4.out.size))
            clear oJ hb5 HJ
            have hs5 : Hid ((fun u => u.cell? ⟨F, 0, none⟩ = some (Value.int .i64 Z) ∧ u.cell? ⟨F, 1, none⟩ = some (Value.slice av N cv)) u5) := ⟨XF5.out.cell 0, XF5.out.cell 1⟩
            refine hK _ _ (Sx.behind (by kernel_rfl) hs5.out) ?_
            clear hK K
            try go_simp
            refine wpAnyX_both (T := fun u => u.cell? ⟨F, 0, none⟩ = some (Value.int .i64 Z) ∧ u.cell? ⟨F, 1, none⟩ = some (Value.slice av N cv)) (i := 12) (v := Value.tuple #[Value.agg #[Value.int .i64 Rz, Value.slice aJ RL.length cJ], Value.bool b1, Value.bool b2]) rfl (by kernel_rfl) (by kernel_rfl) (by kernel_rfl) (fun _ _ _ h => by first | exact h | exact h.elim | cases h.1) (by decide) (fun _ h => h.elim) (fun _ h => h) (Sx.behind (by kernel_rfl) hs5.out) (Or.inl ⟨by rfl, fun u hu => by obtain ⟨e1, e2⟩ := hu; go_simp⟩) ?_
            try go_simp
            refine wpAnyX_both (T := fun u => u.cell? ⟨F, 0, none⟩ = some (Value.int .i64 Z) ∧ u.cell? ⟨F, 1, none⟩ = some (Value.slice av N cv)) (i := 13) (v := Value.agg #[Value.int .i64 Rz, Value.slice aJ RL.length cJ]) rfl (by kernel_rfl) (by kernel_rfl) (by kernel_rfl) (fun _ _ _ h => by first | exact h | exact h.elim | cases h.1) (by decide) (fun _ h => h.elim) (fun _ h => h) (Sx.behind (by kernel_rfl) hs5.out) (Or.inl ⟨by rfl, fun u hu => by obtain ⟨e1, e2⟩ := hu; go_simp⟩) ?_
            try go_simp
            refine wpAnyX_both (T := fun u => u.cell? ⟨F, 0, none⟩ = some (Value.int .i64 Z) ∧ u.cell? ⟨F, 1, none⟩ = some (Value.slice av N cv)) (i := 14) (v := Value.bool b1) rfl (by kernel_rfl) (by kernel_rfl) (by kernel_rfl) (fun _ _ _ h => by first | exact h | exact h.elim | cases h.1) (by decide) (fun _ h => h.elim) (fun _ h => h) (Sx.behind (by kernel_rfl) hs5.out) (Or.inl ⟨by rfl, fun u hu => by obtain ⟨e1, e2⟩ := hu; go_simp⟩) ?_
            try go_simp
            refine wpAnyX_both (T := fun u => u.cell? ⟨F, 0, none⟩ = some (Value.int .i64 Z) ∧ u.cell? ⟨F, 1, none⟩ = some (Value.slice av N cv)) (i := 15) (v := Value.bool b2) rfl (by kernel_rfl) (by kernel_rfl) (by kernel_rfl) (fun _ _ _ h => by first | exact h | exact h.elim | cases h.1) (by decide) (fun _ h => h.elim) (fun _ h => h) (Sx.behind (by kernel_rfl) hs5.out) (Or.inl ⟨by rfl, fun u hu => by obtain ⟨e1, e2⟩ := hu; go_simp⟩) ?_
            try go_simp
            refine wpAnyX_ready (rs := [17]) (by kernel_rfl) (by simp) (AllX.cons rfl (fun K hK => ?_) AllX.nil)
            have e8 := XN5.out.cell 0
            have e9 := XN5.out.cell 1
            have f8 := XN5.out.froz 0
            have f9 := XN5.out.froz 1
            simp at e8 e9
            go_simp
            have XN6 : Hid (Bx ((u5.setCell ⟨bN, 0, none⟩ (.int .i64 Rz)).setCell ⟨bN, 1, none⟩ (Value.slice aJ RL.length cJ)) bN #[.int .i64 Rz, Value.slice aJ RL.length cJ] 29) := (XN5.out.set 0 _).set 1 _
            have XF6 : Hid (Bx ((u5.setCell ⟨bN, 0, none⟩ (.int .i64 Rz)).setCell ⟨bN, 1, none⟩ (Value.slice aJ RL.length cJ)) F #[.int .i64 Z, Value.slice av N cv] 29) := (XF5.out.other (by have := hNF.out; omega) 0 _).other (by have := hNF.out; omega) 1 _
            have XR6 : Hid (Bx ((u5.setCell ⟨bN, 0, none⟩ (.int .i64 Rz)).setCell ⟨bN, 1, none⟩ (Value.slice aJ RL.length cJ)) w.heap.size #[.int .i64 0, .slice none 0 0] 29) := (XR5.out.other (by have := hNF.out; omega) 0 _).other (by have := hNF.out; omega) 1 _
            have OQ6 : Hid (OK3 ((u5.setCell ⟨bN, 0, none⟩ (.int .i64 Rz)).setCell ⟨bN, 1, none⟩ (Value.slice aJ RL.length cJ)) w.heap.size (Value.slice av N cv) ls) := own3_set (own3_set OQ5.out XN5.out (by decide) _) (XN5.out.set 0 (.int .i64 Rz)) (by decide) _
            have OJ6 : Hid (OK3 ((u5.setCell ⟨bN, 0, none⟩ (.int .i64 Rz)).setCell ⟨bN, 1, none⟩ (Value.slice aJ RL.length cJ)) w.heap.size (Value.slice aJ RL.length cJ) RL) := own3_set (own3_set OJ5.out XN5.out (by decide) _) (XN5.out.set 0 (.int .i64 Rz)) (by decide) _
            have DW6 : Hid (Dw β w ((u5.setCell ⟨bN, 0, none⟩ (.int .i64 Rz)).setCell ⟨bN, 1, none⟩ (Value.slice aJ RL.length cJ))) := (DW5.out.put bN 0 _ (by have := hNF.out; omega)).put bN 1 _ (by have := hNF.out; omega)
            have RR6 : Hid (Rr ((u5.setCell ⟨bN, 0, none⟩ (.int .i64 Rz)).setCell ⟨bN, 1, none⟩ (Value.slice aJ RL.length cJ)) β a c bs) := (RR5.out.put DW5.out.size hβa.out (by have := hNF.out; omega) (by have := hNF.out; omega) 0 _).put (by simpa using DW5.out.size) hβa.out (by have := hNF.out; omega) (by have := hNF.out; omega) 1 _
            generalize (u5.setCell ⟨bN, 0, none⟩ (.int .i64 Rz)).setCell ⟨bN, 1, none⟩ (Value.slice aJ RL.length cJ) = u6 at *
            clear e8 e9 f8 f9
            have hs6 : Hid ((fun u => u.cell? ⟨F, 0, none⟩ = some (Value.int .i64 Z) ∧ u.cell? ⟨F, 1, none⟩ = some (Value.slice av N cv)) u6) := ⟨XF6.out.cell 0, XF6.out.cell 1⟩
            refine hK _ _ (Sx.behind (by kernel_rfl) hs6.out) ?_
            clear hK K
            try go_simp
            refine wpAnyX_both (T := fun u => u.cell? ⟨F, 0, none⟩ = some (Value.int .i64 Z) ∧ u.cell? ⟨F, 1, none⟩ = some (Value.slice av N cv)) (i := 18) (v := Value.bool b1) rfl (by kernel_rfl) (by kernel_rfl) (by kernel_rfl) (fun _ _ _ h => by first | exact h | exact h.elim | cases h.1) (by decide) (fun _ h => h.elim) (fun _ h => h) (Sx.behind (by kernel_rfl) hs6.out) (Or.inl ⟨by rfl, fun u hu => by obtain ⟨e1, e2⟩ := hu; go_simp⟩) ?_
            try go_simp
            refine wpAnyX_both (T := fun u => u.cell? ⟨F, 0, none⟩ = some (Value.int .i64 Z) ∧ u.cell? ⟨F, 1, none⟩ = some (Value.slice av N cv)) (i := 19) (v := Value.bool b2) rfl (by kernel_rfl) (by kernel_rfl) (by kernel_rfl) (fun _ _ _ h => by first | exact h | exact h.elim | cases h.1) (by decide) (fun _ h => h.elim) (fun _ h => h) (Sx.behind (by kernel_rfl) hs6.out) (Or.inl ⟨by rfl, fun u hu => by obtain ⟨e1, e2⟩ := hu; go_simp⟩) ?_
            try go_simp
            refine wpAnyX_done (by kernel_rfl) ?_ _
            cases b2 with
            | true =>
              have q0 := XN6.out.cell 0
              have q1 := XN6.out.cell 1
              have p0 := XF6.out.cell 0
              have p1 := XF6.out.cell 1
              have f0 := XF6.out.froz 0
              have f1 := XF6.out.froz 1
              simp at q0 q1 p0 p1
              obtain ⟨hRz, hRl⟩ := JY.out rfl
              subst hRz
              go_wp2_with fail
              go_roundw
              case rel =>
                have XE := (XF6.out.set 0 (.int .i64 Rz)).set 1 (.slice aJ RL.length cJ)
                refine ⟨k', _, RL, by have := HK'.out; omega, by first | rfl | go_num, by have := HK'.out; have := HNl.out; have := LK.out; omega, XE, ?_, JI.out, ?_, ?_, ?_⟩
                · exact own3_set (own3_set OJ6.out XF6.out (by decide) _) (XF6.out.set 0 (.int .i64 Rz)) (by decide) _
                · exact (XR6.out.other (by omega) 0 _).other (by omega) 1 _
                · exact (RR6.out.put DW6.out.size hβa.out (by omega) (by omega) 0 _).put (by simpa using DW6.out.size) hβa.out (by omega) (by omega) 1 _
                · exact (DW6.out.put F 0 _ (by omega)).put F 1 _ (by omega)
              case measure => have := HK'.out; simp [intOf]; omega
            | false =>
              go_wp2_with fail
              go_roundw
              case rel => exact ⟨k', _, ls, by have := HK'.out; omega, by first | rfl | go_num, by have := HK'.out; have := HNl.out; have := LK.out; omega, XF6.out, OQ6.out, IN.out, XR6.out, RR6.out, DW6.out⟩
              case measure => have := HK'.out; simp [intOf]; omega
        · go_simp
          have hbx : Below u1.heap.size u1 (u1.alloc (Obj.cells #[.int .i64 0, .slice none 0 0] 29)) := (Below.refl _ _).alloc (Nat.le_refl _) _
          have XN2 := kide (Bx.new u1 #[.int .i64 0, .slice none 0 0] 29)
          have RR2 := kide (RR1.out.later hbx)
          have XF2 := kide (XF1.out.later hbx)
          have XR2 := kide (XR1.out.later hbx)
          have OQ2 : Hid (OK3 _ _ _ _) := own3_later OQ1.out hbx
          have DW2 := kide (DW1.out.alloc (Obj.cells #[.int .i64 0, .slice none 0 0] 29))
          have hNF : Hid (F < u1.heap.size) := XF1.out.lt
          obtain ⟨bN, hbN⟩ : ∃ x, u1.heap.size = x := ⟨_, rfl⟩
          rw [hbN] at XN2 hNF ⊢
          have hNb : bN ≠ β := by have := hNF.out; omega
          clear hbN hbx
          generalize u1.alloc (Obj.cells #[.int .i64 0, .slice none 0 0] 29) = u2 at *
          have hs2 : Hid ((fun u => u.cell? ⟨F, 0, none⟩ = some (Value.int .i64 Z) ∧ u.cell? ⟨F, 1, none⟩ = some (Value.slice av N cv)) u2) := ⟨XF2.out.cell 0, XF2.out.cell 1⟩
          refine hK _ _ (Sx.behind (by kernel_rfl) hs2.out) ?_
          clear hK K
          try go_simp
          refine wpAnyX_ready (rs := [8]) (by kernel_rfl) (by simp) (AllX.cons rfl (fun K hK => ?_) AllX.nil)
          go_simp
          refine Calls.mono (belowI_any Z (by omega) (by omega) β a c bs u2 RR2.out) ?_
          rintro e u3 ⟨y2, rfl, hy2, hr3, hd3⟩
          have RR3 := kide hr3
          have DW3 := kide (DW2.out.trans hd3)
          have XF3 := kide (keep.out _ _ _ _ hFb hd3 XF2.out)
          have XR3 := kide (keep.out _ _ _ _ hnb hd3 XR2.out)
          have OQ3 := kide (OQ2.out.dw hd3 hβw)
          have XN3 := kide (keep.out _ _ _ _ hNb hd3 XN2.out)
          clear hr3 hd3
          have hs3 : Hid ((fun u => u.cell? ⟨F, 0, none⟩ = some (Value.int .i64 Z) ∧ u.cell? ⟨F, 1, none⟩ = some (Value.slice av N cv)) u3) := ⟨XF3.out.cell 0, XF3.out.cell 1⟩
          refine hK _ _ (Sx.behind (by kernel_rfl) hs3.out) ?_
          clear hK K
          try go_simp
          refine wpAnyX_ready (rs := [10]) (by kernel_rfl) (by simp) (AllX.cons rfl (fun K hK => ?_) AllX.nil)
          go_simp
          refine Calls.mono (belowI_any 9 (by omega) (by omega) β a c bs u3 RR3.out) ?_
          rintro e u4 ⟨y3, rfl, hy3, hr4, hd4⟩
          have RR4 := kide hr4
          have DW4 := kide (DW3.out.trans hd4)
          have XF4 := kide (keep.out _ _ _ _ hFb hd4 XF3.out)
          have XR4 := kide (keep.out _ _ _ _ hnb hd4 XR3.out)
          have OQ4 := kide (OQ3.out.dw hd4 hβw)
          have XN4 := kide (keep.out _ _ _ _ hNb hd4 XN3.out)
          clear hr4 hd4
          have hs4 : Hid ((fun u => u.cell? ⟨F, 0, none⟩ = some (Value.int .i64 Z) ∧ u.cell? ⟨F, 1, none⟩ = some (Value.slice av N cv)) u4) := ⟨XF4.out.cell 0, XF4.out.cell 1⟩
          refine hK _ _ (Sx.behind (by kernel_rfl) hs4.out) ?_
          clear hK K
          try go_simp
          refine wpAnyX_ready (rs := [11]) (by kernel_rfl) (by simp) (AllX.cons rfl (fun K hK => ?_) AllX.nil)
          go_simp
          have HJ := kide (specJoin_own Z (y1 : Int) (y2 : Int) (y3 : Int) (Value.slice av N cv) w.heap.size ls u4 OQ4.out (by have := HNl.out; have := LK.out; omega) IN.out)
          have hJY := joinR_yes (z := Z) (ls := ls) (x := (y1 : Int)) (y := (y2 : Int)) (q := (y3 : Int))
          have hJI := (joinR_ok Z ls (y1 : Int) (y2 : Int) (y3 : Int) (by have := HNl.out; have := LK.out; omega) IN.out).2
          generalize joinR Z ls (y1 : Int) (y2 : Int) (y3 : Int) = R at *
          obtain ⟨Rz, RL, b1, b2⟩ := R
          have JY := kide hJY
          have JI := kide hJI
          unfold RetJ at HJ
          simp only [] at HJ JY JI
          clear hJY hJI
          refine Calls.mono HJ.out ?_
          rintro e u5 ⟨vJ, rfl, oJ, hb5⟩
          obtain ⟨aJ, cJ, rfl⟩ := ok3_form oJ
          have RR5 := kide (RR4.out.later hb5)
          have XF5 := kide (XF4.out.later hb5)
          have XR5 := kide (XR4.out.later hb5)
          have XN5 := kide (XN4.out.later hb5)
          have OQ5 : Hid (OK3 _ _ _ _) := own3_later OQ4.out hb5
          have DW5 := kide (DW4.out.trans (Dw.of hb5))
          have OJ5 := kide (ok3_base oJ (show w.heap.size ≤ u4.heap.size from DW4.out.size))
          clear oJ hb5 HJ
          have hs5 : Hid ((fun u => u.cell? ⟨F, 0, none⟩ = some (Value.int .i64 Z) ∧ u.cell? ⟨F, 1, none⟩ = some (Value.slice av N cv)) u5) := ⟨XF5.out.cell 0, XF5.out.cell 1⟩
          refine hK _ _ (Sx.behind (by kernel_rfl) hs5.out) ?_
          clear hK K
          try go_simp
          refine wpAnyX_both (T := fun u => u.cell? ⟨F, 0, none⟩ = some (Value.int .i64 Z) ∧ u.cell? ⟨F, 1, none⟩ = some (Value.slice av N cv)) (i := 12) (v := Value.tuple #[Value.agg #[Value.int .i64 Rz, Value.slice aJ RL.length cJ], Value.bool b1, Value.bool b2]) rfl (by kernel_rfl) (by kernel_rfl) (by kernel_rfl) (fun _ _ _ h => by first | exact h | exact h.elim | cases h.1) (by decide) (fun _ h => h.elim) (fun _ h => h) (Sx.behind (by kernel_rfl) hs5.out) (Or.inl ⟨by rfl, fun u hu => by obtain ⟨e1, e2⟩ := hu; go_simp⟩) ?_
          try go_simp
          refine wpAnyX_both (T := fun u => u.cell? ⟨F, 0, none⟩ = some (Value.int .i64 Z) ∧ u.cell? ⟨F, 1, none⟩ = some (Value.slice av N cv)) (i := 13) (v := Value.agg #[Value.int .i64 Rz, Value.slice aJ RL.length cJ]) rfl (by kernel_rfl) (by kernel_rfl) (by kernel_rfl) (fun _ _ _ h => by first | exact h | exact h.elim | cases h.1) (by decide) (fun _ h => h.elim) (fun _ h => h) (Sx.behind (by kernel_rfl) hs5.out) (Or.inl ⟨by rfl, fun u hu => by obtain ⟨e1, e2⟩ := hu; go_simp⟩) ?_
          try go_simp
          refine wpAnyX_both (T := fun u => u.cell? ⟨F, 0, none⟩ = some (Value.int .i64 Z) ∧ u.cell? ⟨F, 1, none⟩ = some (Value.slice av N cv)) (i := 14) (v := Value.bool b1) rfl (by kernel_rfl) (by kernel_rfl) (by kernel_rfl) (fun _ _ _ h => by first | exact h | exact h.elim | cases h.1) (by decide) (fun _ h => h.elim) (fun _ h => h) (Sx.behind (by kernel_rfl) hs5.out) (Or.inl ⟨by rfl, fun u hu => by obtain ⟨e1, e2⟩ := hu; go_simp⟩) ?_
          try go_simp
          refine wpAnyX_both (T := fun u => u.cell? ⟨F, 0, none⟩ = some (Value.int .i64 Z) ∧ u.cell? ⟨F, 1, none⟩ = some (Value.slice av N cv)) (i := 15) (v := Value.bool b2) rfl (by kernel_rfl) (by kernel_rfl) (by kernel_rfl) (fun _ _ _ h => by first | exact h | exact h.elim | cases h.1) (by decide) (fun _ h => h.elim) (fun _ h => h) (Sx.behind (by kernel_rfl) hs5.out) (Or.inl ⟨by rfl, fun u hu => by obtain ⟨e1, e2⟩ := hu; go_simp⟩) ?_
          try go_simp
          refine wpAnyX_ready (rs := [17]) (by kernel_rfl) (by simp) (AllX.cons rfl (fun K hK => ?_) AllX.nil)
          have e8 := XN5.out.cell 0
          have e9 := XN5.out.cell 1
          have f8 := XN5.out.froz 0
          have f9 := XN5.out.froz 1
          simp at e8 e9
          go_simp
          have XN6 : Hid (Bx ((u5.setCell ⟨bN, 0, none⟩ (.int .i64 Rz)).setCell ⟨bN, 1, none⟩ (Value.slice aJ RL.length cJ)) bN #[.int .i64 Rz, Value.slice aJ RL.length cJ] 29) := (XN5.out.set 0 _).set 1 _
          have XF6 : Hid (Bx ((u5.setCell ⟨bN, 0, none⟩ (.int .i64 Rz)).setCell ⟨bN, 1, none⟩ (Value.slice aJ RL.length cJ)) F #[.int .i64 Z, Value.slice av N cv] 29) := (XF5.out.other (by have := hNF.out; omega) 0 _).other (by have := hNF.out; omega) 1 _
          have XR6 : Hid (Bx ((u5.setCell ⟨bN, 0, none⟩ (.int .i64 Rz)).setCell ⟨bN, 1, none⟩ (Value.slice aJ RL.length cJ)) w.heap.size #[.int .i64 0, .slice none 0 0] 29) := (XR5.out.other (by have := hNF.out; omega) 0 _).other (by have := hNF.out; omega) 1 _
          have OQ6 : Hid (OK3 ((u5.setCell ⟨bN, 0, none⟩ (.int .i64 Rz)).setCell ⟨bN, 1, none⟩ (Value.slice aJ RL.length cJ)) w.heap.size (Value.slice av N cv) ls) := own3_set (own3_set OQ5.out XN5.out (by decide) _) (XN5.out.set 0 (.int .i64 Rz)) (by decide) _
          have OJ6 : Hid (OK3 ((u5.setCell ⟨bN, 0, none⟩ (.int .i64 Rz)).setCell ⟨bN, 1, none⟩ (Value.slice aJ RL.length cJ)) w.heap.size (Value.slice aJ RL.length cJ) RL) := own3_set (own3_set OJ5.out XN5.out (by decide) _) (XN5.out.set 0 (.int .i64 Rz)) (by decide) _
          have DW6 : Hid (Dw β w ((u5.setCell ⟨bN, 0, none⟩ (.int .i64 Rz)).setCell ⟨bN, 1, none⟩ (Value.slice aJ RL.length cJ))) := (DW5.out.put bN 0 _ (by have := hNF.out; omega)).put bN 1 _ (by have := hNF.out; omega)
          have RR6 : Hid (Rr ((u5.setCell ⟨bN, 0, none⟩ (.int .i64 Rz)).setCell ⟨bN, 1, none⟩ (Value.slice aJ RL.length cJ)) β a c bs) := (RR5.out.put DW5.out.size hβa.out (by have := hNF.out; omega) (by have := hNF.out; omega) 0 _).put (by simpa using DW5.out.size) hβa.out (by have := hNF.out; omega) (by have := hNF.out; omega) 1 _
          generalize (u5.setCell ⟨bN, 0, none⟩ (.int .i64 Rz)).setCell ⟨bN, 1, none⟩ (Value.slice aJ RL.length cJ) = u6 at *
          clear e8 e9 f8 f9
          have hs6 : Hid ((fun u => u.cell? ⟨F, 0, none⟩ = some (Value.int .i64 Z) ∧ u.cell? ⟨F, 1, none⟩ = some (Value.slice av N cv)) u6) := ⟨XF6.out.cell 0, XF6.out.cell 1⟩
          refine hK _ _ (Sx.behind (by kernel_rfl) hs6.out) ?_
          clear hK K
          try go_simp
          refine wpAnyX_both (T := fun u => u.cell? ⟨F, 0, none⟩ = some (Value.int .i64 Z) ∧ u.cell? ⟨F, 1, none⟩ = some (Value.slice av N cv)) (i := 18) (v := Value.bool b1) rfl (by kernel_rfl) (by kernel_rfl) (by kernel_rfl) (fun _ _ _ h => by first | exact h | exact h.elim | cases h.1) (by decide) (fun _ h => h.elim) (fun _ h => h) (Sx.behind (by kernel_rfl) hs6.out) (Or.inl ⟨by rfl, fun u hu => by obtain ⟨e1, e2⟩ := hu; go_simp⟩) ?_
          try go_simp
          refine wpAnyX_both (T := fun u => u.cell? ⟨F, 0, none⟩ = some (Value.int .i64 Z) ∧ u.cell? ⟨F, 1, none⟩ = some (Value.slice av N cv)) (i := 19) (v := Value.bool b2) rfl (by kernel_rfl) (by kernel_rfl) (by kernel_rfl) (fun _ _ _ h => by first | exact h | exact h.elim | cases h.1) (by decide) (fun _ h => h.elim) (fun _ h => h) (Sx.behind (by kernel_rfl) hs6.out) (Or.inl ⟨by rfl, fun u hu => by obtain ⟨e1, e2⟩ := hu; go_simp⟩) ?_
          try go_simp
          refine wpAnyX_done (by kernel_rfl) ?_ _
          cases b2 with
          | true =>
            have q0 := XN6.out.cell 0
            have q1 := XN6.out.cell 1
            have p0 := XF6.out.cell 0
            have p1 := XF6.out.cell 1
            have f0 := XF6.out.froz 0
            have f1 := XF6.out.froz 1
            simp at q0 q1 p0 p1
            obtain ⟨hRz, hRl⟩ := JY.out rfl
            subst hRz
            go_wp2_with fail
            go_roundw
            case rel =>
              have XE := (XF6.out.set 0 (.int .i64 Rz)).set 1 (.slice aJ RL.length cJ)
              refine ⟨k', _, RL, by have := HK'.out; omega, by first | rfl | go_num, by have := HK'.out; have := HNl.out; have := LK.out; omega, XE, ?_, JI.out, ?_, ?_, ?_⟩
              · exact own3_set (own3_set OJ6.out XF6.out (by decide) _) (XF6.out.set 0 (.int .i64 Rz)) (by decide) _
              · exact (XR6.out.other (by omega) 0 _).other (by omega) 1 _
              · exact (RR6.out.put DW6.out.size hβa.out (by omega) (by omega) 0 _).put (by simpa using DW6.out.size) hβa.out (by omega) (by omega) 1 _
              · exact (DW6.out.put F 0 _ (by omega)).put F 1 _ (by omega)
            case measure => have := HK'.out; simp [intOf]; omega
          | false =>
            go_wp2_with fail
            go_roundw
            case rel => exact ⟨k', _, ls, by have := HK'.out; omega, by first | rfl | go_num, by have := HK'.out; have := HNl.out; have := LK.out; omega, XF6.out, OQ6.out, IN.out, XR6.out, RR6.out, DW6.out⟩
            case measure => have := HK'.out; simp [intOf]; omega
      · go_simp
        have hbx : Below u0.heap.size u0 (u0.alloc (Obj.cells #[.int .i64 0, .slice none 0 0] 29)) := (Below.refl _ _).alloc (Nat.le_refl _) _
        have XN1 := kide (Bx.new u0 #[.int .i64 0, .slice none 0 0] 29)
        have RR1 := kide (RR0.out.later hbx)
        have XF1 := kide (XF0.out.later hbx)
        have XR1 := kide (XR0.out.later hbx)
        have OQ1 : Hid (OK3 _ _ _ _) := own3_later OQ0.out hbx
        have DW1 := kide (DW0.out.alloc (Obj.cells #[.int .i64 0, .slice none 0 0] 29))
        have hNF : Hid (F < u0.heap.size) := XF0.out.lt
        obtain ⟨bN, hbN⟩ : ∃ x, u0.heap.size = x := ⟨_, rfl⟩
        rw [hbN] at XN1 hNF ⊢
        have hNb : bN ≠ β := by have := hNF.out; omega
        clear hbN hbx
        generalize u0.alloc (Obj.cells #[.int .i64 0, .slice none 0 0] 29) = u1 at *
        have hs1 : Hid ((fun u => u.cell? ⟨F, 0, none⟩ = some (Value.int .i64 Z) ∧ u.cell? ⟨F, 1, none⟩ = some (Value.slice av N cv)) u1) := ⟨XF1.out.cell 0, XF1.out.cell 1⟩
        refine hK _ _ (Sx.behind (by kernel_rfl) hs1.out) ?_
        clear hK K
        try go_simp
        refine wpAnyX_ready (rs := [4]) (by kernel_rfl) (by simp) (AllX.cons rfl (fun K hK => ?_) AllX.nil)
        go_simp
        refine Calls.mono (belowI_any Z (by omega) (by omega) β a c bs u1 RR1.out) ?_
        rintro e u2 ⟨y1, rfl, hy1, hr2, hd2⟩
        have RR2 := kide hr2
        have DW2 := kide (DW1.out.trans hd2)
        have XF2 := kide (keep.out _ _ _ _ hFb hd2 XF1.out)
        have XR2 := kide (keep.out _ _ _ _ hnb hd2 XR1.out)
        have OQ2 := kide (OQ1.out.dw hd2 hβw)
        have XN2 := kide (keep.out _ _ _ _ hNb hd2 XN1.out)
        clear hr2 hd2
        have hs2 : Hid ((fun u => u.cell? ⟨F, 0, none⟩ = some (Value.int .i64 Z) ∧ u.cell? ⟨F, 1, none⟩ = some (Value.slice av N cv)) u2) := ⟨XF2.out.cell 0, XF2.out.cell 1⟩
        refine hK _ _ (Sx.behind (by kernel_rfl) hs2.out) ?_
        clear hK K
        try go_simp
        refine wpAnyX_ready (rs := [8]) (by kernel_rfl) (by simp) (AllX.cons rfl (fun K hK => ?_) AllX.nil)
        go_simp
        refine Calls.mono (belowI_any Z (by omega) (by omega) β a c bs u2 RR2.out) ?_
        rintro e u3 ⟨y2, rfl, hy2, hr3, hd3⟩
        have RR3 := kide hr3
        have DW3 := kide (DW2.out.trans hd3)
        have XF3 := kide (keep.out _ _ _ _ hFb hd3 XF2.out)
        have XR3 := kide (keep.out _ _ _ _ hnb hd3 XR2.out)
        have OQ3 := kide (OQ2.out.dw hd3 hβw)
        have XN3 := kide (keep.out _ _ _ _ hNb hd3 XN2.out)
        clear hr3 hd3
        have hs3 : Hid ((fun u => u.cell? ⟨F, 0, none⟩ = some (Value.int .i64 Z) ∧ u.cell? ⟨F, 1, none⟩ = some (Value.slice av N cv)) u3) := ⟨XF3.out.cell 0, XF3.out.cell 1⟩
        refine hK _ _ (Sx.behind (by kernel_rfl) hs3.out) ?_
        clear hK K
        try go_simp
        refine wpAnyX_ready (rs := [10]) (by kernel_rfl) (by simp) (AllX.cons rfl (fun K hK => ?_) AllX.nil)
        go_simp
        refine Calls.mono (belowI_any 9 (by omega) (by omega) β a c bs u3 RR3.out) ?_
        rintro e u4 ⟨y3, rfl, hy3, hr4, hd4⟩
        have RR4 := kide hr4
        have DW4 := kide (DW3.out.trans hd4)
        have XF4 := kide (keep.out _ _ _ _ hFb hd4 XF3.out)
        have XR4 := kide (keep.out _ _ _ _ hnb hd4 XR3.out)
        have OQ4 := kide (OQ3.out.dw hd4 hβw)
        have XN4 := kide (keep.out _ _ _ _ hNb hd4 XN3.out)
        clear hr4 hd4
        have hs4 : Hid ((fun u => u.cell? ⟨F, 0, none⟩ = some (Value.int .i64 Z) ∧ u.cell? ⟨F, 1, none⟩ = some (Value.slice av N cv)) u4) := ⟨XF4.out.cell 0, XF4.out.cell 1⟩
        refine hK _ _ (Sx.behind (by kernel_rfl) hs4.out) ?_
        clear hK K
        try go_simp
        refine wpAnyX_ready (rs := [11]) (by kernel_rfl) (by simp) (AllX.cons rfl (fun K hK => ?_) AllX.nil)
        go_simp
        have HJ := kide (specJoin_own Z (y1 : Int) (y2 : Int) (y3 : Int) (Value.slice av N cv) w.heap.size ls u4 OQ4.out (by have := HNl.out; have := LK.out; omega) IN.out)
        have hJY := joinR_yes (z := Z) (ls := ls) (x := (y1 : Int)) (y := (y2 : Int)) (q := (y3 : Int))
        have hJI := (joinR_ok Z ls (y1 : Int) (y2 : Int) (y3 : Int) (by have := HNl.out; have := LK.out; omega) IN.out).2
        generalize joinR Z ls (y1 : Int) (y2 : Int) (y3 : Int) = R at *
        obtain ⟨Rz, RL, b1, b2⟩ := R
        have JY := kide hJY
        have JI := kide hJI
        unfold RetJ at HJ
        simp only [] at HJ JY JI
        clear hJY hJI
        refine Calls.mono HJ.out ?_
        rintro e u5 ⟨vJ, rfl, oJ, hb5⟩
        obtain ⟨aJ, cJ, rfl⟩ := ok3_form oJ
        have RR5 := kide (RR4.out.later hb5)
        have XF5 := kide (XF4.out.later hb5)
        have XR5 := kide (XR4.out.later hb5)
        have XN5 := kide (XN4.out.later hb5)
        have OQ5 : Hid (OK3 _ _ _ _) := own3_later OQ4.out hb5
        have DW5 := kide (DW4.out.trans (Dw.of hb5))
        have OJ5 := kide (ok3_base oJ (show w.heap.size ≤ u4.heap.size from DW4.out.size))
        clear oJ hb5 HJ
        have hs5 : Hid ((fun u => u.cell? ⟨F, 0, none⟩ = some (Value.int .i64 Z) ∧ u.cell? ⟨F, 1, none⟩ = some (Value.slice av N cv)) u5) := ⟨XF5.out.cell 0, XF5.out.cell 1⟩
        refine hK _ _ (Sx.behind (by kernel_rfl) hs5.out) ?_
        clear hK K
        try go_simp
        refine wpAnyX_both (T := fun u => u.cell? ⟨F, 0, none⟩ = some (Value.int .i64 Z) ∧ u.cell? ⟨F, 1, none⟩ = some (Value.slice av N cv)) (i := 12) (v := Value.tuple #[Value.agg #[Value.int .i64 Rz, Value.slice aJ RL.length cJ], Value.bool b1, Value.bool b2]) rfl (by kernel_rfl) (by kernel_rfl) (by kernel_rfl) (fun _ _ _ h => by first | exact h | exact h.elim | cases h.1) (by decide) (fun _ h => h.elim) (fun _ h => h) (Sx.behind (by kernel_rfl) hs5.out) (Or.inl ⟨by rfl, fun u hu => by obtain ⟨e1, e2⟩ := hu; go_simp⟩) ?_
        try go_simp
        refine wpAnyX_both (T := fun u => u.cell? ⟨F, 0, none⟩ = some (Value.int .i64 Z) ∧ u.cell? ⟨F, 1, none⟩ = some (Value.slice av N cv)) (i := 13) (v := Value.agg #[Value.int .i64 Rz, Value.slice aJ RL.length cJ]) rfl (by kernel_rfl) (by kernel_rfl) (by kernel_rfl) (fun _ _ _ h => by first | exact h | exact h.elim | cases h.1) (by decide) (fun _ h => h.elim) (fun _ h => h) (Sx.behind (by kernel_rfl) hs5.out) (Or.inl ⟨by rfl, fun u hu => by obtain ⟨e1, e2⟩ := hu; go_simp⟩) ?_
        try go_simp
        refine wpAnyX_both (T := fun u => u.cell? ⟨F, 0, none⟩ = some (Value.int .i64 Z) ∧ u.cell? ⟨F, 1, none⟩ = some (Value.slice av N cv)) (i := 14) (v := Value.bool b1) rfl (by kernel_rfl) (by kernel_rfl) (by kernel_rfl) (fun _ _ _ h => by first | exact h | exact h.elim | cases h.1) (by decide) (fun _ h => h.elim) (fun _ h => h) (Sx.behind (by kernel_rfl) hs5.out) (Or.inl ⟨by rfl, fun u hu => by obtain ⟨e1, e2⟩ := hu; go_simp⟩) ?_
        try go_simp
        refine wpAnyX_both (T := fun u => u.cell? ⟨F, 0, none⟩ = some (Value.int .i64 Z) ∧ u.cell? ⟨F, 1, none⟩ = some (Value.slice av N cv)) (i := 15) (v := Value.bool b2) rfl (by kernel_rfl) (by kernel_rfl) (by kernel_rfl) (fun _ _ _ h => by first | exact h | exact h.elim | cases h.1) (by decide) (fun _ h => h.elim) (fun _ h => h) (Sx.behind (by kernel_rfl) hs5.out) (Or.inl ⟨by rfl, fun u hu => by obtain ⟨e1, e2⟩ := hu; go_simp⟩) ?_
        try go_simp
        refine wpAnyX_ready (rs := [17]) (by kernel_rfl) (by simp) (AllX.cons rfl (fun K hK => ?_) AllX.nil)
        have e8 := XN5.out.cell 0
        have e9 := XN5.out.cell 1
        have f8 := XN5.out.froz 0
        have f9 := XN5.out.froz 1
        simp at e8 e9
        go_simp
        have XN6 : Hid (Bx ((u5.setCell ⟨bN, 0, none⟩ (.int .i64 Rz)).setCell ⟨bN, 1, none⟩ (Value.slice aJ RL.length cJ)) bN #[.int .i64 Rz, Value.slice aJ RL.length cJ] 29) := (XN5.out.set 0 _).set 1 _
        have XF6 : Hid (Bx ((u5.setCell ⟨bN, 0, none⟩ (.int .i64 Rz)).setCell ⟨bN, 1, none⟩ (Value.slice aJ RL.length cJ)) F #[.int .i64 Z, Value.slice av N cv] 29) := (XF5.out.other (by have := hNF.out; omega) 0 _).other (by have := hNF.out; omega) 1 _
        have XR6 : Hid (Bx ((u5.setCell ⟨bN, 0, none⟩ (.int .i64 Rz)).setCell ⟨bN, 1, none⟩ (Value.slice aJ RL.length cJ)) w.heap.size #[.int .i64 0, .slice none 0 0] 29) := (XR5.out.other (by have := hNF.out; omega) 0 _).other (by have := hNF.out; omega) 1 _
        have OQ6 : Hid (OK3 ((u5.setCell ⟨bN, 0, none⟩ (.int .i64 Rz)).setCell ⟨bN, 1, none⟩ (Value.slice aJ RL.length cJ)) w.heap.size (Value.slice av N cv) ls) := own3_set (own3_set OQ5.out XN5.out (by decide) _) (XN5.out.set 0 (.int .i64 Rz)) (by decide) _
        have OJ6 : Hid (OK3 ((u5.setCell ⟨bN, 0, none⟩ (.int .i64 Rz)).setCell ⟨bN, 1, none⟩ (Value.slice aJ RL.length cJ)) w.heap.size (Value.slice aJ RL.length cJ) RL) := own3_set (own3_set OJ5.out XN5.out (by decide) _) (XN5.out.set 0 (.int .i64 Rz)) (by decide) _
        have DW6 : Hid (Dw β w ((u5.setCell ⟨bN, 0, none⟩ (.int .i64 Rz)).setCell ⟨bN, 1, none⟩ (Value.slice aJ RL.length cJ))) := (DW5.out.put bN 0 _ (by have := hNF.out; omega)).put bN 1 _ (by have := hNF.out; omega)
        have RR6 : Hid (Rr ((u5.setCell ⟨bN, 0, none⟩ (.int .i64 Rz)).setCell ⟨bN, 1, none⟩ (Value.slice aJ RL.length cJ)) β a c bs) := (RR5.out.put DW5.out.size hβa.out (by have := hNF.out; omega) (by have := hNF.out; omega) 0 _).put (by simpa using DW5.out.size) hβa.out (by have := hNF.out; omega) (by have := hNF.out; omega) 1 _
        generalize (u5.setCell ⟨bN, 0, none⟩ (.int .i64 Rz)).setCell ⟨bN, 1, none⟩ (Value.slice aJ RL.length cJ) = u6 at *
        clear e8 e9 f8 f9
        have hs6 : Hid ((fun u => u.cell? ⟨F, 0, none⟩ = some (Value.int .i64 Z) ∧ u.cell? ⟨F, 1, none⟩ = some (Value.slice av N cv)) u6) := ⟨XF6.out.cell 0, XF6.out.cell 1⟩
        refine hK _ _ (Sx.behind (by kernel_rfl) hs6.out) ?_
        clear hK K
        try go_simp
        refine wpAnyX_both (T := fun u => u.cell? ⟨F, 0, none⟩ = some (Value.int .i64 Z) ∧ u.cell? ⟨F, 1, none⟩ = some (Value.slice av N cv)) (i := 18) (v := Value.bool b1) rfl (by kernel_rfl) (by kernel_rfl) (by kernel_rfl) (fun _ _ _ h => by first | exact h | exact h.elim | cases h.1) (by decide) (fun _ h => h.elim) (fun _ h => h) (Sx.behind (by kernel_rfl) hs6.out) (Or.inl ⟨by rfl, fun u hu => by obtain ⟨e1, e2⟩ := hu; go_simp⟩) ?_
        try go_simp
        refine wpAnyX_both (T := fun u => u.cell? ⟨F, 0, none⟩ = some (Value.int .i64 Z) ∧ u.cell? ⟨F, 1, none⟩ = some (Value.slice av N cv)) (i := 19) (v := Value.bool b2) rfl (by kernel_rfl) (by kernel_rfl) (by kernel_rfl) (fun _ _ _ h => by first | exact h | exact h.elim | cases h.1) (by decide) (fun _ h => h.elim) (fun _ h => h) (Sx.behind (by kernel_rfl) hs6.out) (Or.inl ⟨by rfl, fun u hu => by obtain ⟨e1, e2⟩ := hu; go_simp⟩) ?_
        try go_simp
        refine wpAnyX_done (by kernel_rfl) ?_ _
        cases b2 with
        | true =>
          have q0 := XN6.out.cell 0
          have q1 := XN6.out.cell 1
          have p0 := XF6.out.cell 0
          have p1 := XF6.out.cell 1
          have f0 := XF6.out.froz 0
          have f1 := XF6.out.froz 1
          simp at q0 q1 p0 p1
          obtain ⟨hRz, hRl⟩ := JY.out rfl
          subst hRz
          go_wp2_with fail
          go_roundw
          case rel =>
            have XE := (XF6.out.set 0 (.int .i64 Rz)).set 1 (.slice aJ RL.length cJ)
            refine ⟨k', _, RL, by have := HK'.out; omega, by first | rfl | go_num, by have := HK'.out; have := HNl.out; have := LK.out; omega, XE, ?_, JI.out, ?_, ?_, ?_⟩
            · exact own3_set (own3_set OJ6.out XF6.out (by decide) _) (XF6.out.set 0 (.int .i64 Rz)) (by decide) _
            · exact (XR6.out.other (by omega) 0 _).other (by omega) 1 _
            · exact (RR6.out.put DW6.out.size hβa.out (by omega) (by omega) 0 _).put (by simpa using DW6.out.size) hβa.out (by omega) (by omega) 1 _
            · exact (DW6.out.put F 0 _ (by omega)).put F 1 _ (by omega)
          case measure => have := HK'.out; simp [intOf]; omega
        | false =>
          go_wp2_with fail
          go_roundw
          case rel => exact ⟨k', _, ls, by have := HK'.out; omega, by first | rfl | go_num, by have := HK'.out; have := HNl.out; have := LK.out; omega, XF6.out, OQ6.out, IN.out, XR6.out, RR6.out, DW6.out⟩
          case measure => have := HK'.out; simp [intOf]; omega
    case pos =>
      subst hz
      go_wp2_with fail
      refine Calls.mono (belowI_any 30 (by omega) (by omega) β a c bs wr RR.out) ?_
      rintro e w4 ⟨y, rfl, hy, hr4, hd4⟩
      have RR4 := kide hr4
      have DW4 := kide (DW.out.trans hd4)
      have XF4 := kide (keep.out _ _ _ _ hFb hd4 XF.out)
      have XR4 := kide (keep.out _ _ _ _ hnb hd4 XR.out)
      have OK4 := kide (OK.out.dw hd4 hβ)
      have p0 := XF4.out.cell 0
      have p1 := XF4.out.cell 1
      have f0 := XF4.out.froz 0
      have f1 := XF4.out.froz 1
      have r0 := XR4.out.cell 0
      have r1 := XR4.out.cell 1
      have s0 := XR4.out.froz 0
      have s1 := XR4.out.froz 1
      simp at p0 p1 r0 r1
      clear hr4 hd4 RR DW XF XR OK
      have HN16 : Hid (N ≤ 16) := by have := LK.out; show N ≤ 16; omega
      have HEND : Hid (∀ (u : World) (zE : Int) (aE : Option Addr) (nE cE : Nat) (lE : List Lk), in64 zE → Bx u F #[.int .i64 zE, .slice aE nE cE] 29 → OK3 u w.heap.size (.slice aE nE cE) lE → lE.length ≤ 64 → (∀ l ∈ lE, in64 l.1 ∧ in64 l.2.1 ∧ in64 l.2.2) → Bx u w.heap.size #[.int .i64 0, .slice none 0 0] 29 → Rr u β a c bs → Dw β w u →
          RetFo β a c bs w (.returned (.agg #[.int .i64 zE, .slice aE nE cE])) ((u.setCell ⟨w.heap.size, 0, none⟩ (.int .i64 zE)).setCell ⟨w.heap.size, 1, none⟩ (.slice aE nE cE))) := fun u zE aE nE cE lE hz hxf ho hl hi hxr hrr hdw =>
        ⟨zE, _, lE, rfl, hz, own3_set (own3_set ho hxr (by decide) _) (hxr.set 0 (.int .i64 zE)) (by decide) _, hl, hi, (hrr.put hdw.size hβa.out (Nat.le_refl _) hnb 0 _).put (by simpa using hdw.size) hβa.out (Nat.le_refl _) hnb 1 _, (hdw.put _ 0 _ (Nat.le_refl _)).put _ 1 _ (Nat.le_refl _)⟩
      have hZ64 : in64 Z := ⟨by omega, by omega⟩
      have HL64 : Hid (ls.length ≤ 64) := by show _ ≤ _; have := HNl.out; have := HN16.out; omega
      by_cases y0 : y = 0
      case pos =>
        subst y0
        obtain ⟨Y, hY⟩ : ∃ Y : Int, Z - 1 = Y := ⟨_, rfl⟩
        have hYw : IntKind.i64.wrap Y = Y := by rw [IntKind.wrap_i64]; omega
        have hY64 : Hid (in64 Y) := ⟨by omega, by omega⟩
        go_wp2_with fail
        refine wp_region_x (SA := fun u => u.cell? ⟨F, 0, none⟩ = some (Value.int .i64 Z) ∧ u.cell? ⟨F, 1, none⟩ = some (Value.slice av N cv)) (SB := fun _ => True) (k := 16) (by kernel_rfl) ?_
        have hbd : Below w4.heap.size w4 w4.drew := (Below.refl _ _).drew
        have XF0 := kide (XF4.out.later hbd)
        have XR0 := kide (XR4.out.later hbd)
        have OQ0 : Hid (OK3 _ _ _ _) := own3_later OK4.out hbd
        have RR0 := kide (RR4.out.later hbd)
        have DW0 := kide DW4.out.drew
        clear hbd XF4 XR4 OK4 RR4 DW4 p0 p1 f0 f1 r0 r1 s0 s1
        generalize w4.drew = u0 at *
        have hs0 : Hid ((fun u => u.cell? ⟨F, 0, none⟩ = some (Value.int .i64 Z) ∧ u.cell? ⟨F, 1, none⟩ = some (Value.slice av N cv)) u0) := ⟨XF0.out.cell 0, XF0.out.cell 1⟩
        try go_simp
        refine wpAnyX_both (T := fun _ => True) (i := 0) (v := Value.pointer (some ⟨F, 1, none⟩)) rfl (by kernel_rfl) (by kernel_rfl) (by kernel_rfl) (fun _ _ _ h => by first | exact h | exact h.elim | cases h.1) (by decide) (fun _ _ => trivial) (fun _ _ => trivial) (Sx.before (by kernel_rfl) hs0.out) (Or.inl ⟨by rfl, fun u hu => by go_simp⟩) ?_
        try go_simp
        refine wpAnyX_take (i := 1) (v := Value.slice av N cv) rfl (by kernel_rfl) (by kernel_rfl) (by kernel_rfl) (fun _ _ _ h => by first | exact h | exact h.elim | cases h.1) (by decide) (by kernel_rfl) (by kernel_rfl) hs0.out (Or.inl ⟨by rfl, fun u hu => by obtain ⟨e1, e2⟩ := hu; go_simp⟩) ?_
        try go_simp
        refine wpAnyX_both (T := fun _ => True) (i := 2) (v := Value.pointer (some ⟨β, 0, none⟩)) rfl (by kernel_rfl) (by kernel_rfl) (by kernel_rfl) (fun _ _ _ h => by first | exact h | exact h.elim | cases h.1) (by decide) (fun _ _ => trivial) (fun _ _ => trivial) (Sx.before (by kernel_rfl) hs0.out) (Or.inl ⟨by rfl, fun u hu => by go_simp⟩) ?_
        try go_simp
        refine wpAnyX_both (T := fun _ => True) (i := 3) (v := Value.pointer (some ⟨F, 0, none⟩)) rfl (by kernel_rfl) (by kernel_rfl) (by kernel_rfl) (fun _ _ _ h => by first | exact h | exact h.elim | cases h.1) (by decide) (fun _ _ => trivial) (fun _ _ => trivial) (Sx.before (by kernel_rfl) hs0.out) (Or.inl ⟨by rfl, fun u hu => by go_simp⟩) ?_
        try go_simp
        refine wpAnyX_take (i := 4) (v := Value.int .i64 Z) rfl (by kernel_rfl) (by kernel_rfl) (by kernel_rfl) (fun _ _ _ h => by first | exact h | exact h.elim | cases h.1) (by decide) (by kernel_rfl) (by kernel_rfl) hs0.out (Or.inl ⟨by rfl, fun u hu => by obtain ⟨e1, e2⟩ := hu; go_simp⟩) ?_
        try go_simp
        refine wpAnyX_both (T := fun _ => True) (i := 5) (v := Value.int .i64 Y) rfl (by kernel_rfl) (by kernel_rfl) (by kernel_rfl) (fun _ _ _ h => by first | exact h | exact h.elim | cases h.1) (by decide) (fun _ _ => trivial) (fun _ _ => trivial) (Sx.before (by kernel_rfl) hs0.out) (Or.inl ⟨by rfl, fun u hu => by go_simp⟩) ?_
        try go_simp
        refine wpAnyX_both (T := fun _ => True) (i := 7) (v := Value.pointer (some ⟨β, 0, none⟩)) rfl (by kernel_rfl) (by kernel_rfl) (by kernel_rfl) (fun _ _ _ h => by first | exact h | exact h.elim | cases h.1) (by decide) (fun _ _ => trivial) (fun _ _ => trivial) (Sx.before (by kernel_rfl) hs0.out) (Or.inl ⟨by rfl, fun u hu => by go_simp⟩) ?_
        try go_simp
        refine wpAnyX_both (T := fun _ => True) (i := 8) (v := Value.pointer (some ⟨F, 0, none⟩)) rfl (by kernel_rfl) (by kernel_rfl) (by kernel_rfl) (fun _ _ _ h => by first | exact h | exact h.elim | cases h.1) (by decide) (fun _ _ => trivial) (fun _ _ => trivial) (Sx.before (by kernel_rfl) hs0.out) (Or.inl ⟨by rfl, fun u hu => by go_simp⟩) ?_
        try go_simp
        refine wpAnyX_take (i := 9) (v := Value.int .i64 Z) rfl (by kernel_rfl) (by kernel_rfl) (by kernel_rfl) (fun _ _ _ h => by first | exact h | exact h.elim | cases h.1) (by decide) (by kernel_rfl) (by kernel_rfl) hs0.out (Or.inl ⟨by rfl, fun u hu => by obtain ⟨e1, e2⟩ := hu; go_simp⟩) ?_
        try go_simp
        refine wpAnyX_both (T := fun _ => True) (i := 10) (v := Value.int .i64 Y) rfl (by kernel_rfl) (by kernel_rfl) (by kernel_rfl) (fun _ _ _ h => by first | exact h | exact h.elim | cases h.1) (by decide) (fun _ _ => trivial) (fun _ _ => trivial) (Sx.before (by kernel_rfl) hs0.out) (Or.inl ⟨by rfl, fun u hu => by go_simp⟩) ?_
        try go_simp
        refine wpAnyX_ready (rs := [6]) (by kernel_rfl) (by simp) (AllX.cons rfl (fun K hK => ?_) AllX.nil)
        go_simp
        refine Calls.mono (off0_any Y (hY64.out) β a c bs u0 RR0.out) ?_
        rintro e u1 ⟨x5, rfl, hx5, hr1, hd1⟩
        have Ix5 := kide hx5
        have RR1 := kide hr1
        have DW1 := kide (DW0.out.trans hd1)
        have XF1 := kide (keep.out _ _ _ _ hFb hd1 XF0.out)
        have XR1 := kide (keep.out _ _ _ _ hnb hd1 XR0.out)
        have OQ1 := kide (OQ0.out.dw hd1 hβ)
        clear hr1 hd1 hx5
        have hs1 : Hid ((fun u => u.cell? ⟨F, 0, none⟩ = some (Value.int .i64 Z) ∧ u.cell? ⟨F, 1, none⟩ = some (Value.slice av N cv)) u1) := ⟨XF1.out.cell 0, XF1.out.cell 1⟩
        refine hK _ _ (Sx.before (by kernel_rfl) hs1.out) ?_
        clear hK K
        try go_simp
        refine wpAnyX_ready (rs := [11]) (by kernel_rfl) (by simp) (AllX.cons rfl (fun K hK => ?_) AllX.nil)
        go_simp
        refine Calls.mono (off0_any Y (hY64.out) β a c bs u1 RR1.out) ?_
        rintro e u2 ⟨x6, rfl, hx6, hr2, hd2⟩
        have Ix6 := kide hx6
        have RR2 := kide hr2
        have DW2 := kide (DW1.out.trans hd2)
        have XF2 := kide (keep.out _ _ _ _ hFb hd2 XF1.out)
        have XR2 := kide (keep.out _ _ _ _ hnb hd2 XR1.out)
        have OQ2 := kide (OQ1.out.dw hd2 hβ)
        clear hr2 hd2 hx6
        have hs2 : Hid ((fun u => u.cell? ⟨F, 0, none⟩ = some (Value.int .i64 Z) ∧ u.cell? ⟨F, 1, none⟩ = some (Value.slice av N cv)) u2) := ⟨XF2.out.cell 0, XF2.out.cell 1⟩
        refine hK _ _ (Sx.before (by kernel_rfl) hs2.out) ?_
        clear hK K
        try go_simp
        refine wpAnyX_both (T := fun _ => True) (i := 12) (v := Value.agg #[Value.int .i64 x5, Value.int .i64 x6, Value.int .i64 0]) rfl (by kernel_rfl) (by kernel_rfl) (by kernel_rfl) (fun _ _ _ h => by first | exact h | exact h.elim | cases h.1) (by decide) (fun _ _ => trivial) (fun _ _ => trivial) (Sx.before (by kernel_rfl) hs2.out) (Or.inl ⟨by rfl, fun u hu => by go_simp⟩) ?_
        try go_simp
        refine wpAnyX_ready (rs := [13]) (by kernel_rfl) (by simp) (AllX.cons rfl (fun K hK => ?_) AllX.nil)
        go_simp
        have hbx : Below u2.heap.size u2 (u2.alloc (Obj.cells #[Value.int .i64 x5, Value.int .i64 x6, Value.int .i64 0] 55)) := (Below.refl _ _).alloc (Nat.le_refl _) _
        have YB := kide (Bx.new u2 #[Value.int .i64 x5, Value.int .i64 x6, Value.int .i64 0] 55)
        have RR3 := kide (RR2.out.later hbx)
        have XF3 := kide (XF2.out.later hbx)
        have XR3 := kide (XR2.out.later hbx)
        have OQ3 : Hid (OK3 _ _ _ _) := own3_later OQ2.out hbx
        have DW3 := kide (DW2.out.alloc (Obj.cells #[Value.int .i64 x5, Value.int .i64 x6, Value.int .i64 0] 55))
        obtain ⟨b7, hb7⟩ : ∃ x, u2.heap.size = x := ⟨_, rfl⟩
        rw [hb7] at YB ⊢
        clear hb7 hbx
        generalize u2.alloc (Obj.cells #[Value.int .i64 x5, Value.int .i64 x6, Value.int .i64 0] 55) = u3 at *
        have hs3 : Hid ((fun u => u.cell? ⟨F, 0, none⟩ = some (Value.int .i64 Z) ∧ u.cell? ⟨F, 1, none⟩ = some (Value.slice av N cv)) u3) := ⟨XF3.out.cell 0, XF3.out.cell 1⟩
        refine hK _ _ (Sx.before (by kernel_rfl) hs3.out) ?_
        clear hK K
        try go_simp
        refine wpAnyX_ready (rs := [14]) (by kernel_rfl) (by simp) (AllX.cons rfl (fun K hK => ?_) AllX.nil)
        refine step_appL _ rfl _ _ rfl w.heap.size (Value.slice av N cv) ls (x5, x6, 0) (by first | rfl | simp [Act.eval]) OQ3.out b7 1 (by first | rfl | simp [Act.eval]) (YB.out.cell 0) (YB.out.cell 1) (YB.out.cell 2) (by have := HL64.out; omega) DW3.out.size ?_
        intro g8 c8 N8 u4 ho4 hg4
        have XF4 := kide (XF3.out.far3 OQ3.out hg4 (by decide))
        have XR4 := kide (XR3.out.far3 OQ3.out hg4 (by decide))
        have OQ4 := kide ho4
        have DW4 := kide (DW3.out.row3 OQ3.out hg4)
        have RR4 := kide (RR3.out.row3 DW3.out.size hβa.out OQ3.out hβ hg4)
        clear ho4 hg4
        have hs4 : Hid ((fun u => u.cell? ⟨F, 0, none⟩ = some (Value.int .i64 Z) ∧ u.cell? ⟨F, 1, none⟩ = some (Value.slice av N cv)) u4) := ⟨XF4.out.cell 0, XF4.out.cell 1⟩
        refine hK _ _ (Sx.before (by kernel_rfl) hs4.out) ?_
        clear hK K
        try go_simp
        refine wpAnyX_both (T := fun _ => True) (i := 15) (v := Value.pointer (some ⟨F, 1, none⟩)) rfl (by kernel_rfl) (by kernel_rfl) (by kernel_rfl) (fun _ _ _ h => by first | exact h | exact h.elim | cases h.1) (by decide) (fun _ _ => trivial) (fun _ _ => trivial) (Sx.before (by kernel_rfl) hs4.out) (Or.inl ⟨by rfl, fun u hu => by go_simp⟩) ?_
        try go_simp
        refine wpAnyX_ready (rs := [16]) (by kernel_rfl) (by simp) (AllX.cons rfl (fun K hK => ?_) AllX.nil)
        have e9 := XF4.out.cell 1
        have f9 := XF4.out.froz 1
        simp at e9
        go_simp
        have XF5 := kide (XF4.out.set 1 (Value.slice (some ⟨g8, 0, none⟩) N8 c8))
        have XR5 := kide (XR4.out.other (by omega : w.heap.size ≠ F) 1 (Value.slice (some ⟨g8, 0, none⟩) N8 c8))
        have OQ5 := kide (own3_set OQ4.out XF4.out (by decide) (o := 1) (Value.slice (some ⟨g8, 0, none⟩) N8 c8))
        have DW5 := kide (DW4.out.put F 1 (Value.slice (some ⟨g8, 0, none⟩) N8 c8) (by omega))
        have RR5 := kide (RR4.out.put DW4.out.size hβa.out (by omega : w.heap.size ≤ F) hFb 1 (Value.slice (some ⟨g8, 0, none⟩) N8 c8))
        generalize u4.setCell ⟨F, 1, none⟩ (Value.slice (some ⟨g8, 0, none⟩) N8 c8) = u5 at *
        refine hK _ _ (Sx.behind (by kernel_rfl) trivial) ?_
        clear hK K
        clear e9 f9
        try go_simp
        refine wpAnyX_done (by kernel_rfl) ?_ _
        skip
        have q0 := XF5.out.cell 0
        have q1 := XF5.out.cell 1
        have r0 := XR5.out.cell 0
        have r1 := XR5.out.cell 1
        have s0 := XR5.out.froz 0
        have s1 := XR5.out.froz 1
        simp at q0 q1 r0 r1
        have XE := (XR5.out.set 0 (.int .i64 Z)).set 1 (.slice (some ⟨g8, 0, none⟩) N8 c8)
        have z0 := XE.cell 0
        have z1 := XE.cell 1
        simp at z0 z1
        go_wp2_with fail
        exact bodyPost_ret (v := .agg #[.int .i64 Z, .slice (some ⟨g8, 0, none⟩) N8 c8]) (by simp [results, Try.results61, go_sem, z0, z1]) rfl (HEND.out u5 Z _ _ _ (ls ++ [(x5, x6, 0)]) hZ64 XF5.out OQ5.out (by have := HL64.out; have := HNl.out; have := HN16.out; simp; omega) (fun l hl => by rcases List.mem_append.1 hl with hl | hl; exact IN.out l hl; simp at hl; subst hl; exact ⟨Ix5.out, Ix6.out, by unfold in64; simp⟩) XR5.out RR5.out DW5.out)
      by_cases y1 : y = 1
      case pos =>
        subst y1
        go_wp2_with fail
        refine Calls.mono (off0_any Z hZ64 β a c bs w4 RR4.out) ?_
        rintro e w5 ⟨x5, rfl, hx5, hr5, hd5⟩
        have I5 := kide hx5
        have RR5 := kide hr5
        have DW5 := kide (DW4.out.trans hd5)
        have XF5 := kide (keep.out _ _ _ _ hFb hd5 XF4.out)
        have XR5 := kide (keep.out _ _ _ _ hnb hd5 XR4.out)
        have OK5 := kide (OK4.out.dw hd5 hβ)
        clear hr5 hd5 hx5 p0 p1 f0 f1 r0 r1 s0 s1
        have q0 := XF5.out.cell 0
        have q1 := XF5.out.cell 1
        have v0 := XF5.out.froz 0
        have v1 := XF5.out.froz 1
        have r0 := XR5.out.cell 0
        have r1 := XR5.out.cell 1
        have s0 := XR5.out.froz 0
        have s1 := XR5.out.froz 1
        simp at q0 q1 r0 r1
        have XF6 := kide (XF5.out.set 0 (.int .i64 x5))
        have XR6 := kide (XR5.out.other (by omega : w.heap.size ≠ F) 0 (.int .i64 x5))
        have OQ6 := kide (own3_set OK5.out XF5.out (by decide) (o := 0) (.int .i64 x5))
        have DW6 := kide (DW5.out.put F 0 (.int .i64 x5) (by omega))
        have RR6 := kide (RR5.out.put DW5.out.size hβa.out (by omega : w.heap.size ≤ F) hFb 0 (.int .i64 x5))
        have hnF : w.heap.size ≠ F := by omega
        have hnF' : F ≠ w.heap.size := by omega
        have XE := (XR6.out.set 0 (.int .i64 x5)).set 1 (.slice av N cv)
        have z0 := XE.cell 0
        have z1 := XE.cell 1
        simp at z0 z1
        go_wp2_with fail
        exact bodyPost_ret (v := .agg #[.int .i64 x5, .slice av N cv]) (by simp [results, Try.results61, go_sem, z0, z1]) rfl (HEND.out _ x5 _ _ _ ls I5.out XF6.out OQ6.out HL64.out IN.out XR6.out RR6.out DW6.out)
      by_cases y2 : y = 2
      case pos =>
        subst y2
        by_cases hN0 : 0 < N
        · have i0 : (0 : Int) < (N : Int) := by omega
          obtain ⟨g5, hg5⟩ : ∃ g, av = some ⟨g, 0, none⟩ := by
            rcases OK4.out.2 with ⟨e, h0⟩ | ⟨g, cap, cur, e, -⟩
            · have := HNl.out; omega
            · cases e; exact ⟨g, rfl⟩
          subst hg5
          obtain ⟨l0, tl, hls⟩ : ∃ l0 tl, ls = l0 :: tl := by
            cases ls with
            | nil => have := HNl.out; simp at this; omega
            | cons l t => exact ⟨l, t, rfl⟩
          subst hls
          go_wp2_with fail
          refine wp_region_x (SA := fun u => u.cell? ⟨F, 0, none⟩ = some (Value.int .i64 Z) ∧ u.cell? ⟨F, 1, none⟩ = some (Value.slice (some ⟨g5, 0, none⟩) N cv)) (SB := fun _ => True) (k := 6) (by kernel_rfl) ?_
          have hbd : Below w4.heap.size w4 w4.drew := (Below.refl _ _).drew
          have XF0 := kide (XF4.out.later hbd)
          have XR0 := kide (XR4.out.later hbd)
          have OQ0 : Hid (OK3 _ _ _ _) := own3_later OK4.out hbd
          have RR0 := kide (RR4.out.later hbd)
          have DW0 := kide DW4.out.drew
          clear hbd XF4 XR4 OK4 RR4 DW4 p0 p1 f0 f1 r0 r1 s0 s1
          generalize w4.drew = u0 at *
          have hs0 : Hid ((fun u => u.cell? ⟨F, 0, none⟩ = some (Value.int .i64 Z) ∧ u.cell? ⟨F, 1, none⟩ = some (Value.slice (some ⟨g5, 0, none⟩) N cv)) u0) := ⟨XF0.out.cell 0, XF0.out.cell 1⟩
          try go_simp
          refine wpAnyX_both (T := fun _ => True) (i := 0) (v := Value.pointer (some ⟨F, 1, none⟩)) rfl (by kernel_rfl) (by kernel_rfl) (by kernel_rfl) (fun _ _ _ h => by first | exact h | exact h.elim | cases h.1) (by decide) (fun _ _ => trivial) (fun _ _ => trivial) (Sx.before (by kernel_rfl) hs0.out) (Or.inl ⟨by rfl, fun u hu => by go_simp⟩) ?_
          try go_simp
          refine wpAnyX_take (i := 1) (v := Value.slice (some ⟨g5, 0, none⟩) N cv) rfl (by kernel_rfl) (by kernel_rfl) (by kernel_rfl) (fun _ _ _ h => by first | exact h | exact h.elim | cases h.1) (by decide) (by kernel_rfl) (by kernel_rfl) hs0.out (Or.inl ⟨by rfl, fun u hu => by obtain ⟨e1, e2⟩ := hu; go_simp⟩) ?_
          try go_simp
          refine wpAnyX_both (T := fun _ => True) (i := 2) (v := Value.pointer (some ⟨β, 0, none⟩)) rfl (by kernel_rfl) (by kernel_rfl) (by kernel_rfl) (fun _ _ _ h => by first | exact h | exact h.elim | cases h.1) (by decide) (fun _ _ => trivial) (fun _ _ => trivial) (Sx.before (by kernel_rfl) hs0.out) (Or.inl ⟨by rfl, fun u hu => by go_simp⟩) ?_
          try go_simp
          refine wpAnyX_ready (rs := [3]) (by kernel_rfl) (by simp) (AllX.cons rfl (fun K hK => ?_) AllX.nil)
          go_simp
          refine Calls.mono (off0_any 1000000 (⟨by omega, by omega⟩) β a c bs u0 RR0.out) ?_
          rintro e u1 ⟨x5, rfl, hx5, hr1, hd1⟩
          have Ix5 := kide hx5
          have RR1 := kide hr1
          have DW1 := kide (DW0.out.trans hd1)
          have XF1 := kide (keep.out _ _ _ _ hFb hd1 XF0.out)
          have XR1 := kide (keep.out _ _ _ _ hnb hd1 XR0.out)
          have OQ1 := kide (OQ0.out.dw hd1 hβ)
          clear hr1 hd1 hx5
          have hs1 : Hid ((fun u => u.cell? ⟨F, 0, none⟩ = some (Value.int .i64 Z) ∧ u.cell? ⟨F, 1, none⟩ = some (Value.slice (some ⟨g5, 0, none⟩) N cv)) u1) := ⟨XF1.out.cell 0, XF1.out.cell 1⟩
          refine hK _ _ (Sx.before (by kernel_rfl) hs1.out) ?_
          clear hK K
          try go_simp
          refine wpAnyX_both (T := fun _ => True) (i := 4) (v := Value.pointer (some ⟨g5, 0, none⟩)) rfl (by kernel_rfl) (by kernel_rfl) (by kernel_rfl) (fun _ _ _ h => by first | exact h | exact h.elim | cases h.1) (by decide) (fun _ _ => trivial) (fun _ _ => trivial) (Sx.before (by kernel_rfl) hs1.out) (Or.inl ⟨by rfl, fun u hu => by go_simp⟩) ?_
          try go_simp
          refine wpAnyX_both (T := fun _ => True) (i := 5) (v := Value.pointer (some ⟨g5, 2, none⟩)) rfl (by kernel_rfl) (by kernel_rfl) (by kernel_rfl) (fun _ _ _ h => by first | exact h | exact h.elim | cases h.1) (by decide) (fun _ _ => trivial) (fun _ _ => trivial) (Sx.before (by kernel_rfl) hs1.out) (Or.inl ⟨by rfl, fun u hu => by go_simp⟩) ?_
          try go_simp
          refine wpAnyX_ready (rs := [6]) (by kernel_rfl) (by simp) (AllX.cons rfl (fun K hK => ?_) AllX.nil)
          obtain ⟨hbk, e9, f9⟩ := OK3.cell2 OQ1.out
          go_simp
          have XF2 := kide (XF1.out.other (XF1.out.apart hbk.choose_spec (by decide)) 2 (Value.int .i64 x5))
          have XR2 := kide (XR1.out.other (XR1.out.apart hbk.choose_spec (by decide)) 2 (Value.int .i64 x5))
          have OQ2 := kide (OK3.put2 OQ1.out x5)
          have hg5 := (own3_lt OQ1.out (b := g5) rfl).1
          have DW2 := kide (DW1.out.put g5 2 (Value.int .i64 x5) hg5)
          have RR2 := kide (RR1.out.put DW1.out.size hβa.out hg5 (by omega : g5 ≠ β) 2 (Value.int .i64 x5))
          generalize u1.setCell ⟨g5, 2, none⟩ (Value.int .i64 x5) = u2 at *
          refine hK _ _ (Sx.behind (by kernel_rfl) trivial) ?_
          clear hK K
          clear e9 f9 hbk
          try go_simp
          refine wpAnyX_done (by kernel_rfl) ?_ _
          skip
          have q0 := XF2.out.cell 0
          have q1 := XF2.out.cell 1
          have r0 := XR2.out.cell 0
          have r1 := XR2.out.cell 1
          have s0 := XR2.out.froz 0
          have s1 := XR2.out.froz 1
          simp at q0 q1 r0 r1
          have XE := (XR2.out.set 0 (.int .i64 Z)).set 1 (.slice (some ⟨g5, 0, none⟩) N cv)
          have z0 := XE.cell 0
          have z1 := XE.cell 1
          simp at z0 z1
          go_wp2_with fail
          exact bodyPost_ret (v := .agg #[.int .i64 Z, .slice (some ⟨g5, 0, none⟩) N cv]) (by simp [results, Try.results61, go_sem, z0, z1]) rfl (HEND.out u2 Z _ _ _ ((l0.1, l0.2.1, x5) :: tl) hZ64 XF2.out OQ2.out (by have := HL64.out; simpa using this) (fun l hl => by rcases List.mem_cons.1 hl with rfl | hl; exact ⟨(IN.out l0 (by simp)).1, (IN.out l0 (by simp)).2.1, Ix5.out⟩; exact IN.out l (by simp [hl])) XR2.out RR2.out DW2.out)
        · have i0 : ¬ (0 : Int) < (N : Int) := by omega
          have XE := (XR4.out.set 0 (.int .i64 Z)).set 1 (.slice av N cv)
          have z0 := XE.cell 0
          have z1 := XE.cell 1
          simp at z0 z1
          go_wp2_with fail
          exact bodyPost_ret (v := .agg #[.int .i64 Z, .slice av N cv]) (by simp [results, Try.results61, go_sem, z0, z1]) rfl (HEND.out w4 Z av N cv ls hZ64 XF4.out OK4.out HL64.out IN.out XR4.out RR4.out DW4.out)
      by_cases y3 : y = 3
      case pos =>
        subst y3
        go_wp2_with fail
        refine Calls.mono (belowI_any 2 (by omega) (by omega) β a c bs w4 RR4.out) ?_
        rintro e w5 ⟨x5, rfl, hx5, hr5, hd5⟩
        have RR5 := kide hr5
        have DW5 := kide (DW4.out.trans hd5)
        have XF5 := kide (keep.out _ _ _ _ hFb hd5 XF4.out)
        have XR5 := kide (keep.out _ _ _ _ hnb hd5 XR4.out)
        have OK5 := kide (OK4.out.dw hd5 hβ)
        clear hr5 hd5 p0 p1 f0 f1 r0 r1 s0 s1
        have q0 := XF5.out.cell 0
        have q1 := XF5.out.cell 1
        have v0 := XF5.out.froz 0
        have v1 := XF5.out.froz 1
        have r0 := XR5.out.cell 0
        have r1 := XR5.out.cell 1
        have s0 := XR5.out.froz 0
        have s1 := XR5.out.froz 1
        simp at q0 q1 r0 r1
        have XF6 := kide (XF5.out.set 0 (.int .i64 (1000 + (x5 : Int))))
        have XR6 := kide (XR5.out.other (by omega : w.heap.size ≠ F) 0 (.int .i64 (1000 + (x5 : Int))))
        have OQ6 := kide (own3_set OK5.out XF5.out (by decide) (o := 0) (.int .i64 (1000 + (x5 : Int))))
        have DW6 := kide (DW5.out.put F 0 (.int .i64 (1000 + (x5 : Int))) (by omega))
        have RR6 := kide (RR5.out.put DW5.out.size hβa.out (by omega : w.heap.size ≤ F) hFb 0 (.int .i64 (1000 + (x5 : Int))))
        have hnF : w.heap.size ≠ F := by omega
        have hnF' : F ≠ w.heap.size := by omega
        have XE := (XR6.out.set 0 (.int .i64 (1000 + (x5 : Int)))).set 1 (.slice av N cv)
        have z0 := XE.cell 0
        have z1 := XE.cell 1
        simp at z0 z1
        go_wp2_with fail
        exact bodyPost_ret (v := .agg #[.int .i64 (1000 + (x5 : Int)), .slice av N cv]) (by simp [results, Try.results61, go_sem, z0, z1]) rfl (HEND.out _ (1000 + (x5 : Int)) _ _ _ ls ⟨by omega, by omega⟩ XF6.out OQ6.out HL64.out IN.out XR6.out RR6.out DW6.out)
      have n0 : ¬ (y : Int) = 0 := by omega
      have n1 : ¬ (y : Int) = 1 := by omega
      have n2 : ¬ (y : Int) = 2 := by omega
      have n3 : ¬ (y : Int) = 3 := by omega
      have b0 : ((y : Int) == 0) = false := beq_eq_false_iff_ne.2 n0
      have b1 : ((y : Int) == 1) = false := beq_eq_false_iff_ne.2 n1
      have b2 : ((y : Int) == 2) = false := beq_eq_false_iff_ne.2 n2
      have b3 : ((y : Int) == 3) = false := beq_eq_false_iff_ne.2 n3
      have XE := (XR4.out.set 0 (.int .i64 Z)).set 1 (.slice av N cv)
      have z0 := XE.cell 0
      have z1 := XE.cell 1
      simp at z0 z1
      go_wp2_with fail
      exact bodyPost_ret (v := .agg #[.int .i64 Z, .slice av N cv]) (by simp [results, Try.results61, go_sem, z0, z1]) rfl (HEND.out w4 Z av N cv ls hZ64 XF4.out OK4.out HL64.out IN.out XR4.out RR4.out DW4.out)

end Go.Proofs.Ytakicdlfolhhcaa
