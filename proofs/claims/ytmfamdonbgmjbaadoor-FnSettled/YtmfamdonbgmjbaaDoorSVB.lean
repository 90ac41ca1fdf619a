/- undo. -/
import Derived.Test.YtmfamdonbgmjbaaDoorZGAI
import Derived.Test.YtmfamdonbgmjbaaDoorSVA
import Derived.Lib.SliceRun
namespace Go.Proofs.YtmfamdonbgmjbaaDoor
set_option linter.unusedVariables false
set_option linter.unusedSimpArgs false
open Go.RowKit
theorem setCells_zero (b : Nat) : ∀ (k o : Nat) (ws : List Nat) (w : World), Bz w b (wsV ws) 108 → o + k = ws.length → Bz (w.setCells b o (List.replicate k (Value.int .u64 0))) b (wsV (ws.take o ++ List.replicate k 0)) 108 ∧ Ob b w (w.setCells b o (List.replicate k (Value.int .u64 0)))
  | 0, o, ws, w, h, hl => by
    rw [List.replicate_zero, List.replicate_zero, List.append_nil, List.take_of_length_le (by omega)]
    exact ⟨h, Ob.refl _ _⟩
  | k + 1, o, ws, w, h, hl => by
    rw [List.replicate_succ, World.setCells]
    have h1 : Bz (w.setCell ⟨b, o, none⟩ (Value.int .u64 0)) b (wsV (ws.set o 0)) 108 := by
      have := h.set o (Value.int .u64 ((0 : Nat) : Int))
      rw [wsV_set] at this
      exact this
    obtain ⟨h2, h3⟩ := setCells_zero b k (o + 1) (ws.set o 0) _ h1 (by rw [List.length_set]; omega)
    refine ⟨?_, (Ob.set w _).trans h3⟩
    rw [show ws.take o ++ List.replicate (k + 1) 0 = (ws.set o 0).take (o + 1) ++ List.replicate k 0 from by
      rw [List.take_add_one, List.take_set_of_le (Nat.le_refl _), List.getElem?_set_self (by omega), List.replicate_succ]
      simp]
    exact h2
set_option maxHeartbeats 1000000 in
set_option maxRecDepth 100000 in
theorem empty_any (b n c : Nat) (ws : List Nat) (w : World) (hb : Bz w b (wsV ws) 108) (hn : ws.length = n) (hn9 : n ≤ 1048576) :
    Calls Tryd.prog 82 #[.agg #[.slice (some ⟨b, 0, none⟩) n c]] w fun e w' => e = .returned (.tuple #[]) ∧ Bz w' b (wsV (List.replicate n 0)) 108 ∧ Ob b w w' := by
  have hb0 : Below w.heap.size w (w.alloc (Obj.cells #[Value.slice (some ⟨b, 0, none⟩) n c] 66)) := (Below.refl _ _).alloc (Nat.le_refl _) _
  have X0 := kide (Bz.new w #[Value.slice (some ⟨b, 0, none⟩) n c] 66)
  have Z0 := kide (hb.later hb0)
  have O0 : Hid (Ob b w (w.alloc (Obj.cells #[Value.slice (some ⟨b, 0, none⟩) n c] 66))) := Ob.below hb0
  have d0 : (w.alloc (Obj.cells #[Value.slice (some ⟨b, 0, none⟩) n c] 66)).cell? ⟨w.heap.size, 0, none⟩ = some (.slice (some ⟨b, 0, none⟩) n c) := X0.out.cell 0
  have HN := kide hn
  clear hb hb0 X0
  by_cases h0 : n = 0
  · subst h0
    have hcl : ∀ (ty : TypeId) (W : World), (Builtin.clear_ #[64] ty #[.slice (some ⟨b, 0, none⟩) 0 c]).run Tryd.prog W = .ok (.tuple #[]) W := fun ty W => by
      simp [Builtin.clear_, run_underlying Tryd.underlying64]
    go_enter Tryd.func82, Tryd.ntmps82
    go_wp2_with fail
    refine bodyPost_end (v := .tuple #[]) (by simp [results, Tryd.results82, go_sem]) rfl ⟨rfl, ?_, O0.out⟩
    have e : ws = [] := List.eq_nil_of_length_eq_zero HN.out
    have := Z0.out
    rw [e] at this
    exact this
  · have hz : ∀ W, (zeroValue 108).run Tryd.prog W = .ok (Value.int .u64 0) W := fun W => by
      obtain ⟨i0, hi, hz0, hz1, hz2⟩ := info_parts (show (Tryd.prog.info? 108).map (fun i => (i.zero, i.size, i.bytes)) = some (some (.int .u64 0), 1, 8) by kernel_rfl)
      simp [zeroValue, typeInfo, hi, hz0]
    have hcl : ∀ (ty : TypeId), (Builtin.clear_ #[64] ty #[.slice (some ⟨b, 0, none⟩) n c]).run Tryd.prog (w.alloc (Obj.cells #[Value.slice (some ⟨b, 0, none⟩) n c] 66)) = .ok (.tuple #[]) ((w.alloc (Obj.cells #[Value.slice (some ⟨b, 0, none⟩) n c] 66)).setCells b 0 (List.replicate n (.int .u64 0))) := fun ty => Lib.run_clear_slice _ 64 108 ty (.int .u64 0) Tryd.underlying64 hz rfl rfl b 0 n c (by omega) (fun j hj => by
      rw [Nat.zero_add, Z0.out.cell j, wsV_at (by rw [HN.out]; exact hj)]; rfl) (fun j hj => Z0.out.froz _)
    have FIN := kide (setCells_zero b n 0 ws _ Z0.out (by rw [HN.out]; omega))
    go_enter Tryd.func82, Tryd.ntmps82
    go_wp2_with fail
    exact bodyPost_end (v := .tuple #[]) (by simp [results, Tryd.results82, go_sem]) rfl ⟨rfl, by have := FIN.out.1; rw [List.take_zero, List.nil_append] at this; exact this, O0.out.trans FIN.out.2⟩
/-- The first ones of a trail. -/
theorem OI.first {w : World} {B g n c : Nat} {l : List Int} (h : OI w B (.slice (some ⟨g, 0, none⟩) n c) l) (i : Nat) (hi : i ≤ l.length) : OI w B (.slice (some ⟨g, 0, none⟩) i c) (l.take i) := by
  obtain ⟨h1, h2⟩ := h
  rcases h2 with ⟨h2, -⟩ | ⟨g', cap, cur, he, hg, hh, hc1, hc2, hsz, hcur⟩
  · cases h2
  · cases he
    have hl : (l.take i).length = i := by rw [List.length_take]; omega
    unfold OI
    rw [hl, i64s_take]
    refine ⟨?_, .inr ⟨g, c, cur, rfl, hg, hh, by omega, hc2, hsz, ?_⟩⟩
    · rw [List.length_take, h1]; omega
    · rw [← hcur, List.take_take]
      congr 1
      omega
/-- What stands is taken back: the table, then the trail. -/
theorem Wm.cutAt {u u1 : World} {B : Nat} {M : Wb} {S N : Nat} {ca : Option Addr} {nc cc : Nat} {tv tv' : Value} {eyl : List (Nat × Nat)} {rows : List (Value × List Nat)} {T T2 : List Int} {ws : List Nat} (h : Wm u B M S N ca nc cc tv eyl rows T ws) (ho : Ob M.st u u1) (hs : Bz u1 M.st (seL S N T2).toArray 4) (hot : OI u1 B tv' T2) :
    Wm (u1.setCell ⟨M.bx, 5, none⟩ tv') B M S N ca nc cc tv' eyl rows T2 ws := by
  have x1 : Bz u1 M.bx _ _ := ho.bz h.bx (bzNe h.bx h.st (by decide))
  have os : Ob M.bx u1 (u1.setCell ⟨M.bx, 5, none⟩ tv') := Ob.set u1 tv'
  have mv : ∀ {b : Nat} {cs : Array Value} {t : TypeId}, Bz u b cs t → t ≠ 4 → t ≠ 68 → Bz (u1.setCell ⟨M.bx, 5, none⟩ tv') b cs t := fun {b cs t} hb h1 h2 => os.bz (ho.bz hb (bzNe hb h.st h1)) (bzNe hb h.bx h2)
  refine ⟨x1.set 5 tv', mv h.ey (by decide) (by decide), mv h.wt (by decide) (by decide), os.bz hs (bzNe hs x1 (by decide)), mv h.du (by decide) (by decide), ?_, ?_, h.ap, h.lo, h.ne, h.nr, h.wl, h.sz, fun x hx => ⟨mv (h.xx x hx).1 (h.xx x hx).2.2.2.2.1 (h.xx x hx).2.1, (h.xx x hx).2⟩⟩
  · exact hot.move fun b hb => os.2.2.2.2 b (hot.lt hb).2 (hot.notBz x1 (by decide) hb)
  · intro k r hk
    have r0 := h.rw k r hk
    have r1 : OJ u1 B r.1 _ := r0.move fun b hb => ho.2.2.2.2 b (r0.lt hb).2 (r0.notBz h.st (by decide) hb)
    exact r1.move fun b hb => os.2.2.2.2 b (r1.lt hb).2 (r1.notBz x1 (by decide) hb)
theorem seL_cut {S N : Nat} {T : List Int} {x : Int} {j : Nat} (hx : (S : Int) + x = (j : Int)) {T2 : List Int} (h1 : x ∉ T2) (h2 : ∀ y, y ∈ T ↔ y = x ∨ y ∈ T2) : (seL S N T).set j (.bool false) = seL S N T2 := by
  apply List.ext_getElem?
  intro i
  rw [List.getElem?_set, seL_len]
  by_cases h : i < N
  · rw [seL_at h, seL_at h]
    by_cases e : j = i
    · subst e
      have : (j : Int) - (S : Int) = x := by omega
      simp [h, this, h1]
    · rw [if_neg e]
      congr 2
      have h3 : ¬ (i : Int) - (S : Int) = x := by omega
      have := h2 ((i : Int) - (S : Int))
      simp [h3] at this
      simp [this]
  · rw [List.getElem?_eq_none (l := seL S N T2) (by rw [seL_len]; omega)]
    split
    · rw [if_neg (by omega)]
    · exact List.getElem?_eq_none (by rw [seL_len]; omega)
set_option maxHeartbeats 4000000 in
set_option maxRecDepth 100000 in
theorem undo_any {w u : World} {M : Wb} {S N : Nat} {ca : Option Addr} {nc cc : Nat} {tv : Value} {eyl : List (Nat × Nat)} {rows : List (Value × List Nat)} {T T1 : List Int} {ws : List Nat} (h : Wm u w.heap.size M S N ca nc cc tv eyl rows (T ++ T1) ws) (hTk : Tk S (T ++ T1)) (hS : S ≤ 400) (hbl : Below w.heap.size w u) (hw9 : ws.length ≤ 4000) (tn : Nat) (htn : T.length = tn) :
    Calls Tryd.prog 80 #[.pointer (some ⟨M.bx, 0, none⟩), .int .i64 (tn : Int)] u fun e w' => e = .returned (.tuple #[]) ∧ ∃ tv', Wm w' w.heap.size M S N ca nc cc tv' eyl rows T (List.replicate ws.length 0) ∧ Below w.heap.size u w' := by
  have htl := hTk.len
  rw [List.length_append, htn] at htl
  obtain ⟨nn, hnn⟩ : ∃ nn, (T ++ T1).length = nn := ⟨_, rfl⟩
  have hnt : tn ≤ nn := by rw [← hnn, List.length_append, htn]; omega
  obtain ⟨ta, tc, htv⟩ : ∃ ta tc, tv = .slice ta nn tc := by
    rcases h.tr.2 with ⟨e, h0⟩ | ⟨g, cap, cur, e, -⟩
    · exact ⟨none, 0, by rw [e, ← hnn, h0]⟩
    · exact ⟨_, _, by rw [e, hnn]⟩
  have hroom : nn ≤ tc := by
    rcases h.tr.2 with ⟨e, h0⟩ | ⟨g, cap, cur, e, -, -, h1, -⟩
    · rw [htv] at e; cases e; exact Nat.le_refl _
    · rw [htv] at e; cases e; rw [hnn] at h1; exact h1
  subst htv
  have d5 : u.cell? ⟨M.bx, 5, none⟩ = some (.slice ta nn tc) := h.bx.cell 5
  have HW := kide h
  have HTK := kide hTk
  have HBL := kide hbl
  have HTN := kide htn
  have HNN := kide hnn
  clear h hTk hbl htn hnn
  have i1 : (tn : Int) ≤ (nn : Int) := by omega
  have i2 : (tn : Int) ≤ (tc : Int) := by omega
  have TAIL : Hid (∀ (v : World) (tv' : Value), Ob M.st u v → Bz v M.st (seL S N T).toArray 4 → OI v w.heap.size tv' T → Wm (v.setCell ⟨M.bx, 5, none⟩ tv') w.heap.size M S N ca nc cc tv' eyl rows T ws ∧ Below w.heap.size u (v.setCell ⟨M.bx, 5, none⟩ tv')) := fun v tv' h1 h2 h3 => ⟨HW.out.cutAt h1 h2 h3, (h1.bel HW.out.lo.2.2.2.1 HBL.out.size).setCell (p := ⟨M.bx, 5, none⟩) HW.out.lo.1 _⟩
  have HOI : Hid (∀ v, Ob M.st u v → OI v w.heap.size (.slice ta tn tc) T) := fun v h1 => by
    have h2 : OI v w.heap.size (.slice ta nn tc) (T ++ T1) := HW.out.tr.move fun b hb => h1.2.2.2.2 b (HW.out.tr.lt hb).2 (HW.out.tr.notBz HW.out.st (by decide) hb)
    cases ta with
    | none =>
      have h3 := h2.2
      rw [HNN.out] at h3
      rcases h3 with ⟨e, h4⟩ | ⟨g, cap, cur, e, -⟩
      · cases e
        have : T = [] := by have := HNN.out; have h5 : (T ++ T1).length = 0 := by omega
                            rw [List.length_append] at h5; exact List.eq_nil_of_length_eq_zero (by omega)
        subst this
        have : tn = 0 := HTN.out.symm
        subst this
        exact ⟨rfl, .inl ⟨rfl, rfl⟩⟩
      · cases e
    | some ad =>
      have h3 := h2.2
      rcases h3 with ⟨e, h4⟩ | ⟨g, cap, cur, e, -⟩
      · cases e
      · obtain ⟨e1, -, -⟩ := Value.slice.inj e
        cases e1
        have h4 := h2.first tn (by rw [HNN.out]; exact hnt)
        rw [List.take_left' HTN.out] at h4
        exact h4
  by_cases htc : tc = tn
  · have hT1 : T1 = [] := by
      have h1 := HNN.out
      rw [List.length_append, HTN.out] at h1
      exact List.eq_nil_of_length_eq_zero (by omega)
    have hk0 : nn - tn = 0 := by omega
    subst hT1
    obtain rfl : tn = tc := htc.symm
    clear htc
    have ST0 : Hid (Bz u M.st (seL S N T).toArray 4) := by have := HW.out.st; rw [List.append_nil] at this; exact this
    go_enter Tryd.func80, Tryd.ntmps80
    go_wp2_with fail
    go_loopw [13] (fun i wr => i = .int .i64 0 ∧ wr = u) (fun _ _ => 0)
    case atStart => exact ⟨rfl, rfl⟩
    case round =>
      obtain ⟨rfl, rfl⟩ := hrel
      have e5 : wr.cell? ⟨M.bx, 5, none⟩ = some (Value.slice ta nn tn) := (((Ob.refl _ _) : Ob M.st wr wr).bz HW.out.bx (bzNe HW.out.bx HW.out.st (by decide))).cell 5
      have q5 := (((Ob.refl _ _) : Ob M.st wr wr).bz HW.out.bx (bzNe HW.out.bx HW.out.st (by decide))).froz 5
      obtain ⟨hwm, hbe⟩ := TAIL.out wr _ (Ob.refl _ _) ST0.out (HOI.out wr (Ob.refl _ _))
      have WM := kide hwm
      have BE := kide hbe
      clear hwm hbe
      obtain ⟨v5, hv5⟩ : ∃ v5, wr.setCell ⟨M.bx, 5, none⟩ (Value.slice ta tn tn) = v5 := ⟨_, rfl⟩
      rw [hv5] at WM BE
      have e6 : v5.cell? ⟨M.bx, 6, none⟩ = some (.slice (some ⟨M.du, 0, none⟩) ws.length ws.length) := WM.out.bx.cell 6
      have HEM := kide (empty_any M.du ws.length ws.length ws v5 WM.out.du rfl (by omega))
      go_wp2_with fail
      refine Calls.mono HEM.out ?_
      rintro e v6 ⟨rfl, hz6, ho6⟩
      have WM6 := kide (WM.out.duAt ho6 hz6 (by rw [List.length_replicate]) (fun i => by rw [List.getD_eq_getElem?_getD, List.getElem?_replicate]; split <;> decide))
      have BE6 := kide (BE.out.trans (ho6.bel HW.out.lo.2.2.2.2 (HBL.out.trans BE.out).size))
      clear hz6 ho6
      go_wp2_with fail
      exact bodyPost_end (v := .tuple #[]) (by simp [results, Tryd.results80, go_sem]) rfl ⟨rfl, _, WM6.out, BE6.out⟩
  · obtain ⟨g, rfl⟩ : ∃ g, ta = some ⟨g, 0, none⟩ := by
      have h3 := HW.out.tr.2
      rw [HNN.out] at h3
      rcases h3 with ⟨e, h4⟩ | ⟨g, cap, cur, e, -⟩
      · cases e; omega
      · cases e; exact ⟨g, rfl⟩
    obtain ⟨kn, hkn⟩ : ∃ kn, nn - tn = kn := ⟨_, rfl⟩
    have HKN : Hid (T1.length = kn) := by
      have h1 := HNN.out
      rw [List.length_append, HTN.out] at h1
      show _ = _
      omega
    have hk9 : kn ≤ 400 := by have := HKN.out; omega
    have hle : tn ≤ tc := by omega
    go_enter Tryd.func80, Tryd.ntmps80
    go_wp2_with fail
    go_loopw [13] (fun i wr => ∃ k : Nat, k ≤ kn ∧ i = .int .i64 (k : Int) ∧ Ob M.st u wr ∧ Bz wr M.st (seL S N (T ++ T1.drop k)).toArray 4) (fun i _ => kn - (intOf i).toNat)
    case atStart => exact ⟨0, Nat.zero_le _, rfl, Ob.refl _ _, HW.out.st⟩
    case round =>
      obtain ⟨k, hk, rfl, hob, hst⟩ := hrel
      have OB := kide hob
      have ST := kide hst
      clear hob hst
      by_cases hlt : k < kn
      · obtain ⟨x, hx⟩ : ∃ x, T1[k]? = some x := ⟨_, List.getElem?_eq_getElem (by rw [HKN.out]; exact hlt)⟩
        have hxm : x ∈ T ++ T1 := List.mem_append_right _ (List.mem_of_getElem? hx)
        have hxb := HTK.out.num x hxm
        obtain ⟨j, hj⟩ : ∃ j : Nat, (S : Int) + x = (j : Int) := ⟨((S : Int) + x).toNat, by omega⟩
        have hjN : j < N := by have := HW.out.sz; omega
        have hdr : T1.drop k = x :: T1.drop (k + 1) := by
          obtain ⟨h1, rfl⟩ := List.getElem?_eq_some_iff.1 hx
          exact List.drop_eq_getElem_cons h1
        have hnx : x ∉ T ++ T1.drop (k + 1) := by
          have hnd := HTK.out.nd
          have hsub : (T ++ T1.drop k).Sublist (T ++ T1) := (List.Sublist.refl T).append (List.drop_sublist _ _)
          have h2 := (hsub.map absI).nodup hnd
          rw [hdr] at h2
          intro hm
          rw [List.map_append, List.map_cons, List.nodup_append] at h2
          obtain ⟨-, h3, h4⟩ := h2
          rcases List.mem_append.1 hm with h5 | h5
          · exact h4 _ (List.mem_map_of_mem h5) _ (List.mem_cons_self) rfl
          · exact (List.nodup_cons.1 h3).1 (List.mem_map_of_mem h5)
        have hmem : ∀ y, y ∈ T ++ T1.drop k ↔ y = x ∨ y ∈ T ++ T1.drop (k + 1) := fun y => by
          rw [hdr]
          simp only [List.mem_append, List.mem_cons]
          constructor
          · rintro (h | h | h)
            · exact .inr (.inl h)
            · exact .inl h
            · exact .inr (.inr h)
          · rintro (h | h | h)
            · exact .inr (.inl h)
            · exact .inl h
            · exact .inr (.inr h)
        have HCUT := kide (seL_cut (N := N) (T := T ++ T1.drop k) hj hnx hmem)
        clear hmem
        have hcell : wr.cell? ⟨g, tn + k, none⟩ = some (.int .i64 x) := by
          have h1 : OI wr w.heap.size (.slice (some ⟨g, 0, none⟩) nn tc) (T ++ T1) := HW.out.tr.move fun b hb => OB.out.2.2.2.2 b (HW.out.tr.lt hb).2 (HW.out.tr.notBz HW.out.st (by decide) hb)
          have h2 := World.ownsRow.cells h1 (g := g) rfl (tn + k) (.int .i64 x) (by
            simp only [i64s, List.getElem?_map]
            rw [show (T ++ T1)[tn + k]? = some x by rw [List.getElem?_append_right (by rw [HTN.out]; omega), HTN.out, Nat.add_sub_cancel_left]; exact hx]
            rfl)
          rw [Addr.add_lit] at h2
          simpa using h2
        have BX : Hid (Bz wr M.bx _ _) := OB.out.bz HW.out.bx (bzNe HW.out.bx HW.out.st (by decide))
        have i3 : (k : Int) < (kn : Int) := by omega
        have k1 : (j : Int) < (N : Int) := by omega
        have HJ := kide hj
        have HJN := kide hjN
        have HXB := kide hxb
        clear hx hxm hdr hnx hj hxb d5
        go_wp2_with fail
        refine wp_region_x (SA := fun uu => uu.cell? ⟨M.bx, 4, none⟩ = some (Value.slice (some ⟨M.st, 0, none⟩) N N) ∧ uu.cell? ⟨M.bx, 0, none⟩ = some (Value.int .i64 (S : Int))) (SB := fun _ => True) (k := 8) (by kernel_rfl) ?_
        have hbd : Below wr.heap.size wr wr.drew := (Below.refl _ _).drew
        have XB0 := kide (BX.out.later hbd)
        have SS0 := kide (ST.out.later hbd)
        have OO0 := kide (OB.out.trans (Ob.below hbd))
        clear hbd
        generalize wr.drew = q0 at *
        have c0_0 : q0.cell? ⟨M.bx, 4, none⟩ = some (Value.slice (some ⟨M.st, 0, none⟩) N N) := XB0.out.cell 4
        have c1_0 : q0.cell? ⟨M.bx, 0, none⟩ = some (Value.int .i64 (S : Int)) := XB0.out.cell 0
        have hs0 : Hid ((fun uu => uu.cell? ⟨M.bx, 4, none⟩ = some (Value.slice (some ⟨M.st, 0, none⟩) N N) ∧ uu.cell? ⟨M.bx, 0, none⟩ = some (Value.int .i64 (S : Int))) q0) := ⟨c0_0, c1_0⟩
        try go_simp
        refine wpAnyX_both (T := fun _ => True) (i := 0) (v := Value.pointer (some ⟨M.bx, 0, none⟩)) rfl (by kernel_rfl) (by kernel_rfl) (by kernel_rfl) (fun _ _ _ h => by first | exact h | exact h.elim) (by decide) (fun _ _ => trivial) (fun _ _ => trivial) (Sx.before (by kernel_rfl) hs0.out) (Or.inl ⟨by rfl, fun uu hu => by go_simp⟩) ?_
        try go_simp
        refine wpAnyX_both (T := fun _ => True) (i := 1) (v := Value.pointer (some ⟨M.bx, 0, none⟩)) rfl (by kernel_rfl) (by kernel_rfl) (by kernel_rfl) (fun _ _ _ h => by first | exact h | exact h.elim) (by decide) (fun _ _ => trivial) (fun _ _ => trivial) (Sx.before (by kernel_rfl) hs0.out) (Or.inl ⟨by rfl, fun uu hu => by go_simp⟩) ?_
        try go_simp
        refine wpAnyX_both (T := fun _ => True) (i := 2) (v := Value.pointer (some ⟨M.bx, 4, none⟩)) rfl (by kernel_rfl) (by kernel_rfl) (by kernel_rfl) (fun _ _ _ h => by first | exact h | exact h.elim) (by decide) (fun _ _ => trivial) (fun _ _ => trivial) (Sx.before (by kernel_rfl) hs0.out) (Or.inl ⟨by rfl, fun uu hu => by go_simp⟩) ?_
        try go_simp
        refine wpAnyX_take (i := 3) (v := Value.slice (some ⟨M.st, 0, none⟩) N N) rfl (by kernel_rfl) (by kernel_rfl) (by kernel_rfl) (fun _ _ _ h => by first | exact h | exact h.elim) (by decide) (by kernel_rfl) (by kernel_rfl) hs0.out (Or.inl ⟨by rfl, fun uu hu => by obtain ⟨e0, e1⟩ := hu; go_simp⟩) ?_
        try go_simp
        refine wpAnyX_both (T := fun _ => True) (i := 4) (v := Value.pointer (some ⟨M.bx, 0, none⟩)) rfl (by kernel_rfl) (by kernel_rfl) (by kernel_rfl) (fun _ _ _ h => by first | exact h | exact h.elim) (by decide) (fun _ _ => trivial) (fun _ _ => trivial) (Sx.before (by kernel_rfl) hs0.out) (Or.inl ⟨by rfl, fun uu hu => by go_simp⟩) ?_
        try go_simp
        refine wpAnyX_both (T := fun _ => True) (i := 5) (v := Value.int .i64 x) rfl (by kernel_rfl) (by kernel_rfl) (by kernel_rfl) (fun _ _ _ h => by first | exact h | exact h.elim) (by decide) (fun _ _ => trivial) (fun _ _ => trivial) (Sx.before (by kernel_rfl) hs0.out) (Or.inl ⟨by rfl, fun uu hu => by go_simp⟩) ?_
        try go_simp
        refine wpAnyX_ready (rs := [6]) (by kernel_rfl) (by simp) (AllX.cons rfl (fun K hK => ?_) AllX.nil)
        go_simp
        have HSE := seat_any x q0 XB0.out rfl hS (by have := HXB.out; omega)
        rw [HJ.out] at HSE
        refine Calls.mono HSE ?_
        rintro e q1 ⟨rfl, hw9⟩
        obtain rfl := hw9
        clear HSE
        have XB1 := XB0
        have SS1 := SS0
        have OO1 := OO0
        have c0_1 : q1.cell? ⟨M.bx, 4, none⟩ = some (Value.slice (some ⟨M.st, 0, none⟩) N N) := XB1.out.cell 4
        have c1_1 : q1.cell? ⟨M.bx, 0, none⟩ = some (Value.int .i64 (S : Int)) := XB1.out.cell 0
        have hs1 : Hid ((fun uu => uu.cell? ⟨M.bx, 4, none⟩ = some (Value.slice (some ⟨M.st, 0, none⟩) N N) ∧ uu.cell? ⟨M.bx, 0, none⟩ = some (Value.int .i64 (S : Int))) q1) := ⟨c0_1, c1_1⟩
        refine hK _ _ (Sx.before (by kernel_rfl) hs1.out) ?_
        clear hK K
        try go_simp
        refine wpAnyX_both (T := fun _ => True) (i := 7) (v := Value.pointer (some ⟨M.st, j, none⟩)) rfl (by kernel_rfl) (by kernel_rfl) (by kernel_rfl) (fun _ _ _ h => by first | exact h | exact h.elim) (by decide) (fun _ _ => trivial) (fun _ _ => trivial) (Sx.before (by kernel_rfl) hs1.out) (Or.inl ⟨by rfl, fun uu hu => by go_simp⟩) ?_
        try go_simp
        refine wpAnyX_ready (rs := [8]) (by kernel_rfl) (by simp) (AllX.cons rfl (fun K hK => ?_) AllX.nil)
        have ce0 := SS1.out.cell j
        rw [List.getElem?_toArray, seL_at HJN.out] at ce0
        have cf0 := SS1.out.froz j
        go_simp
        have OBE : Hid (Ob M.st u (q1.setCell ⟨M.st, j, none⟩ (.bool false))) := OO1.out.trans (Ob.set (b := M.st) (o := j) q1 (.bool false))
        have STE : Hid (Bz (q1.setCell ⟨M.st, j, none⟩ (.bool false)) M.st (seL S N (T ++ T1.drop (k + 1))).toArray 4) := by have := SS1.out.set j (.bool false); rw [List.setIfInBounds_toArray, HCUT.out] at this; exact this
        clear ce0 cf0
        generalize q1.setCell ⟨M.st, j, none⟩ (.bool false) = q2 at *
        refine hK _ _ (Sx.behind (by kernel_rfl) trivial) ?_
        clear hK K
        try go_simp
        refine wpAnyX_done (by kernel_rfl) ?_ _
        go_wp2_with fail
        go_roundw
        case rel => exact ⟨k + 1, by omega, by go_num, OBE.out, STE.out⟩
        case measure => simp only [intOf]; omega
      · obtain rfl : k = kn := by omega
        have STT : Hid (Bz wr M.st (seL S N T).toArray 4) := by have := ST.out; rw [List.drop_eq_nil_of_le (by rw [HKN.out]; exact Nat.le_refl _), List.append_nil] at this; exact this
        have e5 : wr.cell? ⟨M.bx, 5, none⟩ = some (Value.slice (some ⟨g, 0, none⟩) nn tc) := ((OB.out : Ob M.st u wr).bz HW.out.bx (bzNe HW.out.bx HW.out.st (by decide))).cell 5
        have q5 := ((OB.out : Ob M.st u wr).bz HW.out.bx (bzNe HW.out.bx HW.out.st (by decide))).froz 5
        obtain ⟨hwm, hbe⟩ := TAIL.out wr _ OB.out STT.out (HOI.out wr OB.out)
        have WM := kide hwm
        have BE := kide hbe
        clear hwm hbe
        obtain ⟨v5, hv5⟩ : ∃ v5, wr.setCell ⟨M.bx, 5, none⟩ (Value.slice (some ⟨g, 0, none⟩) tn tc) = v5 := ⟨_, rfl⟩
        rw [hv5] at WM BE
        have e6 : v5.cell? ⟨M.bx, 6, none⟩ = some (.slice (some ⟨M.du, 0, none⟩) ws.length ws.length) := WM.out.bx.cell 6
        have HEM := kide (empty_any M.du ws.length ws.length ws v5 WM.out.du rfl (by omega))
        go_wp2_with fail
        refine Calls.mono HEM.out ?_
        rintro e v6 ⟨rfl, hz6, ho6⟩
        have WM6 := kide (WM.out.duAt ho6 hz6 (by rw [List.length_replicate]) (fun i => by rw [List.getD_eq_getElem?_getD, List.getElem?_replicate]; split <;> decide))
        have BE6 := kide (BE.out.trans (ho6.bel HW.out.lo.2.2.2.2 (HBL.out.trans BE.out).size))
        clear hz6 ho6
        go_wp2_with fail
        exact bodyPost_end (v := .tuple #[]) (by simp [results, Tryd.results80, go_sem]) rfl ⟨rfl, _, WM6.out, BE6.out⟩
end Go.Proofs.YtmfamdonbgmjbaaDoor
