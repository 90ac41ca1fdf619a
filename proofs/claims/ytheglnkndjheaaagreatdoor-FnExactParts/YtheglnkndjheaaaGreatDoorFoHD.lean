/- The program's sets of a grove. -/
import Derived.Test.YtheglnkndjheaaaGreatDoorZFA
import Derived.Test.YtheglnkndjheaaaGreatDoorFoGF
import Derived.Handy
namespace Go.Proofs.YtheglnkndjheaaaGreatDoor.Fo
set_option linter.unusedVariables false
set_option linter.unusedSimpArgs false
open Go.RowKit

theorem Tryz.infoRow : (Tryz.prog.info? 40).map (fun i => (i.zero, i.size, i.bytes)) = some (some (.slice none 0 0), 1, 24) := by kernel_rfl

theorem wpList_appWl {w : World} {ops : Array Oper} {rest : List Oper} {o : Oper} {a : Act} {Q : Exit → Act → World → Prop} (hgd : o.guard = none) (s x : Operand)
    (ho : o.op = .call { callee := .builtin .append, args := #[s, x], argTypes := #[40, 40] })
    (B : Nat) (v : Value) (xs : List Int) (y : Int) (hs : a.eval s = v) (hown : OW w B v xs) (gx : Nat) (hx : a.eval x = .slice (some ⟨gx, 0, none⟩) 1 1)
    (h0 : w.cell? ⟨gx, 0, none⟩ = some (.int .i64 y)) (hl : xs.length ≤ 1073741824) (hB : B ≤ w.heap.size)
    (h : ∀ v' w', OW w' B v' (xs ++ [y]) → w.grownBy w' v.ownBlock → (v'.ownBlock = v.ownBlock ∨ v'.ownBlock = some w.heap.size) → wpList Tryz.prog ops Q rest (a.put o.dst v') w') : wpList Tryz.prog ops Q (o :: rest) a w := by
  obtain ⟨i0, hi, hz0, hz1, hz2⟩ := info_parts Tryz.infoI64
  refine wpList_append_own_at w hgd s x 40 ho B 2 i0 _ 1 8 Tryz.underlying40 hi hz0 hz1 hz2 rfl (by decide) v xs.length (xs.map (Value.int .i64)) hs hown ⟨gx, 0, none⟩ 1 1 [.int .i64 y] hx rfl ?_ ?_ (by unfold maxLen; omega) (by omega) hB ?_
  · intro j u hj
    rw [Addr.add_lit]
    match j, hj with
    | 0, hj => simp at hj; subst hj; exact h0
    | j + 1, hj => simp at hj
  · intro u hu
    simp at hu
    subst hu
    rfl
  · intro v' w' ho' hg _ hat
    refine h v' w' ?_ hg hat
    unfold OW
    rw [List.map_append, List.length_append]
    exact ho'

theorem OW.later' {w w' : World} {B : Nat} {v : Value} {xs : List Int} (h : OW w B v xs) (hb : Below w.heap.size w w') : OW w' B v xs := own_later h hb

set_option maxHeartbeats 1000000 in
set_option maxRecDepth 100000 in
theorem setsG_any {w : World} {B G M : Nat} {s : Gs} (h : Gv w B G M s) (hN : Nl s) {L : Nat → Nat} {rt dp : Nat → Nat} (hu : Uf s.ps.length L s.up s.le rt dp) (n : Nat) (hn : n ≤ s.ps.length) (hL : ∀ i, i < n → L i < n) (hl : n ≤ 1000) :
    Calls Tryz.prog 58 #[.pointer (some ⟨G, 0, none⟩), .int .i64 (n : Int)] w fun e w' => ∃ g f, e = .returned (.slice (some ⟨g, 0, none⟩) n n) ∧ Sets w' w.heap.size g n f (fun k => setR L k n) ∧ Below w.heap.size w w' := by
  have hmk := fun kl kc w => run_make_row' (P := Tryz.prog) 26 40 (.slice none 0 0) 24 Tryz.underlying26 Tryz.infoRow rfl kl kc n (by omega) (by omega) w
  have HG := kide h
  have HNL := kide hN
  have HU := kide hu
  have HLN := kide hL
  have HN := kide hn
  clear h hN hu hL hn
  go_enter Tryz.func58, Tryz.ntmps58
  go_wp2_with fail
  have hrow := World.rowIs_made w (.slice none 0 0) n 40
  have hb0 : Hid (Below w.heap.size w (w.alloc (.cells (madeCells #[.slice none 0 0] n) 40))) := (Below.refl _ _).alloc (Nat.le_refl _) _
  have S0 : Hid (Sets (w.alloc (.cells (madeCells #[.slice none 0 0] n) 40)) w.heap.size w.heap.size n (fun _ => .slice none 0 0) (fun k => setR L k 0)) :=
    ⟨Nat.le_refl _, hrow, fun i hi => ⟨rfl, .inl ⟨rfl, rfl⟩⟩, fun i j hi hj hij b hb => by cases hb⟩
  clear hrow hmk
  generalize (w.alloc (.cells (madeCells #[.slice none 0 0] n) 40)) = w0 at *
  go_loopw [11] (fun q wr => ∃ (k : Nat) (f : Nat → Value), k ≤ n ∧ q = .int .i64 (k : Int) ∧ Sets wr w.heap.size w.heap.size n f (fun i => setR L i k) ∧ Below w.heap.size w wr) (fun q _ => n - (intOf q).toNat)
  case atStart => exact ⟨0, _, Nat.zero_le _, rfl, S0.out, hb0.out⟩
  case round =>
    obtain ⟨k, f, hk, rfl, hst, hbel⟩ := hrel
    have HS := kide hst
    have HB := kide hbel
    clear hst hbel S0 hb0
    by_cases hlt : k < n
    · have hnk : k < s.ps.length := by have := HN.out; omega
      have hg : Hid (Gv wr B G M s) := HG.out.later HB.out
      obtain ⟨pA, hpA⟩ : ∃ p, s.ps[k]? = some p := ⟨_, List.getElem?_eq_getElem hnk⟩
      obtain ⟨kb, N, kcap, hN, hks⟩ : ∃ kb N kcap, N = s.ps.length ∧ s.kc = .slice (some ⟨kb, 0, none⟩) N kcap := by
        rw [HNL.out.k]
        rcases HG.out.kr.2 with ⟨-, h0⟩ | ⟨g, cap, cur, h0, -⟩
        · omega
        · exact ⟨g, _, cap, rfl, h0⟩
      have e3 : wr.cell? ⟨G, 0, none⟩ = some (.slice (some ⟨kb, 0, none⟩) N kcap) := by rw [cell_of hg.out.gb]; exact congrArg some hks
      have e4 : wr.cell? ⟨kb, k, none⟩ = some (pt pA) := by
        obtain ⟨a, c, e, hc⟩ := hg.out.kform
        obtain ⟨g, rfl, h2⟩ := hc k pA hpA
        rw [← HNL.out.k, hks] at e
        cases e
        exact h2
      have hrl := (HU.out.rlt k hnk).1
      obtain ⟨pR, hpR⟩ : ∃ p, s.ps[rt k]? = some p := ⟨_, List.getElem?_eq_getElem hrl⟩
      obtain ⟨-, -, -, -, e5⟩ := hg.out.get hpR
      rw [HU.out.lst k hnk] at e5
      have HHD := kide (head_any hg.out HU.out k pA hpA)
      have hgd : s.ps.getD (rt k) 0 = pR := by rw [List.getD, hpR]; rfl
      rw [hgd] at HHD
      unfold pt at HHD e4
      have i0 : (k : Int) < (N : Int) := by have := HN.out; omega
      have i1 : (k : Int) < (n : Int) := by omega
      have hlk : L k < n := HLN.out k hlt
      obtain ⟨m, hm⟩ : ∃ m, L k = m := ⟨_, rfl⟩
      rw [hm] at e5 hlk
      have HM := kide hm
      have i2 : (m : Int) < (n : Int) := by omega
      have q0 := HS.out.row.cell hlk
      have r0 := HS.out.row.frozen m
      have hOW := HS.out.own m hlk
      have HOW := kide hOW
      obtain ⟨am, nm, cm, hfm⟩ : ∃ a n c, f m = .slice a n c := by
        rcases hOW.2 with ⟨e, -⟩ | ⟨g, cap, cur, e, -⟩
        · exact ⟨_, _, _, e⟩
        · exact ⟨_, _, _, e⟩
      rw [hfm] at q0 HOW
      have HFM := kide hfm
      clear hpA hks hpR hgd hrl hnk hN hm hOW hfm
      have hsl : (setR L m k).length ≤ 1073741824 := Nat.le_trans (setR_len L m k) (by omega)
      have hwz := HB.out.size
      have hba : Below wr.heap.size wr (wr.alloc (Obj.cells #[Value.int .i64 (k : Int)] 2)) := (Below.refl _ _).alloc (Nat.le_refl _) _
      have HSa := kide (HS.out.later hba)
      have HBa := kide (HB.out.trans (hba.mono HB.out.size))
      have HOa := kide (OW.later' HOW.out hba)
      clear hba
      go_wp2_with (first | (go_at_call 74; refine Calls.mono HHD.out ?_; rintro e w2 ⟨rfl, hw2⟩; obtain rfl := hw2.symm) | (at_builtin; refine wpList_appWl rfl _ _ rfl w.heap.size _ (setR L m k) (k : Int) rfl HOa.out _ rfl (by simp) hsl (by simp; omega) ?_))
      intro v7 w7 hos hg7 hat7
      have hg8 := hg7
      rw [← HFM.out] at hg8 hat7
      have S7 := kide (HSa.out.step hlk hos hg8 (by simpa using hat7))
      have B7 := kide (Below.grown HBa.out hg7 (by simp; omega) (fun j hj => (own_lt HOa.out hj).1))
      have hne : some w.heap.size ≠ (Value.slice am nm cm).ownBlock := by
        obtain ⟨cc, hh, -⟩ := HSa.out.row
        exact own_typed HOa.out hh (by decide)
      have hrow7 : w7.rowIs w.heap.size 40 n f := World.rowIs.of_block HSa.out.row (hg7.block _ HSa.out.row.lt hne)
      have q7 := hrow7.cell hlk
      have r7 := hrow7.frozen m
      obtain ⟨a7, n7, c7, rfl⟩ : ∃ a n c, v7 = .slice a n c := by
        rcases hos.2 with ⟨e, -⟩ | ⟨g, cap, cur, e, -⟩
        · exact ⟨_, _, _, e⟩
        · exact ⟨_, _, _, e⟩
      clear hos hg7 hg8 hat7 hne hrow7
      go_wp2_with fail
      go_roundw
      case rel =>
        refine ⟨k + 1, (fun i => if i = m then Value.slice a7 n7 c7 else f i), by omega, by go_num, ?_, B7.out.setCell (Nat.le_refl _) _⟩
        have he : (fun i => if i = m then setR L m k ++ [(k : Int)] else setR L i k) = fun i => setR L i (k + 1) := by
          funext i
          by_cases e : i = m
          · rw [if_pos e, e, setR_yes HM.out]
          · rw [if_neg e, setR_no (by rw [HM.out]; exact Ne.symm e)]
        rw [← he]
        exact S7.out
      case measure => simp [intOf]; omega
    · have e : k = n := by omega
      subst e
      go_wp2_with fail
      go_ret
      exact ⟨_, f, rfl, HS.out, HB.out⟩

theorem sets_any {w : World} {B G M : Nat} {s : Gs} (h : Gv w B G M s) (hN : Nl s) {L : Nat → Nat} {rt dp : Nat → Nat} (hu : Uf s.ps.length L s.up s.le rt dp) (hL : Nm s.ps.length L) (n : Nat) (hn : s.ps.length = n) (hl : n ≤ 1000) :
    Calls Tryz.prog 58 #[.pointer (some ⟨G, 0, none⟩), .int .i64 (n : Int)] w fun e w' => ∃ g f, e = .returned (.slice (some ⟨g, 0, none⟩) n n) ∧ Sets w' w.heap.size g n f (fun k => setR L k n) ∧ Below w.heap.size w w' :=
  setsG_any h hN hu n (by omega) (fun i hi => by have := hL.lt i (by omega); omega) hl

end Go.Proofs.YtheglnkndjheaaaGreatDoor.Fo
