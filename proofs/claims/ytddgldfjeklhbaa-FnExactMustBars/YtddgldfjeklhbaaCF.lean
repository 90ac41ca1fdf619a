/- What the program's MustBars answers. -/
import Derived.Test.YtddgldfjeklhbaaCE
import Derived.Test.YtddgldfjeklhbaaBQ
namespace Go.Proofs.Ytddgldfjeklhbaa
set_option linter.unusedVariables false
set_option linter.unusedSimpArgs false
open Go.RowKit Go.WideMaps Go.Maps

/-- The words of no two bars lie in one block. -/
def Dj (l : List Yg) : Prop := ∀ (i j : Nat) (x y : Yg), i < j → l[i]? = some x → l[j]? = some y → ∀ p q, x.a = some p → y.a = some q → p.block ≠ q.block
theorem Dj.nil : Dj [] := fun i j x y _ h => by simp at h
theorem nw_lt {w : World} {lo : Nat} {a : Option Addr} {xs : List Nat} (h : Nw w lo a xs) {p : Addr} (hp : a = some p) : lo ≤ p.block ∧ p.block < w.heap.size := by
  rcases h with ⟨h1, h2⟩ | ⟨g, cur, h1, h2, h3, h4⟩
  · obtain ⟨k1, -, cur, k2⟩ := h2 p hp
    exact ⟨k1, lt_of_block k2⟩
  · rw [h1] at hp
    cases hp
    exact ⟨h2, lt_of_block h3⟩
theorem Dj.put {w : World} {B : Nat} {l : List Yg} {x : Yg} (h : Dj l) (hl : ∀ y ∈ l, Nw w B y.a y.ct.ws ∧ okY y.ct) (hx : ∀ p, x.a = some p → w.heap.size ≤ p.block) : Dj (putG l x) := by
  unfold putG
  split
  · exact h
  · intro i j y z hij hi hj p q hp hq
    have hjl := (List.getElem?_eq_some_iff.1 hj).1
    simp at hjl
    have hi' : l[i]? = some y := by
      rw [List.getElem?_append_left (by omega)] at hi; exact hi
    by_cases e : j < l.length
    · rw [List.getElem?_append_left e] at hj
      exact h i j y z hij hi' hj p q hp hq
    · have e2 : j = l.length := by omega
      subst e2
      simp at hj
      subst hj
      have h1 := nw_lt (hl y (List.mem_of_getElem? hi')).1 hp
      have h2 := hx q hq
      omega

def RetD4 (w : World) (r : List Yc) (e : Ending) (w' : World) : Prop := ∃ v l, e = .returned v ∧ OB4 w' w.heap.size v l ∧ l.map Yg.ct = r ∧ (∀ x ∈ l, Nw w' w.heap.size x.a x.ct.ws ∧ okY x.ct) ∧ Dj l ∧ Below w.heap.size w w'

theorem putG_ct' (l : List Yg) (x : Yg) : (putG l x).map Yg.ct = putY (l.map Yg.ct) x.ct := by
  unfold putG putY
  split <;> simp

set_option maxHeartbeats 2000000 in
set_option maxRecDepth 100000 in
theorem implMust_any (a : Option Addr) (c n : Nat) (xs : List Pg) (w : World) (hr : RdP w a xs) (hn : xs.length = n) (hlie : Lie xs) :
    Calls Try.prog 8 #[.slice a n c] w (RetD4 w (mustR (xs.map Pg.ct))) := by
  have hl := hr.1
  rw [hn] at hl
  have HR := kide hr
  have HN := kide hn
  have HL := kide hlie
  clear hr hn hlie
  go_enter Try.func8, Try.ntmps8
  go_wp2_with fail
  refine Calls.mono (newBarSet_any w) ?_
  rintro e w1 ⟨s, rfl, hs1, hb1⟩
  have S1 := kide hs1
  have B1 := kide hb1
  clear hs1 hb1
  go_wp2_with fail
  go_loopw [10] (fun q wr => ∃ (k : Nat) (l : List Yg), k ≤ n ∧ q = .int .i64 (k : Int) ∧ Bset wr w.heap.size s l ∧ l.map Yg.ct = mustR ((xs.map Pg.ct).take k) ∧ (∀ x ∈ l, Nw wr w.heap.size x.a x.ct.ws ∧ okY x.ct) ∧ Dj l ∧ Below w.heap.size w wr) (fun q _ => n - (intOf q).toNat)
  case atStart => exact ⟨0, [], Nat.zero_le _, rfl, S1.out, rfl, by simp, Dj.nil, B1.out⟩
  case round =>
    obtain ⟨k, l, hk, rfl, ho, hlc, hlw, hdj, hb⟩ := hrel
    have HO := kide ho
    have HLC := kide hlc
    have HLW := kide hlw
    have HDJ := kide hdj
    have HB := kide hb
    have hll : l.length ≤ 1048576 := by have h9 := congrArg List.length hlc; have h8 := mustR_len ((xs.map Pg.ct).take k); rw [List.length_map] at h9; rw [List.length_take] at h8; omega
    clear S1 B1 hlc hlw hdj
    by_cases hlt : k < n
    · have i0 : (k : Int) < (n : Int) := by omega
      obtain ⟨p, gp⟩ : ∃ p, xs[k]? = some p := ⟨xs[k]'(by rw [HN.out]; exact hlt), List.getElem?_eq_getElem _⟩
      have gc : (xs.map Pg.ct)[k]? = some p.ct := by simp [gp]
      have hst := mustR_step gc
      have hlp := HL.out p (List.mem_of_getElem? gp)
      obtain ⟨-, h | ⟨b, o, rfl, hc⟩⟩ := HR.out.later hb
      · rw [h] at gp; simp at gp
      obtain ⟨⟨p0, p1, p2⟩, PR, -⟩ := hc k p gp
      have lb := block_lt_of_cell p0
      obtain ⟨pid, pst, pbs, pa, pc⟩ := p
      simp only [Pg.ct] at *
      obtain ⟨bn, hbn⟩ : ∃ bn, pbs.length = bn := ⟨_, rfl⟩
      rw [hbn] at p2
      have hbl := PR.1
      have hbx : Below wr.heap.size wr (wr.alloc (Obj.cells #[Value.int .i64 pid, Value.int .i64 pst, Value.slice pa bn pc] 48)) := (Below.refl _ _).alloc (Nat.le_refl _) _
      have HBX := kide hbx
      have B2 := kide (hb.trans (hbx.mono hb.size))
      clear hc gp gc ho hb
      by_cases hs3 : pst = 3
      · subst hs3
        by_cases hb1 : bn = 1
        · subst hb1
          obtain ⟨y, rfl⟩ : ∃ y, pbs = [y] := by
            match pbs, hbn with
            | [y], _ => exact ⟨y, rfl⟩
          have ya := hlp y (by simp)
          obtain ⟨-, h | ⟨bb, bo, rfl, hcb⟩⟩ := PR
          · cases h
          have hyat := hcb 0 y rfl
          have hoky := okY_at' hyat
          obtain ⟨⟨P3, P4, P5, P6⟩, PRy, -⟩ := hyat
          have lbb := block_lt_of_cell P3
          simp only [Nat.zero_mul, Nat.add_zero, Yg.hd] at P3 P4 P5 P6
          have P3' := (kcell hbx bb bo lbb).trans P3
          have P4' := (kcell hbx bb (bo + 1) lbb).trans P4
          have P5' := (kcell hbx bb (bo + 2) lbb).trans P5
          have P6' := (kcell hbx bb (bo + 3) lbb).trans P6
          have HST : Hid (mustR ((xs.map Pg.ct).take (k + 1)) = putY (mustR ((xs.map Pg.ct).take k)) y.ct) := by show _ = _; rw [hst]; simp [mstC]
          obtain ⟨⟨yv, ylo, ybw, yws⟩, ya', yc⟩ := y
          simp only [] at *
          obtain ⟨yb, yo, rfl⟩ := ya
          obtain ⟨yn, hyn⟩ : ∃ yn, yws.length = yn := ⟨_, rfl⟩
          rw [hyn] at P6 P6'
          have HYN := kide hyn
          have HCP := kide (fun u (hu : Below wr.heap.size wr u) => copyG ybw yb yo yc yn yws u (PRy.later hu) hyn)
          have HOK := kide hoky
          have hbx3 : Below wr.heap.size wr ((wr.alloc (Obj.cells #[Value.int .i64 pid, Value.int .i64 3, Value.slice (some ⟨bb, bo, none⟩) 1 pc] 48)).alloc (Obj.cells #[Value.int .i64 yv, Value.int .i64 ylo, Value.int .i64 ybw, Value.slice (some ⟨yb, yo, none⟩) yn yc] 54)) := hbx.alloc (by simp) _
          have XB : Hid (Bz ((wr.alloc (Obj.cells #[Value.int .i64 pid, Value.int .i64 3, Value.slice (some ⟨bb, bo, none⟩) 1 pc] 48)).alloc (Obj.cells #[Value.int .i64 yv, Value.int .i64 ylo, Value.int .i64 ybw, Value.slice (some ⟨yb, yo, none⟩) yn yc] 54)) (wr.heap.size + 1) #[Value.int .i64 yv, Value.int .i64 ylo, Value.int .i64 ybw, Value.slice (some ⟨yb, yo, none⟩) yn yc] 54) := by
            have h9 := Bz.new (wr.alloc (Obj.cells #[Value.int .i64 pid, Value.int .i64 3, Value.slice (some ⟨bb, bo, none⟩) 1 pc] 48)) #[Value.int .i64 yv, Value.int .i64 ylo, Value.int .i64 ybw, Value.slice (some ⟨yb, yo, none⟩) yn yc] 54
            rw [show (wr.alloc (Obj.cells #[Value.int .i64 pid, Value.int .i64 3, Value.slice (some ⟨bb, bo, none⟩) 1 pc] 48)).heap.size = wr.heap.size + 1 by simp] at h9
            exact h9
          have HB3 := kide hbx3
          have HC3 := kide (HCP.out _ hbx3)
          clear hst hcb hbn PRy hoky hlp hyn HCP hbx3
          go_wp2_with fail
          generalize ((wr.alloc (Obj.cells #[Value.int .i64 pid, Value.int .i64 3, Value.slice (some ⟨bb, bo, none⟩) 1 pc] 48)).alloc (Obj.cells #[Value.int .i64 yv, Value.int .i64 ylo, Value.int .i64 ybw, Value.slice (some ⟨yb, yo, none⟩) yn yc] 54)) = W3 at *
          clear P3 P4 P5 P6 P3' P4' P5' P6' hbx
          refine Calls.mono HC3.out ?_
          rintro e w5 ⟨a5, c5, rfl, hn5, hb5⟩
          have X5 := kide (XB.out.later hb5)
          have N5 := kide hn5
          have B5 := kide (HB3.out.trans (hb5.mono HB3.out.size))
          have q0 : w5.cell? ⟨wr.heap.size + 1, 0, none⟩ = some (Value.int .i64 yv) := X5.out.cell 0
          have q1 : w5.cell? ⟨wr.heap.size + 1, 1, none⟩ = some (Value.int .i64 ylo) := X5.out.cell 1
          have q2 : w5.cell? ⟨wr.heap.size + 1, 2, none⟩ = some (Value.int .i64 ybw) := X5.out.cell 2
          have q3 : w5.cell? ⟨wr.heap.size + 1, 3, none⟩ = some (Value.slice (some ⟨yb, yo, none⟩) yn yc) := X5.out.cell 3
          have f2 := X5.out.froz 2
          have f3 := X5.out.froz 3
          have B6 : Hid (Below wr.heap.size wr ((w5.setCell ⟨wr.heap.size + 1, 2, none⟩ (Value.int .i64 ybw)).setCell ⟨wr.heap.size + 1, 3, none⟩ (Value.slice a5 yn c5))) := (B5.out.setCell (Nat.le_succ _) _).setCell (Nat.le_succ _) _
          have N6 : Hid (Nw ((w5.setCell ⟨wr.heap.size + 1, 2, none⟩ (Value.int .i64 ybw)).setCell ⟨wr.heap.size + 1, 3, none⟩ (Value.slice a5 yn c5)) W3.heap.size a5 yws) := nw_set (nw_set N5.out X5.out (by decide) 2 _) (X5.out.set 2 (Value.int .i64 ybw)) (by decide) 3 _
          have X6 : Hid (Bz ((w5.setCell ⟨wr.heap.size + 1, 2, none⟩ (Value.int .i64 ybw)).setCell ⟨wr.heap.size + 1, 3, none⟩ (Value.slice a5 yn c5)) (wr.heap.size + 1) #[Value.int .i64 yv, Value.int .i64 ylo, Value.int .i64 ybw, Value.slice a5 yn c5] 54) := (X5.out.set 2 _).set 3 _
          have hadd := add_any w.heap.size s l ⟨⟨yv, ylo, ybw, yws⟩, a5, c5⟩ _ (HO.out.later B6.out) (N6.out.rd HOK.out.2.2.2.2 HOK.out.2.2.2.1) HOK.out hll
          simp only [HYN.out] at hadd
          have HADD := kide hadd
          have z0 : ((w5.setCell ⟨wr.heap.size + 1, 2, none⟩ (Value.int .i64 ybw)).setCell ⟨wr.heap.size + 1, 3, none⟩ (Value.slice a5 yn c5)).cell? ⟨wr.heap.size + 1, 0, none⟩ = some (Value.int .i64 yv) := X6.out.cell 0
          have z1 : ((w5.setCell ⟨wr.heap.size + 1, 2, none⟩ (Value.int .i64 ybw)).setCell ⟨wr.heap.size + 1, 3, none⟩ (Value.slice a5 yn c5)).cell? ⟨wr.heap.size + 1, 1, none⟩ = some (Value.int .i64 ylo) := X6.out.cell 1
          have z2 : ((w5.setCell ⟨wr.heap.size + 1, 2, none⟩ (Value.int .i64 ybw)).setCell ⟨wr.heap.size + 1, 3, none⟩ (Value.slice a5 yn c5)).cell? ⟨wr.heap.size + 1, 2, none⟩ = some (Value.int .i64 ybw) := X6.out.cell 2
          have z3 : ((w5.setCell ⟨wr.heap.size + 1, 2, none⟩ (Value.int .i64 ybw)).setCell ⟨wr.heap.size + 1, 3, none⟩ (Value.slice a5 yn c5)).cell? ⟨wr.heap.size + 1, 3, none⟩ = some (Value.slice a5 yn c5) := X6.out.cell 3
          clear hn5 hb5 hadd X5 N5 B5 XB HC3
          go_wp2_with fail
          refine Calls.mono HADD.out ?_
          rintro e w7 ⟨rfl, hs7, hb7, hk7⟩
          have S7 := kide hs7
          have B7 := kide ((HB.out.trans (B6.out.mono HB.out.size)).trans hb7)
          have HLW6 : Hid (∀ x ∈ l, Nw w7 w.heap.size x.a x.ct.ws ∧ okY x.ct) := fun x hx => ⟨nw_ksb ((HLW.out x hx).1.later B6.out) hk7, (HLW.out x hx).2⟩
          have N7 := kide (nw_ksb N6.out hk7)
          have D7 := kide (HDJ.out.put (x := ⟨⟨yv, ylo, ybw, yws⟩, a5, c5⟩) HLW.out (fun p hp => Nat.le_trans HB3.out.size (nw_lt N6.out hp).1))
          clear hs7 hb7 hk7 HADD
          go_wp2_with fail
          go_roundw
          case rel =>
            refine ⟨k + 1, _, by omega, by go_num, S7.out, by rw [putG_ct', HST.out, HLC.out], fun x hx => ?_, D7.out, B7.out⟩
            unfold putG at hx
            split at hx
            · exact HLW6.out x hx
            · rcases List.mem_append.1 hx with hx | hx
              · exact HLW6.out x hx
              · simp at hx
                subst hx
                exact ⟨Nw.mono N7.out (Nat.le_trans HB.out.size HB3.out.size), HOK.out⟩
          case measure => simp [intOf]; omega
        · have hb2 : ((bn : Int) == 1) = false := by simp; omega
          have HST : Hid (mustR ((xs.map Pg.ct).take (k + 1)) = mustR ((xs.map Pg.ct).take k)) := by
            show _ = _
            rw [hst]
            unfold mstC
            simp only [if_true]
            match pbs, hbn with
            | [], _ => rfl
            | [y], h => simp at h; omega
            | _ :: _ :: _, _ => rfl
          clear hst hbn hlp PR hb1
          go_wp2_with fail
          go_roundw
          case rel => exact ⟨k + 1, l, by omega, by go_num, HO.out.later HBX.out, by rw [HST.out]; exact HLC.out, fun x hx => ⟨(HLW.out x hx).1.later HBX.out, (HLW.out x hx).2⟩, HDJ.out, B2.out⟩
          case measure => simp [intOf]; omega
      · have hs4 : (pst == 3) = false := by simp [hs3]
        have HST : Hid (mustR ((xs.map Pg.ct).take (k + 1)) = mustR ((xs.map Pg.ct).take k)) := by show _ = _; rw [hst]; simp [mstC, hs3]
        clear hst hbn hlp PR hs3
        go_wp2_with fail
        go_roundw
        case rel => exact ⟨k + 1, l, by omega, by go_num, HO.out.later HBX.out, by rw [HST.out]; exact HLC.out, fun x hx => ⟨(HLW.out x hx).1.later HBX.out, (HLW.out x hx).2⟩, HDJ.out, B2.out⟩
        case measure => simp [intOf]; omega
    · have e : k = n := by omega
      subst e
      rw [List.take_of_length_le (by rw [List.length_map, HN.out]; exact Nat.le_refl _)] at HLC
      obtain ⟨g3, v3, D3, o3, x3, -, -, -⟩ := ho
      have O3 := kide o3
      have X3 : Hid (Bz wr s #[v3, .map (some g3)] 62) := x3
      have ss0 : wr.cell? ⟨s, 0, none⟩ = some v3 := X3.out.cell 0
      clear o3 x3 hb
      go_wp2_with fail
      go_ret
      exact ⟨_, l, rfl, O3.out, HLC.out, HLW.out, HDJ.out, HB.out⟩

end Go.Proofs.Ytddgldfjeklhbaa
