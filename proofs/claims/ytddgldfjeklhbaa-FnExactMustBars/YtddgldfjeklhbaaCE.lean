/- What the given MustBars answers. -/
import Derived.Test.YtddgldfjeklhbaaCD
namespace Go.Proofs.Ytddgldfjeklhbaa
set_option linter.unusedVariables false
set_option linter.unusedSimpArgs false
open Go.RowKit Go.WideMaps Go.Maps

/-- The one bar of an open split that has one. -/
def mstC (p : Pc) : Option Yc := if p.st = 3 then (match p.bs with | [s] => some s | _ => none) else none
def mustR (ps : List Pc) : List Yc := (ps.filterMap mstC).foldl putY []
theorem mustR_step {ps : List Pc} {k : Nat} {p : Pc} (h : ps[k]? = some p) : mustR (ps.take (k + 1)) = (match mstC p with | some s => putY (mustR (ps.take k)) s | none => mustR (ps.take k)) := by
  rw [List.take_add_one, h]
  unfold mustR
  rw [List.filterMap_append, List.foldl_append]
  cases e : mstC p <;> simp [e]
theorem putY_len' (l : List Yc) (s : Yc) : (putY l s).length ≤ l.length + 1 := by
  unfold putY; split <;> simp
theorem foldY_len' (xs : List Yc) : ∀ l, (xs.foldl putY l).length ≤ l.length + xs.length := by
  induction xs with
  | nil => intro l; simp
  | cons x t ih =>
    intro l
    have h1 := ih (putY l x)
    have h2 := putY_len' l x
    simp only [List.foldl_cons, List.length_cons]
    omega
theorem mustR_len (ps : List Pc) : (mustR ps).length ≤ ps.length := by
  have h1 := foldY_len' (ps.filterMap mstC) []
  have h2 := List.length_filterMap_le mstC ps
  unfold mustR
  simp at h1
  omega

/-- The words of all bars lie somewhere. -/
def Lie (xs : List Pg) : Prop := ∀ p ∈ xs, ∀ y ∈ p.bs, ∃ b o, y.a = some ⟨b, o, none⟩

def RetB4 (w : World) (r : List Yc) (e : Ending) (w' : World) : Prop := ∃ v l, e = .returned v ∧ OB4 w' w.heap.size v l ∧ l.map Yg.ct = r ∧ (∀ x ∈ l, Nw w' w.heap.size x.a x.ct.ws ∧ okY x.ct) ∧ Below w.heap.size w w'

theorem empB (w : World) : OB4 (w.alloc (.cells #[] 54)) w.heap.size (.slice (some ⟨w.heap.size, 0, Option.none⟩) 0 0) [] := World.ownsRow_made w #[] 0 (Nat.le_refl _) (Nat.zero_le _) (by simp)
theorem okY_at' {w : World} {b o : Nat} {x : Yg} (h : YgAt w b o x) : okY x.ct := by
  obtain ⟨-, hr, h1, h2, h3⟩ := h
  exact ⟨h1, h2, h3, hr.2.1, hr.1⟩

set_option maxHeartbeats 2000000 in
set_option maxRecDepth 100000 in
theorem specMust_any (a : Option Addr) (c n : Nat) (xs : List Pg) (w : World) (hr : RdP w a xs) (hn : xs.length = n) (hlie : Lie xs) :
    Calls Try.prog 6 #[.slice a n c] w (RetB4 w (mustR (xs.map Pg.ct))) := by
  have hl := hr.1
  rw [hn] at hl
  have HR := kide hr
  have HN := kide hn
  have HL := kide hlie
  clear hr hn hlie
  go_enter Try.func6, Try.ntmps6
  go_wp2_with fail
  have O0 := kide (empB w)
  have B0 : Hid (Below w.heap.size w (w.alloc (.cells #[] 54))) := (Below.refl _ _).alloc (Nat.le_refl _) _
  generalize w.alloc (Obj.cells #[] 54) = W at *
  go_loopw [3, 4] (fun v q wr => ∃ (k : Nat) (l : List Yg), k ≤ n ∧ q = .int .i64 (k : Int) ∧ OB4 wr w.heap.size v l ∧ l.map Yg.ct = mustR ((xs.map Pg.ct).take k) ∧ (∀ x ∈ l, Nw wr w.heap.size x.a x.ct.ws ∧ okY x.ct) ∧ Below w.heap.size w wr) (fun _ q _ => n - (intOf q).toNat)
  case atStart => exact ⟨0, [], Nat.zero_le _, rfl, O0.out, rfl, by simp, B0.out⟩
  case round =>
    obtain ⟨k, l, hk, rfl, ho, hlc, hlw, hb⟩ := hrel
    obtain ⟨av, cv, rfl⟩ := ho.form
    have HO := kide ho
    have HLC := kide hlc
    have HLW := kide hlw
    have HB := kide hb
    have hll : l.length ≤ 1048576 := by have h9 := congrArg List.length hlc; have h8 := mustR_len ((xs.map Pg.ct).take k); rw [List.length_map] at h9; rw [List.length_take] at h8; omega
    clear O0 B0 hlc hlw
    by_cases hlt : k < n
    · have i0 : (k : Int) < (n : Int) := by omega
      obtain ⟨p, gp⟩ : ∃ p, xs[k]? = some p := ⟨xs[k]'(by rw [HN.out]; exact hlt), List.getElem?_eq_getElem _⟩
      have gc : (xs.map Pg.ct)[k]? = some p.ct := by simp [gp]
      have hst := mustR_step gc
      have hlp := HL.out p (List.mem_of_getElem? gp)
      obtain ⟨-, h | ⟨b, o, rfl, hc⟩⟩ := HR.out.later hb
      · rw [h] at gp; simp at gp
      obtain ⟨⟨p0, p1, p2⟩, pr, -⟩ := hc k p gp
      obtain ⟨-, h | ⟨b', o', e', hc'⟩⟩ := HR.out
      · rw [h] at gp; simp at gp
      cases e'
      obtain ⟨⟨P0, P1, P2⟩, PR, -⟩ := hc' k p gp
      have lb := block_lt_of_cell P0
      obtain ⟨pid, pst, pbs, pa, pc⟩ := p
      simp only [Pg.ct] at *
      obtain ⟨bn, hbn⟩ : ∃ bn, pbs.length = bn := ⟨_, rfl⟩
      rw [hbn] at p2 P2
      have HBN := kide hbn
      have hbl := PR.1
      clear hc hc' gp gc ho hb p0 P0
      by_cases hs3 : pst = 3
      · subst hs3
        by_cases hb1 : bn = 1
        · subst hb1
          obtain ⟨y, rfl⟩ : ∃ y, pbs = [y] := by
            match pbs, hbn with
            | [y], _ => exact ⟨y, rfl⟩
          obtain ⟨ya, hya⟩ : ∃ ya, ya = hlp y (by simp) := ⟨_, rfl⟩
          clear hya
          obtain ⟨-, h | ⟨bb, bo, rfl, hcb⟩⟩ := PR
          · cases h
          have hyat := hcb 0 y rfl
          have hoky := okY_at' hyat
          obtain ⟨⟨P3, P4, P5, P6⟩, PRy, -⟩ := hyat
          have lbb := block_lt_of_cell P3
          simp only [Nat.zero_mul, Nat.add_zero, Yg.hd] at P3 P4 P5 P6
          have p3 := (kcell HB.out bb bo lbb).trans P3
          have p4 := (kcell HB.out bb (bo + 1) lbb).trans P4
          have p5 := (kcell HB.out bb (bo + 2) lbb).trans P5
          have p6 := (kcell HB.out bb (bo + 3) lbb).trans P6
          have HST : Hid (mustR ((xs.map Pg.ct).take (k + 1)) = putY (mustR ((xs.map Pg.ct).take k)) y.ct) := by show _ = _; rw [hst]; simp [mstC]
          have HPUT := kide (fun u (hu : Below w.heap.size w u) (hov : OB4 u w.heap.size (.slice av l.length cv) l) (hlw : ∀ x ∈ l, Nw u w.heap.size x.a x.ct.ws ∧ okY x.ct) => l9PutG w.heap.size (.slice av l.length cv) l y u hov hlw (PRy.later hu) hoky ya hll hu.size)
          have HYA := kide ya
          obtain ⟨⟨yv, ylo, ybw, yws⟩, ya', yc⟩ := y
          simp only [Yg.val] at *
          generalize yws.length = yn at *
          clear hst hcb hbn PRy ya hoky hlp pr
          go_wp2_with fail
          refine Calls.mono (HPUT.out wr HB.out HO.out HLW.out) ?_
          rintro e w5 ⟨v5, l5, rfl, ho5, hl5, hw5, hb5, -⟩
          have O5 := kide ho5
          have L5 := kide hl5
          have W5 := kide hw5
          have B5 := kide (HB.out.trans hb5)
          clear ho5 hl5 hw5 hb5
          go_wp2_with fail
          go_roundw
          case rel => exact ⟨k + 1, l5, by omega, by go_num, O5.out, by rw [L5.out, HST.out, HLC.out], W5.out, B5.out⟩
          case measure => simp [intOf]; omega
        · have hb2 : ((bn : Int) == 1) = false := by simp; omega
          have HST : Hid (mustR ((xs.map Pg.ct).take (k + 1)) = mustR ((xs.map Pg.ct).take k)) := by
            show _ = _
            rw [hst]
            unfold mstC
            simp only [if_true]
            match pbs, hbn with
            | [], _ => rfl
            | [y], h => simp at h; omega
            | _ :: _ :: _, _ => rfl
          clear hst hbn hlp pr hb1
          go_wp2_with fail
          go_roundw
          case rel => exact ⟨k + 1, l, by omega, by go_num, HO.out, by rw [HST.out]; exact HLC.out, HLW.out, HB.out⟩
          case measure => simp [intOf]; omega
      · have hs4 : (pst == 3) = false := by simp [hs3]
        have HST : Hid (mustR ((xs.map Pg.ct).take (k + 1)) = mustR ((xs.map Pg.ct).take k)) := by show _ = _; rw [hst]; simp [mstC, hs3]
        clear hst hbn hlp pr hs3
        go_wp2_with fail
        go_roundw
        case rel => exact ⟨k + 1, l, by omega, by go_num, HO.out, by rw [HST.out]; exact HLC.out, HLW.out, HB.out⟩
        case measure => simp [intOf]; omega
    · have e : k = n := by omega
      subst e
      rw [List.take_of_length_le (by rw [List.length_map, HN.out]; exact Nat.le_refl _)] at HLC
      clear ho hb
      go_wp2_with fail
      go_ret
      exact ⟨_, l, rfl, HO.out, HLC.out, HLW.out, HB.out⟩

end Go.Proofs.Ytddgldfjeklhbaa
