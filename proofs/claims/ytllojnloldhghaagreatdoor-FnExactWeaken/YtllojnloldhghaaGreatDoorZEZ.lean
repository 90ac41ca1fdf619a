/- Several texts in one. -/
import Derived.Test.YtllojnloldhghaaGreatDoorZES
import Derived.Test.YtllojnloldhghaaGreatDoorZES
import Derived.Test.YtllojnloldhghaaGreatDoorZIA

/- Does a literal hold by values? The program's holdsBy. -/
namespace Go.Proofs.YtllojnloldhghaaGreatDoor
set_option linter.unusedVariables false
set_option linter.unusedSimpArgs false
open Go.RowKit

/-- Does a literal hold by values? -/
def hldR (vs : List Wd) (l : Lc) : Bool := decide (evalR vs l.ss = evalR vs l.ts) == l.eq

theorem sameB_ok {x y : Wd} (hx : okW x) (hy : okW y) : sameB x.1 x.2 y.1 y.2 = decide (x = y) := by
  unfold sameB
  rw [hx.1, hy.1]
  obtain ⟨a, b⟩ := x
  obtain ⟨c, d⟩ := y
  simp only [Bool.true_and, Prod.mk.injEq]
  by_cases h1 : a = c <;> by_cases h2 : b = d <;> simp [h1, h2]

set_option maxHeartbeats 2000000 in
set_option maxRecDepth 100000 in
theorem holdsBy_any (va : Option Addr) (vc : Nat) (ds : List Dc) (vs : List Bw) (x : Lg) (w : World) (hv : RdW w va vs) (hs : RdT w x.sa x.ss) (ht : RdT w x.ta x.ts) (hV : valR ds (vs.map Bw.ct) = true) (hS : ¬ (widthsR ds (x.ss.map Tg.ct)).length = 0) (hT : ¬ (widthsR ds (x.ts.map Tg.ct)).length = 0) :
    Calls Tryz.prog 46 #[.slice va vs.length vc, x.val] w fun e w' => e = .returned (.bool (hldR (vs.map Bw.ct) x.ct)) ∧ Below w.heap.size w w' := by
  have HES := kide (fun u (hu : Below w.heap.size w u) => evalTerm_any va x.sa vc x.sc x.ss.length ds vs x.ss u (hv.later hu) (hs.later hu) rfl hS hV)
  have HET := kide (fun u (hu : Below w.heap.size w u) => evalTerm_any va x.ta vc x.tc x.ts.length ds vs x.ts u (hv.later hu) (ht.later hu) rfl hT hV)
  have hoS := eval_ok hS hV hv.words hs.words
  have hoT := eval_ok hT hV hv.words ht.words
  have hlS := right_W hoS.1
  have hlT := right_W hoT.1
  have HQ : Hid (hldR (vs.map Bw.ct) x.ct = (sameB (evalR (vs.map Bw.ct) (x.ss.map Tg.ct)).1 (evalR (vs.map Bw.ct) (x.ss.map Tg.ct)).2 (evalR (vs.map Bw.ct) (x.ts.map Tg.ct)).1 (evalR (vs.map Bw.ct) (x.ts.map Tg.ct)).2 == x.eq)) := by
    show _ = _
    rw [sameB_ok hoS hoT]
    rfl
  rw [HQ.out]
  generalize evalR (vs.map Bw.ct) (x.ss.map Tg.ct) = XS at *
  generalize evalR (vs.map Bw.ct) (x.ts.map Tg.ct) = XT at *
  obtain ⟨id, q, ss, sa, sc, ts, ta, tc⟩ := x
  simp only [Lg.val] at *
  generalize ss.length = sn at *
  generalize ts.length = tn at *
  have HOS := kide hoS
  have HOT := kide hoT
  have s0 := St.start w (.cells #[.int .i64 id, .bool q, .slice sa sn sc, .slice ta tn tc] 78)
  clear hv hs ht hV hS hT hoS hoT HQ
  go_enter Tryz.func46, Tryz.ntmps46
  go_wp2_with fail
  have c2 : (w.alloc (Obj.cells #[Value.int .i64 id, Value.bool q, Value.slice sa sn sc, Value.slice ta tn tc] 78)).cell? ⟨w.heap.size, 2, none⟩ = some (.slice sa sn sc) := s0.cell 2
  have c3 : (w.alloc (Obj.cells #[Value.int .i64 id, Value.bool q, Value.slice sa sn sc, Value.slice ta tn tc] 78)).cell? ⟨w.heap.size, 3, none⟩ = some (.slice ta tn tc) := s0.cell 3
  generalize w.alloc (Obj.cells #[Value.int .i64 id, Value.bool q, Value.slice sa sn sc, Value.slice ta tn tc] 78) = w0 at *
  go_region_held3 (fun z => z.cell? ⟨w.heap.size, 2, none⟩ = some (.slice sa sn sc) ∧ z.cell? ⟨w.heap.size, 3, none⟩ = some (.slice ta tn tc)) (simp [*])
    (first
      | (go_at_call 80; refine Calls.mono (HET.out w1 s1.below) ?_; rintro e w2 ⟨a2, k2, rfl, hn2, hb2⟩; have s2 := s1.next hb2; have u2 := s2.cell 2; have u3 := s2.cell 3; simp at u2 u3; have R2 := kide (R1.out.later hb2); have T2 := kide (hn2.rd (by omega) HOT.out.2))
      | (go_at_call 80; refine Calls.mono (HES.out _ ?_) ?_; exact s0.below.drew; rintro e w1 ⟨a1, k1, rfl, hn1, hb1⟩; replace hb1 := kundrew hb1; have s1 := St.next (wk := w0) s0 hb1; have d2 := s1.cell 2; have d3 := s1.cell 3; simp at d2 d3; have R1 := kide (hn1.rd (by omega) HOS.out.2))
      | (go_at_call 79; refine Calls.mono (implSame_any _ _ _ _ _ _ _ _ _ R2.out T2.out) ?_; rintro e w3 ⟨k3, rfl, hk3, hb3⟩; have s3 := s2.next hb3; have v2 := s3.cell 2; have v3 := s3.cell 3; have v1 := s3.cell 1; simp at v1 v2 v3))
  go_wp2_with fail
  go_ret
  exact ⟨rfl, s3.below⟩

end Go.Proofs.YtllojnloldhghaaGreatDoor

/- The first literal that does not hold: plain facts, and the program's FirstFails. -/
namespace Go.Proofs.YtllojnloldhghaaGreatDoor
set_option linter.unusedVariables false
set_option linter.unusedSimpArgs false
open Go.RowKit

def holR (ds : List Dc) (vs : List Wd) (l : Lc) : Bool × Bool := if valR ds vs = true ∧ litR ds [l] = true then (hldR vs l, true) else (false, false)

theorem side_widths {ds : List Dc} {l : Lc} (h : sideR ds l = true) : ¬ (widthsR ds l.ss).length = 0 ∧ ¬ (widthsR ds l.ts).length = 0 := by
  simp only [sideR, Bool.and_eq_true, decide_eq_true_eq] at h
  constructor
  · intro h0
    have : widR ds l.ss = -1 := by unfold widR; rw [if_pos h0]
    omega
  · intro h0
    have : widR ds l.ts = -1 := by unfold widR; rw [if_pos h0]
    omega

theorem goL_each {ds : List Dc} : ∀ (ls : List Lc) (last : Int), 0 ≤ last → goL ds last ls = true → ∀ l ∈ ls, sideR ds l = true ∧ 0 < l.id ∧ l.id ≤ 1000000
  | [], _, _, _ => by simp
  | m :: t, last, h0, h => by
    simp only [goL, Bool.and_eq_true, decide_eq_true_eq] at h
    obtain ⟨⟨⟨h1, h2⟩, h3⟩, h4⟩ := h
    intro l hl
    rcases List.mem_cons.1 hl with rfl | hl
    · exact ⟨h3, by omega, h2⟩
    · exact goL_each t m.id (by omega) h4 l hl

/-- Each literal of right ones is right alone. -/
theorem lit_each {ds : List Dc} {ls : List Lc} (h : litR ds ls = true) : ∀ l ∈ ls, sideR ds l = true ∧ litR ds [l] = true := fun l hl => by
  simp only [litR, Bool.and_eq_true, decide_eq_true_eq] at h
  obtain ⟨⟨h1, h2⟩, h3⟩ := h
  obtain ⟨a, b, c⟩ := goL_each ls 0 (Int.le_refl _) h3 l hl
  refine ⟨a, ?_⟩
  simp [litR, h1, goL, a, b, c]

theorem RdL.at {w : World} {a : Option Addr} {xs : List Lg} (h : RdL w a xs) {k : Nat} {x : Lg} (hx : xs[k]? = some x) : ∃ b o, a = some ⟨b, o, none⟩ ∧ LgAt w b (o + k * 4) x := by
  obtain ⟨-, h | ⟨b, o, e, hc⟩⟩ := h
  · rw [h] at hx; simp at hx
  · exact ⟨b, o, e, hc k x hx⟩

end Go.Proofs.YtllojnloldhghaaGreatDoor
