/- Right forms as plain lists of segments; and what the program says of one segment. -/
import Derived.Test.YtpmpipcpifmncaaMC
import Derived.Test.YtpmpipcpifmncaaKD
import Derived.Test.YtpmpipcpifmncaaKF
import Derived.Deep.RegionWith
namespace Go.Proofs.Ytpmpipcpifmncaa
set_option linter.unusedVariables false
set_option linter.unusedSimpArgs false
open Go.RowKit

/-- Is a segment right for the variables? -/
def sgOk (ds : List Dc) (s : Sc) : Bool :=
  if s.v = -1 then decide (s.lo = 0) && decide (s.wd = s.bw) && rightB s.bw s.ws
  else decide (0 ≤ s.v) && decide (s.v < ds.length) && decide (s.bw = 0) && decide (s.ws.length = 0) && decide (1 ≤ s.wd) && decide (0 ≤ s.lo) && decide (s.lo + s.wd ≤ (ds.getD s.v.toNat (.empty, 0)).2)

/-- Could two neighbours be one? -/
def oneB (s t : Sc) : Bool := decide (s.v = t.v) && (decide (s.v = -1) || decide (s.lo + s.wd = t.lo))

def flL (ds : List Dc) : Option Sc → List Sc → Bool
  | _, [] => true
  | none, s :: t => sgOk ds s && flL ds (some s) t
  | some q, s :: t => sgOk ds s && !oneB q s && flL ds (some s) t

def sumS : List Sc → Int
  | [] => 0
  | s :: t => s.wd + sumS t

/-- Is a form right? -/
def flatR (ds : List Dc) (fs : List Sc) : Bool := dclR ds && decide (1 ≤ fs.length) && decide (fs.length ≤ 2000) && flL ds none fs && decide (sumS fs ≤ 4096)

theorem rightB_wd {W : Int} {xs : List Nat} (h : rightB W xs = true) : 1 ≤ W ∧ W ≤ 4096 := by
  simp [rightB, wOk] at h
  exact h.1.1

theorem dclR_wd {ds : List Dc} (h : dclR ds = true) {k : Nat} {d : Dc} (hd : ds[k]? = some d) : 1 ≤ d.2 ∧ d.2 ≤ 4096 := (dcOk_iff.1 ((dclR_iff.1 h).2.1 d (List.mem_of_getElem? hd))).2

theorem sgOk_bounds {ds : List Dc} {s : Sc} (hd : dclR ds = true) (h : sgOk ds s = true) : 1 ≤ s.wd ∧ s.wd ≤ 4096 ∧ 0 ≤ s.lo ∧ s.lo ≤ 4096 := by
  unfold sgOk at h
  split at h
  · simp at h
    have := rightB_wd h.2
    omega
  · simp at h
    obtain ⟨⟨⟨⟨⟨⟨h1, h2⟩, h3⟩, h4⟩, h5⟩, h6⟩, h7⟩ := h
    have hl : s.v.toNat < ds.length := by omega
    have := dclR_wd hd (List.getElem?_eq_getElem hl)
    rw [List.getElem?_eq_getElem hl, Option.getD_some] at h7
    omega

theorem sgOk_const {ds : List Dc} {s : Sc} (h : s.v = -1) : sgOk ds s = (decide (s.lo = 0) && decide (s.wd = s.bw) && rightB s.bw s.ws) := by rw [sgOk, if_pos h]
theorem sgOk_out {ds : List Dc} {s : Sc} (h : s.v ≠ -1) (h2 : s.v < 0 ∨ (ds.length : Int) ≤ s.v ∨ s.bw ≠ 0 ∨ s.ws.length ≠ 0) : sgOk ds s = false := by
  rw [sgOk, if_neg h, Bool.eq_false_iff]
  intro h'
  simp at h'
  have h8 := h'.1.1.1.2
  rcases h2 with h2 | h2 | h2 | h2
  · omega
  · omega
  · exact h2 h'.1.1.1.1.2
  · simp [h8] at h2
theorem sgOk_in {ds : List Dc} {s : Sc} {k : Nat} {d : Dc} (hv : s.v = (k : Int)) (hd : ds[k]? = some d) (hb : s.bw = 0) (hw : s.ws.length = 0) : sgOk ds s = (decide (1 ≤ s.wd) && decide (0 ≤ s.lo) && decide (s.lo + s.wd ≤ d.2)) := by
  have hl := (List.getElem?_eq_some_iff.1 hd).1
  rw [sgOk, if_neg (by omega), hv, Int.toNat_natCast]
  have h1 : decide ((0 : Int) ≤ (k : Int)) = true := decide_eq_true (by omega)
  have h2 : decide ((k : Int) < (ds.length : Int)) = true := decide_eq_true (by omega)
  have e : ds.getD k (.empty, 0) = d := by simp [List.getD, hd]
  rw [h1, h2, hb, hw, e]
  simp

set_option maxHeartbeats 1000000 in
theorem segOk_any (s : Sc) (a da : Option Addr) (c dc : Nat) (ds : List Dc) (w : World) (hr : Rd w a s.ws) (hd : RdD w da ds) (hD : dclR ds = true) :
    Calls Try.prog 75 #[.slice da ds.length dc, .agg #[.int .i64 s.v, .int .i64 s.lo, .int .i64 s.wd, .int .i64 s.bw, .slice a s.ws.length c]] w fun e w' => e = .returned (.bool (sgOk ds s)) ∧ Below w.heap.size w w' := by
  have hb0 : Below w.heap.size w (w.alloc (Obj.cells #[Value.int .i64 s.v, Value.int .i64 s.lo, Value.int .i64 s.wd, Value.int .i64 s.bw, Value.slice a s.ws.length c] 80)) := (Below.refl _ _).alloc (Nat.le_refl _) _
  have hl1 := hd.1
  have hl2 := hr.1
  by_cases hv : s.v = -1
  · rw [sgOk_const hv]
    have HOK := kide (fun u (hu : Below w.heap.size w u) => implOk_any s.bw a c s.ws u (hr.later hu))
    obtain ⟨v, lo, wd, bw, ws⟩ := s
    simp only [] at hv hb0 HOK hl2 ⊢
    subst hv
    have B0 := kide hb0
    clear hr hd hb0
    by_cases h1 : lo = 0
    · subst h1
      by_cases h2 : wd = bw
      · subst h2
        have hww : (wd == wd) = true := by simp
        go_enter Try.func75, Try.ntmps75
        go_wp2_with fail
        refine Calls.mono (HOK.out _ B0.out) ?_
        rintro e w1 ⟨rfl, hb1⟩
        go_wp2_with fail
        go_ret
        exact ⟨ret_bool (by simp), B0.out.trans (hb1.mono (by simp))⟩
      · have hww : (wd == bw) = false := by simp [h2]
        have hR : (decide ((0 : Int) = 0) && decide (wd = bw) && rightB bw ws) = false := by simp [h2]
        rw [hR]
        clear hR h2
        go_enter Try.func75, Try.ntmps75
        go_wp2_with fail
        go_ret
        exact ⟨rfl, B0.out⟩
    · have hww : (lo == 0) = false := by simp [h1]
      have hR : (decide (lo = 0) && decide (wd = bw) && rightB bw ws) = false := by simp [h1]
      rw [hR]
      clear hR h1
      go_enter Try.func75, Try.ntmps75
      go_wp2_with fail
      go_ret
      exact ⟨rfl, B0.out⟩
  · by_cases hout : s.v < 0 ∨ (ds.length : Int) ≤ s.v ∨ s.bw ≠ 0 ∨ s.ws.length ≠ 0
    · rw [sgOk_out hv hout]
      obtain ⟨v, lo, wd, bw, ws⟩ := s
      simp only [] at hv hb0 hout hl2 ⊢
      have B0 := kide hb0
      have hvv : (v == -1) = false := by simp [hv]
      clear hr hd hb0 hv
      by_cases h1 : v < 0
      · clear hout
        go_enter Try.func75, Try.ntmps75
        go_wp2_with fail
        go_ret
        exact ⟨rfl, B0.out⟩
      by_cases h2 : (ds.length : Int) ≤ v
      · clear hout
        go_enter Try.func75, Try.ntmps75
        go_wp2_with fail
        go_ret
        exact ⟨rfl, B0.out⟩
      by_cases h3 : bw = 0
      · have h4 : ws.length ≠ 0 := by
          rcases hout with h | h | h | h
          · exact absurd h h1
          · exact absurd h h2
          · exact absurd h3 h
          · exact h
        subst h3
        have h5 : ((ws.length : Int) != 0) = true := by simp; intro h; subst h; simp at h4
        clear hout
        go_enter Try.func75, Try.ntmps75
        go_wp2_with fail
        go_ret
        exact ⟨rfl, B0.out⟩
      · have h5 : (bw != 0) = true := by simp [h3]
        clear hout
        go_enter Try.func75, Try.ntmps75
        go_wp2_with fail
        go_ret
        exact ⟨rfl, B0.out⟩
    · obtain ⟨k, hk⟩ : ∃ k : Nat, s.v = (k : Int) := ⟨s.v.toNat, by omega⟩
      have hkl : k < ds.length := by omega
      obtain ⟨⟨t, y⟩, gd⟩ : ∃ d, ds[k]? = some d := ⟨ds[k], List.getElem?_eq_getElem hkl⟩
      have hbw : s.bw = 0 := Decidable.byContradiction fun h => hout (.inr (.inr (.inl h)))
      have hws : s.ws.length = 0 := Decidable.byContradiction fun h => hout (.inr (.inr (.inr h)))
      rw [sgOk_in hk gd hbw hws]
      obtain ⟨hy1, hy2⟩ := dclR_wd hD gd
      obtain ⟨-, -, h | ⟨b1, o1, rfl, hc1⟩⟩ := hd
      · subst h; simp at hkl
      obtain ⟨-, q1⟩ := hc1 k _ gd
      have lb1 : b1 < w.heap.size := block_lt_of_cell q1
      obtain ⟨v, lo, wd, bw, ws⟩ := s
      simp only [] at hv hb0 hout hl2 hk hbw hws hy1 hy2 q1 ⊢
      subst hk
      subst hbw
      have hwl := List.eq_nil_of_length_eq_zero hws
      subst hwl
      have B0 := kide hb0
      have hvv : ((k : Int) == -1) = false := by simp
      have hki : (k : Int) < (ds.length : Int) := by omega
      clear hr hb0 hv hout hc1 gd hD hws
      by_cases h1 : 1 ≤ wd
      · by_cases h2 : wd ≤ y
        · by_cases h3 : 0 ≤ lo
          · by_cases h4 : lo ≤ y - wd
            · have hR : (decide (1 ≤ wd) && decide (0 ≤ lo) && decide (lo + wd ≤ y)) = true := by simp; omega
              rw [hR]
              clear hR
              go_enter Try.func75, Try.ntmps75
              go_wp2_with fail
              go_ret
              first | exact ⟨rfl, B0.out⟩ | exact ⟨ret_bool (by simp; omega), B0.out⟩
            · have hR : (decide (1 ≤ wd) && decide (0 ≤ lo) && decide (lo + wd ≤ y)) = false := by simp; omega
              rw [hR]
              clear hR
              go_enter Try.func75, Try.ntmps75
              go_wp2_with fail
              go_ret
              first | exact ⟨rfl, B0.out⟩ | exact ⟨ret_bool (by simp; omega), B0.out⟩
          · have hR : (decide (1 ≤ wd) && decide (0 ≤ lo) && decide (lo + wd ≤ y)) = false := by simp; omega
            rw [hR]
            clear hR
            go_enter Try.func75, Try.ntmps75
            go_wp2_with fail
            go_ret
            first | exact ⟨rfl, B0.out⟩ | exact ⟨ret_bool (by simp; omega), B0.out⟩
        · by_cases h3 : 0 ≤ lo
          · have hR : (decide (1 ≤ wd) && decide (0 ≤ lo) && decide (lo + wd ≤ y)) = false := by simp; omega
            rw [hR]
            clear hR
            go_enter Try.func75, Try.ntmps75
            go_wp2_with fail
            go_ret
            first | exact ⟨rfl, B0.out⟩ | exact ⟨ret_bool (by simp; omega), B0.out⟩
          · have hR : (decide (1 ≤ wd) && decide (0 ≤ lo) && decide (lo + wd ≤ y)) = false := by simp; omega
            rw [hR]
            clear hR
            go_enter Try.func75, Try.ntmps75
            go_wp2_with fail
            go_ret
            first | exact ⟨rfl, B0.out⟩ | exact ⟨ret_bool (by simp; omega), B0.out⟩
      · have hR : (decide (1 ≤ wd) && decide (0 ≤ lo) && decide (lo + wd ≤ y)) = false := by simp; omega
        rw [hR]
        clear hR
        go_enter Try.func75, Try.ntmps75
        go_wp2_with fail
        go_ret
        first | exact ⟨rfl, B0.out⟩ | exact ⟨ret_bool (by simp; omega), B0.out⟩

end Go.Proofs.Ytpmpipcpifmncaa
