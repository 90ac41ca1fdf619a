/- Several texts in one. -/
import Derived.Test.YtheglnkndjheaaaGreatDoorZQT
import Derived.Test.YtheglnkndjheaaaGreatDoorZIA
import Derived.Handy

/- The program's sidesOk. -/
namespace Go.Proofs.YtheglnkndjheaaaGreatDoor
set_option linter.unusedVariables false
set_option linter.unusedSimpArgs false
open Go.RowKit

/-- Are both sides of a literal right and of one width? -/
def sideR (ds : List Dc) (l : Lc) : Bool := decide (0 ≤ widR ds l.ss) && decide (widR ds l.ts = widR ds l.ss)

/-- Rising numbers, right sides. -/
def goL (ds : List Dc) : Int → List Lc → Bool
  | _, [] => true
  | last, l :: t => decide (last < l.id ∧ l.id ≤ 1000000) && sideR ds l && goL ds l.id t

def litR (ds : List Dc) (ls : List Lc) : Bool := dclR ds && decide (ls.length ≤ 60) && goL ds 0 ls

theorem goL_step {ds : List Dc} {last : Int} {ls : List Lc} {k : Nat} {l : Lc} (h : ls[k]? = some l) : goL ds last (ls.drop k) = (decide (last < l.id ∧ l.id ≤ 1000000) && sideR ds l && goL ds l.id (ls.drop (k + 1))) := by
  obtain ⟨hk, rfl⟩ := List.getElem?_eq_some_iff.1 h
  rw [List.drop_eq_getElem_cons hk, goL]

/-- The last width of a row of widths; -1: there is none. -/
def lastR (R : List Int) : Int := if R.length = 0 then -1 else R.getD (R.length - 1) 0
theorem widR_last (ds : List Dc) (ns : List Tc) : widR ds ns = lastR (widthsR ds ns) := rfl
theorem lastR_pos {R : List Int} (h : ∀ x ∈ R, 1 ≤ x ∧ x ≤ 4096) (h0 : R.length ≠ 0) : 1 ≤ lastR R := by
  unfold lastR
  rw [if_neg h0]
  have hl : R.length - 1 < R.length := by omega
  have := h _ (List.getElem_mem hl)
  simp [List.getD, hl]
  omega

def sideL (R T : List Int) : Bool := decide (0 ≤ lastR R) && decide (lastR T = lastR R)

set_option maxHeartbeats 1000000 in
set_option maxRecDepth 100000 in
theorem sidesOk_any (a : Option Addr) (c : Nat) (ds : List Dc) (id : Int) (q : Bool) (sa ta : Option Addr) (n sc m tc : Nat) (xs ys : List Tg) (w : World) (hr : RdD w a ds) (h1 : RdT w sa xs) (h2 : RdT w ta ys) (l1 : xs.length = n) (l2 : ys.length = m) (hG : GF w) (hD : dclR ds = true) :
    Calls Tryz.prog 55 #[.slice a ds.length c, .agg #[.int .i64 id, .bool q, .slice sa n sc, .slice ta m tc]] w fun e w' => e = .returned (.bool (sideR ds ⟨id, q, xs.map Tg.ct, ys.map Tg.ct⟩)) ∧ Below w.heap.size w w' := by
  have H1 := kide (fun u (hu : Below w.heap.size w u) => widthsOf_any a sa c sc n ds xs u (hr.later hu) (h1.later hu) l1 (hG.later hu) hD)
  have H2 := kide (fun u (hu : Below w.heap.size w u) => widthsOf_any a ta c tc m ds ys u (hr.later hu) (h2.later hu) l2 (hG.later hu) hD)
  have b1 := widthsR_bounds ds (xs.map Tg.ct)
  have b2 := widthsR_bounds ds (ys.map Tg.ct)
  rw [show sideR ds ⟨id, q, xs.map Tg.ct, ys.map Tg.ct⟩ = sideL (widthsR ds (xs.map Tg.ct)) (widthsR ds (ys.map Tg.ct)) from rfl]
  generalize widthsR ds (xs.map Tg.ct) = R at *
  generalize widthsR ds (ys.map Tg.ct) = T at *
  obtain ⟨b1, b1'⟩ := b1
  obtain ⟨b2, b2'⟩ := b2
  have s0 := St.start w (.cells #[Value.int .i64 id, Value.bool q, Value.slice sa n sc, Value.slice ta m tc] 62)
  have HB1 := kide b1'
  have HB2 := kide b2'
  clear hr h1 h2 l1 l2 hG hD b1' b2'
  generalize hZ : sideL R T = Z
  have HZ := kide hZ
  clear hZ
  go_enter Tryz.func55, Tryz.ntmps55
  go_wp2_with fail
  have t2 := s0.cell 2
  have t3 := s0.cell 3
  simp only [List.getElem?_toArray, List.getElem?_cons_succ, List.getElem?_cons_zero] at t2 t3
  generalize w.alloc (Obj.cells #[Value.int .i64 id, Value.bool q, Value.slice sa n sc, Value.slice ta m tc] 62) = W at *
  have S0 := kide s0.below
  go_region_held3 (fun u => u.cell? ⟨w.heap.size, 2, none⟩ = some (Value.slice sa n sc) ∧ u.cell? ⟨w.heap.size, 3, none⟩ = some (Value.slice ta m tc)) (simp [*])
    (first
      | (go_at_call 73; refine Calls.mono (H2.out w1 S1.out) ?_; rintro e w2 ⟨aT, cT, rfl, rT, nT, hb2⟩; have s2 := s1.next hb2; have j2 := (kcell hb2 w.heap.size 2 s1.size).trans k2; have j3 := (kcell hb2 w.heap.size 3 s1.size).trans k3; have RR2 := kide (RR.out.later hb2); have RT := kide rT; have NT := kide nT; clear rT nT hb2)
      | (go_at_call 73; refine Calls.mono (H1.out _ ?_) ?_; exact S0.out.drew; rintro e w1 ⟨aR, cR, rfl, rR, nR, hb1⟩; replace hb1 := kundrew hb1; have s1 := St.next (wk := W) s0 hb1; have k2 := (kcell hb1 w.heap.size 2 s0.size).trans t2; have k3 := (kcell hb1 w.heap.size 3 s0.size).trans t3; have RR := kide rR; have NR := kide nR; have S1 := kide s1.below; clear rR nR hb1))
  clear s0 s1 t2 t3 k2 k3 j2 j3
  have hneq := fun (w : World) (a : Option Addr) (n c : Nat) => run_neq_slice_nil_any (P := Tryz.prog) w 40 2 a n c 0 0 Tryz.underlying40
  by_cases hR0 : R = []
  · have e := NR.out hR0
    subst hR0
    subst e
    have HF : Hid (Z = false) := by show _ = _; rw [← HZ.out]; simp [sideL, lastR]
    go_wp2_with fail
    go_quiet (fail)
    go_wp2_with fail
    go_ret
    exact ⟨ret_bool HF.out.symm, below_drewN s2.below _⟩
  · obtain ⟨-, -, h | ⟨b3, o3, rfl, hc3⟩⟩ := RR2.out
    · exact absurd h hR0
    by_cases hT0 : T = []
    · have e := NT.out hT0
      subst hT0
      subst e
      have HF : Hid (Z = false) := by
        show _ = _
        rw [← HZ.out]
        have := lastR_pos HB1.out (fun h => hR0 (List.eq_nil_of_length_eq_zero h))
        have e0 : lastR [] = -1 := rfl
        show (decide (0 ≤ lastR R) && decide (lastR [] = lastR R)) = false
        rw [e0, decide_eq_false (by omega : ¬ (-1 = lastR R)), Bool.and_false]
      clear hc3 hR0
      go_wp2_with fail
      go_quiet (fail)
      go_wp2_with fail
      go_ret
      exact ⟨ret_bool HF.out.symm, below_drewN s2.below _⟩
    · obtain ⟨-, -, h | ⟨b4, o4, rfl, hc4⟩⟩ := RT.out
      · exact absurd h hT0
      have r0 : R.length ≠ 0 := fun h => hR0 (List.eq_nil_of_length_eq_zero h)
      have r1 : T.length ≠ 0 := fun h => hT0 (List.eq_nil_of_length_eq_zero h)
      obtain ⟨k, hk⟩ : ∃ k, R.length = k + 1 := ⟨R.length - 1, by omega⟩
      obtain ⟨j, hj⟩ : ∃ j, T.length = j + 1 := ⟨T.length - 1, by omega⟩
      have c3 := hc3 k (by omega)
      have c4 := hc4 j (by omega)
      have hp1 := lastR_pos HB1.out r0
      have hlR : lastR R = R.getD k 0 := by rw [lastR, if_neg r0, hk]; rfl
      have hlT : lastR T = T.getD j 0 := by rw [lastR, if_neg r1, hj]; rfl
      have hz : Z = decide (T.getD j 0 = R.getD k 0) := by
        rw [← HZ.out, sideL, decide_eq_true (by omega : 0 ≤ lastR R), Bool.true_and, hlR, hlT]
      have hkk : ((k + 1 : Nat) : Int) - 1 = (k : Int) := by omega
      have hjj : ((j + 1 : Nat) : Int) - 1 = (j : Int) := by omega
      have hki : (k : Int) < ((k + 1 : Nat) : Int) := by omega
      have hji : (j : Int) < ((j + 1 : Nat) : Int) := by omega
      rw [hk] at b1 ⊢
      rw [hj] at b2 ⊢
      obtain ⟨x, hx⟩ : ∃ x, R.getD k 0 = x := ⟨_, rfl⟩
      obtain ⟨y, hy⟩ : ∃ y, T.getD j 0 = y := ⟨_, rfl⟩
      rw [hx] at c3 hz
      rw [hy] at c4 hz
      have HZ3 := kide hz
      clear hc3 hc4 hR0 hT0 r0 r1 hk hj hlR hlT hp1 hx hy hz
      obtain ⟨E, hE⟩ : ∃ E : Bool, (x == y) = E := ⟨_, rfl⟩
      have HZ4 : Hid (E = Z) := by
        show _ = _
        rw [HZ3.out, ← hE]
        by_cases h : x = y
        · simp [h]
        · simp [h, Ne.symm h]
      clear HZ3
      cases E
      all_goals
        go_wp2_with fail
        go_quiet (fail)
        go_wp2_with fail
        go_ret
        exact ⟨ret_bool HZ4.out, below_drewN s2.below _⟩

end Go.Proofs.YtheglnkndjheaaaGreatDoor

/- Numbers that rise, apart from sides that are right; what the program's idsOk answers. -/
namespace Go.Proofs.YtheglnkndjheaaaGreatDoor
set_option linter.unusedVariables false
set_option linter.unusedSimpArgs false
open Go.RowKit

/-- Numbers that rise, above a last one. -/
def idR : Int → List Lc → Bool
  | _, [] => true
  | last, l :: t => decide (last < l.id ∧ l.id ≤ 1000000) && idR l.id t

def idsR (ls : List Lc) : Bool := decide (ls.length ≤ 60) && idR 0 ls

theorem goL_eq (ds : List Dc) (last : Int) (ls : List Lc) : goL ds last ls = (idR last ls && ls.all (sideR ds)) := by
  induction ls generalizing last with
  | nil => rfl
  | cons l t ih =>
    rw [goL, idR, List.all_cons, ih]
    cases decide (last < l.id ∧ l.id ≤ 1000000) <;> cases sideR ds l <;> cases idR l.id t <;> simp

theorem litR_eq (ds : List Dc) (ls : List Lc) : litR ds ls = (dclR ds && idsR ls && ls.all (sideR ds)) := by
  unfold litR idsR
  rw [goL_eq]
  cases dclR ds <;> cases decide (ls.length ≤ 60) <;> simp

theorem idR_step {last : Int} {ls : List Lc} {k : Nat} {l : Lc} (h : ls[k]? = some l) : idR last (ls.drop k) = (decide (last < l.id ∧ l.id ≤ 1000000) && idR l.id (ls.drop (k + 1))) := by
  obtain ⟨hk, rfl⟩ := List.getElem?_eq_some_iff.1 h
  rw [List.drop_eq_getElem_cons hk, idR]

theorem all_step {p : Lc → Bool} {ls : List Lc} {k : Nat} {l : Lc} (h : ls[k]? = some l) : (ls.drop k).all p = (p l && (ls.drop (k + 1)).all p) := by
  obtain ⟨hk, rfl⟩ := List.getElem?_eq_some_iff.1 h
  rw [List.drop_eq_getElem_cons hk, List.all_cons]

set_option maxHeartbeats 1000000 in
set_option maxRecDepth 100000 in
theorem idsOk_any (b : Option Addr) (c2 n : Nat) (xs : List Lg) (w : World) (hs : RdL w b xs) (hn : xs.length = n) :
    Calls Tryz.prog 54 #[.slice b n c2] w fun e w' => e = .returned (.bool (idsR (xs.map Lg.ct))) ∧ Below w.heap.size w w' := by
  have hl2 := hs.1
  rw [hn] at hl2
  have HRL := kide (fun u (hu : Below w.heap.size w u) => hs.later hu)
  have HN := kide hn
  by_cases h60 : n ≤ 60
  · generalize hZ : idsR (xs.map Lg.ct) = Z
    have HZ : Hid (idR 0 (xs.map Lg.ct) = Z) := by
      show _ = _
      rw [← hZ, idsR]
      simp [hn, h60]
    clear hZ hs hn
    go_enter Tryz.func54, Tryz.ntmps54
    go_wp2_with fail
    go_loopw [3, 11] (fun l i wr => ∃ (k : Nat) (last : Int), k ≤ n ∧ i = .int .i64 k ∧ l = .int .i64 last ∧ in64 last ∧ idR last ((xs.map Lg.ct).drop k) = Z ∧ Below w.heap.size w wr) (fun _ i _ => n - (intOf i).toNat)
    case atStart => exact ⟨0, 0, Nat.zero_le _, rfl, rfl, by unfold in64; omega, by rw [List.drop_zero]; exact HZ.out, Below.refl _ _⟩
    case round =>
      obtain ⟨k, last, hk, rfl, rfl, hin, hq, hbel⟩ := hrel
      have HB := kide hbel
      have HIN := kide hin
      by_cases hlt : k < n
      · obtain ⟨-, h | ⟨b1, o1, rfl, hc⟩⟩ := HRL.out wr hbel
        · have := HN.out; subst h; simp at this; omega
        obtain ⟨⟨id, q, ss, sa, sc, ts, ta, tc⟩, hx⟩ : ∃ x, xs[k]? = some x := ⟨_, List.getElem?_eq_getElem (by rw [HN.out]; exact hlt)⟩
        obtain ⟨⟨p0, p1, p2, p3⟩, pr, pr2, hid⟩ := hc k _ hx
        simp only [] at p0 p1 p2 p3 pr pr2 hid
        rw [idR_step (l := ⟨id, q, ss.map Tg.ct, ts.map Tg.ct⟩) (by rw [List.getElem?_map, hx]; rfl)] at hq
        simp only [] at hq
        have HQ := kide hq
        have hki : (k : Int) < (n : Int) := by omega
        have HA := kide (HB.out.alloc HB.out.size (.cells #[Value.int .i64 id, Value.bool q, Value.slice sa ss.length sc, Value.slice ta ts.length tc] 62))
        have HID := kide hid
        generalize ss.length = m1 at *
        generalize ts.length = m2 at *
        clear hc hx hq hbel pr pr2 hin hid
        by_cases h1 : id ≤ last
        · have HF : Hid (Z = false) := by
            show _ = _
            rw [← HQ.out, decide_eq_false (by omega)]
            rfl
          go_wp2_with fail
          go_ret
          exact ⟨ret_bool HF.out.symm, HA.out⟩
        by_cases h2 : 1000000 < id
        · have HF : Hid (Z = false) := by
            show _ = _
            rw [← HQ.out, decide_eq_false (by omega)]
            rfl
          go_wp2_with fail
          go_ret
          exact ⟨ret_bool HF.out.symm, HA.out⟩
        have hdt : decide (last < id ∧ id ≤ 1000000) = true := decide_eq_true (by omega)
        rw [hdt, Bool.true_and] at HQ
        clear hdt
        go_wp2_with fail
        go_roundw
        case rel => exact ⟨k + 1, id, by omega, by go_num, rfl, HID.out, HQ.out, HA.out⟩
        case measure => simp [intOf]; omega
      · have e : k = n := by omega
        rw [e, List.drop_of_length_le (by simp [HN.out]), idR] at hq
        have HQ := kide hq
        clear hq hin
        go_wp2_with fail
        go_ret
        exact ⟨ret_bool HQ.out, HB.out⟩
  · have hR : idsR (xs.map Lg.ct) = false := by simp [idsR, hn]; omega
    rw [hR]
    clear hR hs hn
    have h61 : (60 : Int) < (n : Int) := by omega
    go_enter Tryz.func54, Tryz.ntmps54
    go_wp2_with fail
    go_ret
    exact ⟨rfl, Below.refl _ _⟩

end Go.Proofs.YtheglnkndjheaaaGreatDoor

/- What the program's LiteralsOk answers. -/
namespace Go.Proofs.YtheglnkndjheaaaGreatDoor
set_option linter.unusedVariables false
set_option linter.unusedSimpArgs false
open Go.RowKit

set_option maxHeartbeats 2000000 in
set_option maxRecDepth 100000 in
theorem implLits_any (a b : Option Addr) (c c2 n : Nat) (ds : List Dc) (xs : List Lg) (w : World) (hr : RdD w a ds) (hs : RdL w b xs) (hn : xs.length = n) (hG : GF w) :
    Calls Tryz.prog 32 #[.slice a ds.length c, .slice b n c2] w fun e w' => e = .returned (.bool (litR ds (xs.map Lg.ct))) ∧ Below w.heap.size w w' := by
  have hl1 := hr.1
  have hl2 := hs.1
  rw [hn] at hl2
  have HD := kide (fun u (hu : Below w.heap.size w u) => implDecls_any a c ds u (hr.later hu))
  have HI := kide (fun u (hu : Below w.heap.size w u) => idsOk_any b c2 n xs u (hs.later hu) hn)
  have HRD := kide (fun u (hu : Below w.heap.size w u) => hr.later hu)
  have HRL := kide (fun u (hu : Below w.heap.size w u) => hs.later hu)
  have HG := kide (fun u (hu : Below w.heap.size w u) => hG.later hu)
  have HN := kide hn
  cases hd : dclR ds with
  | false =>
    have hR : litR ds (xs.map Lg.ct) = false := by simp [litR, hd]
    rw [hR]
    rw [hd] at HD
    clear hR hd hr hs hn hG
    go_enter Tryz.func32, Tryz.ntmps32
    go_wp2_with fail
    refine Calls.mono (HD.out _ (Below.refl _ _)) ?_
    rintro e w1 ⟨rfl, hb1⟩
    go_wp2_with fail
    go_ret
    exact ⟨rfl, hb1⟩
  | true =>
    rw [hd] at HD
    have HDT := kide hd
    cases hI : idsR (xs.map Lg.ct) with
    | false =>
      have hR : litR ds (xs.map Lg.ct) = false := by rw [litR_eq, hI]; simp
      rw [hR]
      rw [hI] at HI
      clear hR hd hr hs hn hG hI
      go_enter Tryz.func32, Tryz.ntmps32
      go_wp2_with fail
      refine Calls.mono (HD.out _ (Below.refl _ _)) ?_
      rintro e w1 ⟨rfl, hb1⟩
      have B1 := kide hb1
      clear hb1
      go_wp2_with fail
      refine Calls.mono (HI.out _ B1.out) ?_
      rintro e w2 ⟨rfl, hb2⟩
      go_wp2_with fail
      go_ret
      exact ⟨rfl, B1.out.trans (hb2.mono B1.out.size)⟩
    | true =>
      rw [hI] at HI
      generalize hZ : litR ds (xs.map Lg.ct) = Z
      have HZ : Hid ((xs.map Lg.ct).all (sideR ds) = Z) := by
        show _ = _
        rw [← hZ, litR_eq, hI, hd]
        simp
      clear hZ hd hr hs hn hG hI
      go_enter Tryz.func32, Tryz.ntmps32
      go_wp2_with fail
      refine Calls.mono (HD.out _ (Below.refl _ _)) ?_
      rintro e w1 ⟨rfl, hb1⟩
      have B1 := kide hb1
      clear hb1
      go_wp2_with fail
      refine Calls.mono (HI.out _ B1.out) ?_
      rintro e w2 ⟨rfl, hb2⟩
      have B2 := kide (B1.out.trans (hb2.mono B1.out.size))
      clear hb2 B1
      go_wp2_with fail
      go_loopw [17] (fun i wr => ∃ (k : Nat), k ≤ n ∧ i = .int .i64 k ∧ ((xs.map Lg.ct).drop k).all (sideR ds) = Z ∧ Below w.heap.size w wr) (fun i _ => n - (intOf i).toNat)
      case atStart => exact ⟨0, Nat.zero_le _, rfl, by rw [List.drop_zero]; exact HZ.out, B2.out⟩
      case round =>
        obtain ⟨k, hk, rfl, hq, hbel⟩ := hrel
        have HB := kide hbel
        by_cases hlt : k < n
        · obtain ⟨-, h | ⟨b1, o1, rfl, hc⟩⟩ := HRL.out wr hbel
          · have := HN.out; subst h; simp at this; omega
          obtain ⟨⟨id, q, ss, sa, sc, ts, ta, tc⟩, hx⟩ : ∃ x, xs[k]? = some x := ⟨_, List.getElem?_eq_getElem (by rw [HN.out]; exact hlt)⟩
          obtain ⟨⟨p0, p1, p2, p3⟩, pr, pr2, hid⟩ := hc k _ hx
          simp only [] at p0 p1 p2 p3 pr pr2 hid
          rw [all_step (l := ⟨id, q, ss.map Tg.ct, ts.map Tg.ct⟩) (by rw [List.getElem?_map, hx]; rfl)] at hq
          have HQ := kide hq
          have hki : (k : Int) < (n : Int) := by omega
          have HA := kide (HB.out.alloc HB.out.size (.cells #[Value.int .i64 id, Value.bool q, Value.slice sa ss.length sc, Value.slice ta ts.length tc] 62))
          have hbx : Below wr.heap.size wr (wr.alloc (.cells #[Value.int .i64 id, Value.bool q, Value.slice sa ss.length sc, Value.slice ta ts.length tc] 62)) := (Below.refl _ _).alloc (Nat.le_refl _) _
          have HSD := kide (sidesOk_any a c ds id q sa ta ss.length sc ts.length tc ss ts _ (HRD.out _ HA.out) (pr.later hbx) (pr2.later hbx) rfl rfl (HG.out _ HA.out) HDT.out)
          generalize sideR ds ⟨id, q, ss.map Tg.ct, ts.map Tg.ct⟩ = SR at *
          generalize ss.length = m1 at *
          generalize ts.length = m2 at *
          clear hc hx hq hbel pr pr2 hid hbx
          cases SR with
          | false =>
            go_wp2_with fail
            refine Calls.mono HSD.out ?_
            rintro e w2 ⟨rfl, hb2⟩
            have HF : Hid (Z = false) := by show _ = _; rw [← HQ.out]; rfl
            go_wp2_with fail
            go_ret
            exact ⟨ret_bool HF.out.symm, HA.out.trans (hb2.mono HA.out.size)⟩
          | true =>
            rw [Bool.true_and] at HQ
            go_wp2_with fail
            refine Calls.mono HSD.out ?_
            rintro e w2 ⟨rfl, hb2⟩
            have HB2 := kide (HA.out.trans (hb2.mono HA.out.size))
            clear hb2
            go_wp2_with fail
            go_roundw
            case rel => exact ⟨k + 1, by omega, by go_num, HQ.out, HB2.out⟩
            case measure => simp [intOf]; omega
        · have e : k = n := by omega
          rw [e, List.drop_of_length_le (by simp [HN.out])] at hq
          have HQ := kide hq
          clear hq
          go_wp2_with fail
          go_ret
          exact ⟨ret_bool HQ.out, HB.out⟩

end Go.Proofs.YtheglnkndjheaaaGreatDoor
