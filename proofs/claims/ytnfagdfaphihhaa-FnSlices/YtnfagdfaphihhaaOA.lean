/- Rows of slices: what they are, how they grow. -/
import Derived.Test.YtnfagdfaphihhaaLP
import Derived.Deep.AppendLies
namespace Go.Proofs.Ytnfagdfaphihhaa
set_option linter.unusedVariables false
set_option linter.unusedSimpArgs false
open Go.RowKit

/-- A slice of a variable: the variable, the place, the width. -/
abbrev Sl := Int × Int × Int

def scl (s : Sl) : List Value := [.int .i64 s.1, .int .i64 s.2.1, .int .i64 s.2.2]
def scs (ss : List Sl) : List Value := ss.flatMap scl

theorem scs_len (ss : List Sl) : (scs ss).length = ss.length * 3 := by
  induction ss with
  | nil => rfl
  | cons s t ih =>
    have e : scs (s :: t) = scl s ++ scs t := by simp [scs]
    rw [e, List.length_append, ih]
    simp [scl]; omega
theorem scs_append (a b : List Sl) : scs (a ++ b) = scs a ++ scs b := by simp [scs]

/-- The slices of a variable, from a place on. -/
def slV (v : Nat) (W : Int) : Int → List Int → List Sl
  | lo, [] => [((v : Int), lo, W - lo)]
  | lo, c :: t => ((v : Int), lo, c - lo) :: slV v W c t

/-- .. of all variables, from the v-th on. -/
def slR : List Dc → List (List Int) → Nat → List Sl
  | d :: ds, c :: cs, v => slV v d.2 0 c ++ slR ds cs (v + 1)
  | _, _, _ => []

theorem Try.infoSlice : (Try.prog.info? 36).map (fun i => (i.zero, i.size, i.bytes)) = some (some (.agg #[.int .i64 0, .int .i64 0, .int .i64 0]), 3, 24) := by kernel_rfl

/-- A row of slices that is the owner's own. -/
def OS (w : World) (B : Nat) (v : Value) (ss : List Sl) : Prop := w.ownsRow B 36 3 v ss.length (scs ss)

theorem OS.lt {w : World} {B : Nat} {v : Value} {ss : List Sl} (h : OS w B v ss) {k : Nat} (hk : v.ownBlock = some k) : B ≤ k ∧ k < w.heap.size := World.ownsRow.lt h k hk
theorem OS.typed {w : World} {B : Nat} {v : Value} {ss : List Sl} (h : OS w B v ss) {b : Nat} {cs : Array Value} {t : TypeId} {fr : Nat × Nat} (hb : w.heap[b]? = some (.cells cs t fr)) (ht : t ≠ 36) : some b ≠ v.ownBlock := fun hk => by
  rcases h.2 with ⟨rfl, -⟩ | ⟨g, cap, cur, rfl, hg, hh, -⟩
  · cases hk
  · cases hk
    rw [hb] at hh
    cases hh
    exact ht rfl

theorem wpList_appS {w : World} {ops : Array Oper} {rest : List Oper} {o : Oper} {a : Act} {Q : Exit → Act → World → Prop} (hgd : o.guard = none) (s x : Operand)
    (ho : o.op = .call { callee := .builtin .append, args := #[s, x], argTypes := #[31, 31] })
    (B : Nat) (v : Value) (ss : List Sl) (y : Sl) (hs : a.eval s = v) (hown : OS w B v ss) (gx : Nat) (hx : a.eval x = .slice (some ⟨gx, 0, none⟩) 1 1)
    (h0 : w.cell? ⟨gx, 0, none⟩ = some (.int .i64 y.1)) (h1 : w.cell? ⟨gx, 1, none⟩ = some (.int .i64 y.2.1)) (h2 : w.cell? ⟨gx, 2, none⟩ = some (.int .i64 y.2.2)) (hl : ss.length ≤ 1073741824) (hB : B ≤ w.heap.size)
    (h : ∀ v' w', OS w' B v' (ss ++ [y]) → w.grownBy w' v.ownBlock → wpList Try.prog ops Q rest (a.put o.dst v') w') : wpList Try.prog ops Q (o :: rest) a w := by
  obtain ⟨i0, hi, hz0, hz1, hz2⟩ := info_parts Try.infoSlice
  refine wpList_append_own_at w hgd s x 31 ho B 36 i0 _ 3 24 Try.underlying31 hi hz0 hz1 hz2 rfl (by decide) v ss.length (scs ss) hs hown ⟨gx, 0, none⟩ 1 1 (scl y) hx rfl ?_ ?_ (by unfold maxLen; omega) (by omega) hB ?_
  · intro j u hj
    rw [Addr.add_lit]
    match j, hj with
    | 0, hj => simp [scl] at hj; subst hj; exact h0
    | 1, hj => simp [scl] at hj; subst hj; exact h1
    | 2, hj => simp [scl] at hj; subst hj; exact h2
    | j + 3, hj => simp [scl] at hj
  · intro u hu
    simp [scl] at hu
    rcases hu with rfl | rfl | rfl <;> rfl
  · intro v' w' ho' hg _ _
    refine h v' w' ?_ hg
    have e : scs (ss ++ [y]) = scs ss ++ scl y := by rw [scs_append]; simp [scs]
    unfold OS
    rw [e, List.length_append]
    exact ho'

theorem slR_step {ds : List Dc} {cs : List (List Int)} {k : Nat} {d : Dc} {c : List Int} (h1 : ds[k]? = some d) (h2 : cs[k]? = some c) :
    slR (ds.drop k) (cs.drop k) k = slV k d.2 0 c ++ slR (ds.drop (k + 1)) (cs.drop (k + 1)) (k + 1) := by
  have l1 := (List.getElem?_eq_some_iff.1 h1).1
  have l2 := (List.getElem?_eq_some_iff.1 h2).1
  rw [List.drop_eq_getElem_cons l1, List.drop_eq_getElem_cons l2, slR]
  rw [List.getElem?_eq_getElem l1] at h1
  rw [List.getElem?_eq_getElem l2] at h2
  cases h1
  cases h2
  rfl

theorem slV_step {v : Nat} {W lo : Int} {ks : List Int} {j : Nat} (h : j < ks.length) : slV v W lo (ks.drop j) = ((v : Int), lo, ks.getD j 0 - lo) :: slV v W (ks.getD j 0) (ks.drop (j + 1)) := by
  rw [List.drop_eq_getElem_cons h, slV]
  simp [List.getD, h]
theorem slV_len (v : Nat) (W lo : Int) (ks : List Int) : (slV v W lo ks).length = ks.length + 1 := by
  induction ks generalizing lo with
  | nil => rfl
  | cons k t ih => simp [slV, ih]

theorem slR_len (ds : List Dc) (cs : List (List Int)) (v N : Nat) (h : ∀ c ∈ cs, c.length + 1 ≤ N) : (slR ds cs v).length ≤ ds.length * N := by
  induction ds generalizing cs v with
  | nil => simp [slR]
  | cons d ds ih =>
    cases cs with
    | nil => simp [slR]
    | cons c cs =>
      rw [slR, List.length_append, slV_len]
      have h1 := h c (by simp)
      have h2 := ih cs (v + 1) (fun x hx => h x (List.mem_cons_of_mem _ hx))
      rw [List.length_cons, Nat.succ_mul]
      omega

set_option maxHeartbeats 1000000 in
theorem implSlices_any (a b : Option Addr) (c c2 n : Nat) (ds : List Dc) (xs : List Iw) (w : World) (hr : RdD w a ds) (hs : RdII w b xs) (hn : xs.length = n) :
    Calls Try.prog 9 #[.slice a ds.length c, .agg #[.slice b n c2]] w fun e w' => ∃ v, e = .returned v ∧ OS w' (w.heap.size + 1) v (if cutR ds (xs.map Iw.ks) = true then slR ds (xs.map Iw.ks) 0 else []) ∧ Below w.heap.size w w' := by
  have s0 := Bq.start w (.slice b n c2) 27
  have HCC := kide (implCuts_any a b c c2 n ds xs _ (hr.later s0.below) (hs.later s0.below) hn)
  have c0 := s0.cell
  have hl1 := hr.1
  have hl2 := hs.1
  rw [hn] at hl2
  cases hC : cutR ds (xs.map Iw.ks) with
  | false =>
    rw [hC] at HCC
    clear hC hr hs
    go_enter Try.func9, Try.ntmps9
    go_wp2_with fail
    refine Calls.mono HCC.out ?_
    rintro e w1 ⟨rfl, hb1⟩
    have s1 := s0.next hb1
    go_wp2_with fail
    go_ret
    exact ⟨_, rfl, World.ownsRow_nil _ _ _ _, s1.below⟩
  | true =>
    obtain ⟨h60, hll⟩ : ds.length ≤ 60 ∧ n = ds.length := by
      simp only [cutR, Bool.and_eq_true, decide_eq_true_eq] at hC
      exact ⟨(dclR_iff.1 hC.1.1).1, by have := hC.1.2; simp at this; omega⟩
    rw [hC] at HCC
    simp only [if_true]
    have HR := kide hr
    have HS := kide hs
    have HN := kide hn
    have HLL := kide hll
    have HCL : Hid (cutL (ds.drop 0) ((xs.map Iw.ks).drop 0) = true) := by simp only [cutR, Bool.and_eq_true] at hC; exact (by simpa using hC.2 : cutL (ds.drop 0) ((xs.map Iw.ks).drop 0) = true)
    have HDC : Hid (dclR ds = true) := by simp only [cutR, Bool.and_eq_true] at hC; exact hC.1.1
    obtain ⟨i0, hi, hz0, hz1, hz2⟩ := info_parts Try.infoSlice
    clear hC hr hs hn hll
    go_enter Try.func9, Try.ntmps9
    go_wp2_with fail
    refine Calls.mono HCC.out ?_
    rintro e w1 ⟨rfl, hb1⟩
    have s1 := s0.next hb1
    have c1 := s1.cell
    clear hb1 s0 c0
    go_wp2_with fail
    generalize hZZ : slR ds (xs.map Iw.ks) 0 = Z
    have HZ := kide hZZ
    have hZl : Z.length ≤ 64000000 := by
      rw [← hZZ]
      have hm : ∀ c ∈ xs.map Iw.ks, c.length + 1 ≤ 1048577 := by
        intro c hc
        obtain ⟨x, hx, rfl⟩ := List.mem_map.1 hc
        obtain ⟨i, hi', e⟩ := List.mem_iff_getElem.1 hx
        obtain ⟨-, h | ⟨b2, o2, -, hc2⟩⟩ := HS.out
        · subst h; simp at hx
        · have := (hc2 i x (by rw [List.getElem?_eq_getElem hi', e])).2.1
          omega
      have h1 := slR_len ds (xs.map Iw.ks) 0 1048577 hm
      have h2 : ds.length * 1048577 ≤ 60 * 1048577 := Nat.mul_le_mul_right _ h60
      exact Nat.le_trans h1 (Nat.le_trans h2 (by decide))
    clear hZZ hi hz0 hz1 hz2
    go_loopw [5, 17] (fun l i wr => ∃ (k : Nat) (ss : List Sl), k ≤ ds.length ∧ i = .int .i64 (k : Int) ∧ OS wr (w.heap.size + 1) l ss ∧ ss ++ slR (ds.drop k) ((xs.map Iw.ks).drop k) k = Z ∧ cutL (ds.drop k) ((xs.map Iw.ks).drop k) = true ∧ Bq w (.slice b n c2) 27 wr) (fun _ i _ => ds.length - (intOf i).toNat)
    case atStart => exact ⟨0, [], Nat.zero_le _, rfl, World.ownsRow_nil _ _ _ _, by simpa using HZ.out, HCL.out, s1⟩
    case round =>
      obtain ⟨k, ss, hk, rfl, hown, hz, hcl, hbq⟩ := hrel
      by_cases hlt : k < ds.length
      · obtain ⟨-, -, h | ⟨b1, o1, rfl, hc1⟩⟩ := HR.out
        · subst h; simp at hlt
        obtain ⟨-, h | ⟨b2, o2, rfl, hc2⟩⟩ := HS.out
        · have h1 := HN.out; have h2 := HLL.out; subst h; simp at h1; omega
        obtain ⟨⟨t, y⟩, gd⟩ : ∃ d, ds[k]? = some d := ⟨ds[k], List.getElem?_eq_getElem hlt⟩
        obtain ⟨⟨a1, c1', k1⟩, gx⟩ : ∃ x, xs[k]? = some x := ⟨xs[k]'(by rw [HN.out, HLL.out]; exact hlt), List.getElem?_eq_getElem _⟩
        have gct : (xs.map Iw.ks)[k]? = some k1 := by rw [List.getElem?_map, gx]; rfl
        obtain ⟨q0, q1⟩ := (hc1 k _ gd).later hbq.below
        obtain ⟨p1, p2⟩ := (hc2 k _ gx).later hbq.below
        obtain ⟨hy1, hy2⟩ := (dcOk_iff.1 ((dclR_iff.1 HDC.out).2.1 _ (List.mem_of_getElem? gd))).2
        simp only [] at q0 q1 p1 p2 hy1 hy2
        rw [slR_step gd gct] at hz
        rw [cutL_step gd gct, Bool.and_eq_true] at hcl
        obtain ⟨hcl1, hcl2⟩ := hcl
        simp only [] at hz hcl1
        have cb := hbq.cell
        have HCL2 := kide hcl2
        have HKL := kide (hc2 k _ gx)
        have hkl := p2.1
        have i0 : (k : Int) < (ds.length : Int) := by omega
        have i1 : (k : Int) < (n : Int) := by have := HLL.out; omega
        have lb := block_lt_of_cell q0
        have lsz : w.heap.size < wr.heap.size := hbq.size
        have lb2 := block_lt_of_cell p1
        generalize hg : slR (ds.drop (k + 1)) ((xs.map Iw.ks).drop (k + 1)) (k + 1) = Z2 at *
        have HG := kide hg
        have HBQ := kide hbq
        have HOW := kide hown
        have HZK := kide hz
        have HCK := kide hcl1
        clear hc1 hc2 gx gd gct hg hbq hown hz hcl1 hcl2 HCC
        have hblk : (wr.alloc (Obj.cells #[Value.string t, Value.int .i64 y] 34)).heap[wr.heap.size]? = some (.cells #[Value.string t, Value.int .i64 y] 34 (0, 0)) := heap_alloc_new _ _
        have HA0 : Hid (Bq w (.slice (some ⟨b2, o2, none⟩) n c2) 27 (wr.alloc (Obj.cells #[Value.string t, Value.int .i64 y] 34))) := Below.alloc HBQ.out (by have := Bq.size HBQ.out; omega) _
        have HO0 := kide (World.ownsRow.alloc HOW.out (Obj.cells #[Value.string t, Value.int .i64 y] 34))
        have HBK := kide hblk
        clear hblk
        go_wp2_with fail
        generalize wr.alloc (Obj.cells #[Value.string t, Value.int .i64 y] 34) = wa at *
        clear q0 q1 p1 p2 cb HBQ HOW lb lb2
        generalize wr.heap.size = S0 at *
        obtain ⟨wo, hwo⟩ : ∃ wo, wo = wr := ⟨_, rfl⟩
        subst hwo
        go_loopw [5, 8, 28] (fun l q i wi => ∃ (j : Nat) (lo : Int) (rs : List Sl), j ≤ k1.length ∧ i = .int .i64 (j : Int) ∧ q = .int .i64 lo ∧ 0 ≤ lo ∧ lo ≤ 4096 ∧ OS wi (w.heap.size + 1) l rs ∧ rs ++ (slV k y lo (k1.drop j) ++ Z2) = Z ∧ risR y lo (k1.drop j) = true ∧ wi.heap[S0]? = some (.cells #[Value.string t, Value.int .i64 y] 34 (0, 0)) ∧ Bq w (.slice (some ⟨b2, o2, none⟩) n c2) 27 wi) (fun _ _ i _ => k1.length - (intOf i).toNat)
        case atStart => exact ⟨0, 0, ss, Nat.zero_le _, rfl, rfl, by omega, by omega, HO0.out, by simpa using HZK.out, by simpa using HCK.out, HBK.out, HA0.out⟩
        case round =>
          obtain ⟨j, lo, rs, hj, rfl, rfl, hlo0, hlo1, hown, hz, hris, hblk, hbq⟩ := hrel
          obtain ⟨-, p2⟩ := HKL.out.later hbq.below
          simp only [] at p2
          have HBQ2 := kide hbq
          have HOW2 := kide hown
          have hszi : w.heap.size + 1 ≤ wr.heap.size := hbq.size
          by_cases hjl : j < k1.length
          · obtain ⟨-, hi64, h | ⟨b3, o3, rfl, hc3⟩⟩ := p2
            · subst h; simp at hjl
            have e3 := hc3 j hjl
            have l3 := block_lt_of_cell e3
            rw [slV_step hjl] at hz
            rw [risR_step hjl, Bool.and_eq_true, Bool.and_eq_true, decide_eq_true_eq, decide_eq_true_eq] at hris
            generalize k1.getD j 0 = x at *
            obtain ⟨⟨hx1, hx2⟩, hris2⟩ := hris
            have HRI := kide hris2
            have hrl : rs.length ≤ 1073741824 := by
              have h1 := congrArg List.length hz
              rw [List.length_append] at h1
              omega
            have HZJ := kide hz
            have HBL := kide hblk
            have j0 : (j : Int) < (k1.length : Int) := by omega
            clear hc3 hi64 hz hblk hbq hown hris2
            go_wp2_with (at_builtin; refine wpList_appS rfl _ _ rfl (w.heap.size + 1) _ rs ((k : Int), lo, x - lo) rfl (World.ownsRow.alloc HOW2.out _) wr.heap.size rfl (by simp) (by simp) (by simp) hrl (by simp; omega) ?_)
            intro v' w2 hos hg
            have HOS := kide hos
            have HNX : Hid (Bq w (.slice (some ⟨b2, o2, none⟩) n c2) 27 w2) := Below.grown (Below.alloc HBQ2.out (by simpa using hszi) _) hg (by simp; omega) (fun q hq => (World.ownsRow.lt HOW2.out q hq).1)
            have HBL2 : Hid (w2.heap[S0]? = some (.cells #[Value.string t, Value.int .i64 y] 34 (0, 0))) := by
              have h0 := HBL.out
              have hlt' := lt_of_block h0
              show _ = _
              rw [hg.block S0 (by simp; omega) (OS.typed HOW2.out h0 (by decide))]
              rw [heap_alloc_old _ _ hlt']; exact h0
            clear hos hg e3
            go_wp2_with fail
            go_roundw
            case rel => exact ⟨j + 1, x, rs ++ [((k : Int), lo, x - lo)], by omega, by go_num, rfl, by omega, by omega, HOS.out, by rw [List.append_assoc]; exact HZJ.out, HRI.out, HBL2.out, HNX.out⟩
            case measure => simp [intOf]; omega
          · have e : j = k1.length := by omega
            rw [e, List.drop_length, slV] at hz
            have HZJ := kide hz
            have cD : wr.cell? ⟨S0, 1, none⟩ = some (Value.int .i64 y) := by rw [cell_of_row wr S0 1 _ _ _ hblk]; rfl
            have lD := lt_of_block hblk
            have hrl : rs.length ≤ 1073741824 := by
              have h1 := congrArg List.length hz
              rw [List.length_append] at h1
              omega
            clear hz hris hblk hbq hown p2 e
            go_wp2_with (at_builtin; refine wpList_appS rfl _ _ rfl (w.heap.size + 1) _ rs ((k : Int), lo, y - lo) rfl (World.ownsRow.alloc HOW2.out _) wr.heap.size rfl (by simp) (by simp) (by simp) hrl (by simp; omega) ?_)
            intro v' w2 hos hg
            have HOS := kide hos
            have HNX : Hid (Bq w (.slice (some ⟨b2, o2, none⟩) n c2) 27 w2) := Below.grown (Below.alloc HBQ2.out (by simpa using hszi) _) hg (by simp; omega) (fun q hq => (World.ownsRow.lt HOW2.out q hq).1)
            clear hos hg cD
            go_wp2_with fail
            go_roundw
            case rel => exact ⟨k + 1, rs ++ [((k : Int), lo, y - lo)], by omega, by go_num, HOS.out, by rw [HG.out]; simpa using HZJ.out, HCL2.out, HNX.out⟩
            case measure => simp [intOf]; omega
      · have e : k = ds.length := by omega
        have HZE : Hid (ss = Z) := by
          show _ = _
          rw [← hz, e, List.drop_length, slR]
          · simp
          · simp
        have HBQ := kide hbq
        have HOW := kide hown
        clear hz hcl hbq hown e
        go_wp2_with fail
        go_ret
        exact ⟨_, rfl, by rw [HZ.out, ← HZE.out]; exact HOW.out, Bq.below HBQ.out⟩

end Go.Proofs.Ytnfagdfaphihhaa
