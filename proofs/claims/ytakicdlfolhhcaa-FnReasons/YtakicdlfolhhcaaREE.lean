/- Numbers sorted, each once: as the library makes them, and on the given side. -/
import Derived.Lib.SlicesCompact
import Derived.Lib.OwnBridge
import Derived.Sort.OwnSortedInts
import Derived.Test.YtakicdlfolhhcaaSV
import Derived.Test.YtakicdlfolhhcaaGJ
import Derived.Handy
import Derived.Laws.OwnMore
import Derived.Deep.AppendLies
import Derived.Maps.AppendAt
namespace Go.Proofs.Ytakicdlfolhhcaa
set_option linter.unusedVariables false
set_option linter.unusedSimpArgs false
open Go.RowKit

theorem ret_bool {a b : Bool} (h : a = b) : Ending.returned (.bool a) = .returned (.bool b) := by rw [h]

/-- A slice whose numbers are ks, wherever it lies. -/
def RdI (w : World) (a : Option Addr) (ks : List Int) : Prop :=
  ks.length ≤ 1048576 ∧ (∀ k ∈ ks, in64 k) ∧ (ks = [] ∨ ∃ b o, a = some ⟨b, o, none⟩ ∧ ∀ i, i < ks.length → w.cell? ⟨b, o + i, none⟩ = some (.int .i64 (ks.getD i 0)))

theorem RdI.later {w w' : World} {a : Option Addr} {ks : List Int} (h : RdI w a ks) (hb : Below w.heap.size w w') : RdI w' a ks := by
  obtain ⟨h1, h2, h3⟩ := h
  refine ⟨h1, h2, ?_⟩
  rcases h3 with h3 | ⟨b, o, rfl, hc⟩
  · exact .inl h3
  · refine .inr ⟨b, o, rfl, fun i hi => ?_⟩
    have := hc i hi
    rw [hb.cell (p := ⟨b, o + i, none⟩) (by exact block_lt_of_cell this)]
    exact this

theorem Try.infoI64h : (Try.prog.info? 2).map (fun i => (i.zero, i.size, i.bytes)) = some (some (.int .i64 0), 1, 8) := by kernel_rfl
theorem owr_typed {w : World} {B n : Nat} {e : TypeId} {v : Value} {xs : List Value} (h : w.ownsRow B e 1 v n xs) {b : Nat} (hb : v.ownBlock = some b) : (∃ cur, w.heap[b]? = some (.cells cur e (0, 0))) ∧ B ≤ b := by
  rcases h.2 with ⟨rfl, -⟩ | ⟨g, cap, cur, rfl, hg, hh, -⟩
  · cases hb
  · cases hb
    exact ⟨⟨cur, hh⟩, hg⟩
theorem owr_move {w w' : World} {B n : Nat} {e : TypeId} {v : Value} {xs : List Value} (h : w.ownsRow B e 1 v n xs) (hk : ∀ b, v.ownBlock = some b → w'.heap[b]? = w.heap[b]?) : w'.ownsRow B e 1 v n xs := by
  refine ⟨h.1, ?_⟩
  rcases h.2 with h0 | ⟨g, cap, cur, rfl, hg, hh, r⟩
  · exact .inl h0
  · exact .inr ⟨g, cap, cur, rfl, hg, (hk g rfl).trans hh, r⟩
theorem wpList_appI8 {w : World} {ops : Array Oper} {rest : List Oper} {o : Oper} {a : Act} {Q : Exit → Act → World → Prop} (hgd : o.guard = none) (s x : Operand)
    (ho : o.op = .call { callee := .builtin .append, args := #[s, x], argTypes := #[44, 44] })
    (B : Nat) (v : Value) (xs : List Value) (y : Int) (hs : a.eval s = v) (hown : w.ownsRow B 2 1 v xs.length xs) (gx : Nat) (hx : a.eval x = .slice (some ⟨gx, 0, none⟩) 1 1)
    (h0 : w.cell? ⟨gx, 0, none⟩ = some (.int .i64 y)) (hl : xs.length ≤ 1073741824) (hB : B ≤ w.heap.size)
    (h : ∀ v' w', w'.ownsRow B 2 1 v' (xs ++ [Value.int .i64 y]).length (xs ++ [Value.int .i64 y]) → w.grownBy w' v.ownBlock → (v'.ownBlock = v.ownBlock ∨ v'.ownBlock = some w.heap.size) → wpList Try.prog ops Q rest (a.put o.dst v') w') : wpList Try.prog ops Q (o :: rest) a w := by
  obtain ⟨i0, hi, hz0, hz1, hz2⟩ := info_parts Try.infoI64h
  refine wpList_append_own_at w hgd s x 44 ho B 2 i0 _ 1 8 Try.underlying44 hi hz0 hz1 hz2 rfl (by decide) v xs.length xs hs hown ⟨gx, 0, none⟩ 1 1 [.int .i64 y] hx rfl ?_ ?_ (by unfold maxLen; omega) (by omega) hB ?_
  · intro j u hj
    rw [Addr.add_lit]
    match j, hj with
    | 0, hj => simp at hj; subst hj; exact h0
    | j + 1, hj => simp at hj
  · intro u hu
    simp at hu
    subst hu
    rfl
  · intro v' w' ho' hg _ hat
    exact h v' w' (by simpa using ho') hg hat
theorem l1Has_any (a : Option Addr) (c : Nat) (ks : List Int) (x : Int) (w : World) (hr : RdI w a ks) :
    Calls Try.prog 70 #[.slice a ks.length c, .int .i64 x] w fun e w' => e = .returned (.bool (decide (x ∈ ks))) ∧ w' = w := by
  have hlen := hr.1
  go_enter Try.func70, Try.ntmps70
  go_wp2_with fail
  go_loop [5] (fun i => ∃ k : Nat, k ≤ ks.length ∧ i = .int .i64 (k : Int) ∧ ∀ j, j < k → ks.getD j 0 ≠ x) (fun i => ks.length - (intOf i).toNat)
  case atStart => exact ⟨0, Nat.zero_le _, rfl, fun j h => by omega⟩
  case round =>
    obtain ⟨k, hk, rfl, hz⟩ := hrel
    have HZ := kide hz
    by_cases hlt : k < ks.length
    · obtain ⟨-, -, h | ⟨b, o, rfl, hc⟩⟩ := hr
      · subst h; simp at hlt
      have e0 := hc k hlt
      have hmem : ks.getD k 0 ∈ ks := by simp [List.getD, hlt]
      generalize hy : ks.getD k 0 = y at *
      have HY := kide hy
      have i0 : (k : Int) < (ks.length : Int) := by omega
      clear hc hz hy
      by_cases hxy : y = x
      · have e1 : (y == x) = true := by simp [hxy]
        have HR : Hid (decide (x ∈ ks) = true) := decide_eq_true (by rw [← hxy]; exact hmem)
        clear hxy hmem
        go_wp2_with fail
        go_ret
        exact ⟨ret_bool HR.out.symm, rfl⟩
      · have e1 : (y == x) = false := by simp [hxy]
        have HX := kide hxy
        clear hxy hmem
        go_wp2_with fail
        go_round
        case rel =>
          refine ⟨k + 1, by omega, by go_num, fun j hj => ?_⟩
          by_cases hjk : j = k
          · rw [hjk, HY.out]; exact HX.out
          · exact HZ.out j (by omega)
        case measure => simp [intOf]; omega
    · have HR : Hid (decide (x ∈ ks) = false) := decide_eq_false (fun h => by
        obtain ⟨j, hj, e⟩ := List.mem_iff_getElem.1 h
        exact hz j (by omega) (by simp [List.getD, hj, e]))
      clear hz
      go_wp2_with fail
      go_ret
      exact ⟨ret_bool HR.out.symm, rfl⟩

/-- How many of the first n are not above x, from the end on. -/
def posI (out : List Int) (x : Int) : Nat → Nat
  | 0 => 0
  | n + 1 => if out.getD n 0 > x then posI out x n else n + 1
def insI (out : List Int) (x : Int) : List Int := out.take (posI out x out.length) ++ x :: out.drop (posI out x out.length)
def risI (out : List Int) : List Int → List Int
  | [] => out
  | x :: t => risI (if x ∈ out then out else insI out x) t

theorem posI_le (out : List Int) (x : Int) : ∀ n, posI out x n ≤ n
  | 0 => Nat.le_refl _
  | n + 1 => by
    unfold posI
    split
    · exact Nat.le_trans (posI_le out x n) (Nat.le_succ _)
    · exact Nat.le_refl _
theorem insI_mem (out : List Int) (x y : Int) : y ∈ insI out x ↔ y = x ∨ y ∈ out := by
  unfold insI
  rw [List.mem_append, List.mem_cons]
  conv => rhs; rw [← List.take_append_drop (posI out x out.length) out, List.mem_append]
  constructor
  · rintro (h | h | h)
    · exact .inr (.inl h)
    · exact .inl h
    · exact .inr (.inr h)
  · rintro (h | h | h)
    · exact .inr (.inl h)
    · exact .inl h
    · exact .inr (.inr h)
theorem insI_len (out : List Int) (x : Int) : (insI out x).length = out.length + 1 := by
  have := posI_le out x out.length
  unfold insI
  simp
  omega

/-- A row of numbers of one's own. -/
def OI1 (w : World) (B : Nat) (v : Value) (xs : List Int) : Prop := w.ownsRow B 2 1 v xs.length (xs.map (Value.int .i64))

theorem OI1.form {w : World} {B : Nat} {v : Value} {xs : List Int} (h : OI1 w B v xs) : ∃ a c, v = .slice a xs.length c := by
  rcases h.2 with ⟨e, h0⟩ | ⟨g, cap, cur, e, -⟩
  · exact ⟨none, 0, by rw [e, h0]⟩
  · exact ⟨_, _, e⟩
theorem OI1.rd {w : World} {B n c : Nat} {a : Option Addr} {xs : List Int} (h : OI1 w B (.slice a n c) xs) (hl : xs.length ≤ 1048576) (hx : ∀ x ∈ xs, in64 x) : RdI w a xs := by
  rcases h.2 with ⟨e, h0⟩ | ⟨g, cap, cur, e, hg, hh, hc1, hc2, hsz, hcur⟩
  · have e := List.eq_nil_of_length_eq_zero h0
    subst e
    exact ⟨by simp, by simp, .inl rfl⟩
  · cases e
    refine ⟨hl, hx, .inr ⟨g, 0, rfl, fun i hi => ?_⟩⟩
    have h3 : (cur.toList.take (xs.length * 1))[i]? = (xs.map (Value.int .i64))[i]? := by rw [hcur]
    rw [List.getElem?_take, if_pos (by omega)] at h3
    simp only [Array.getElem?_toList] at h3
    rw [Nat.zero_add, cell_of_row w g i cur _ _ hh, h3]
    simp [List.getD, hi]

theorem OI1.cell {w : World} {B n c g : Nat} {xs : List Int} (h : OI1 w B (.slice (some ⟨g, 0, none⟩) n c) xs) {i : Nat} {x : Int} (hi : xs[i]? = some x) : w.cell? ⟨g, i, none⟩ = some (.int .i64 x) := by
  have hil := (List.getElem?_eq_some_iff.1 hi).1
  rcases h.2 with ⟨e, h0⟩ | ⟨g', cap, cur, e, hg, hh, hc1, hc2, hsz, hcur⟩
  · cases e
  · cases e
    have h3 : (cur.toList.take (xs.length * 1))[i]? = (xs.map (Value.int .i64))[i]? := by rw [hcur]
    rw [List.getElem?_take, if_pos (by omega)] at h3
    simp only [Array.getElem?_toList] at h3
    rw [cell_of_row w _ i cur _ _ hh, h3]
    simp [hi]
theorem OI1.froz {w : World} {B n c g : Nat} {xs : List Int} (h : OI1 w B (.slice (some ⟨g, 0, none⟩) n c) xs) (i : Nat) : w.frozen? ⟨g, i, none⟩ = false := by
  rcases h.2 with ⟨e, h0⟩ | ⟨g', cap, cur, e, hg, hh, hc1, hc2, hsz, hcur⟩
  · cases e
  · cases e
    exact frozen_of_row w _ i _ _ hh
theorem OI1.set {w : World} {B n c g : Nat} {xs : List Int} (h : OI1 w B (.slice (some ⟨g, 0, none⟩) n c) xs) {i : Nat} (hi : i < xs.length) (x : Int) : OI1 (w.setCell ⟨g, i, none⟩ (.int .i64 x)) B (.slice (some ⟨g, 0, none⟩) n c) (xs.set i x) := by
  rcases h.2 with ⟨e, h0⟩ | ⟨g', cap, cur, e, hg, hh, hc1, hc2, hsz, hcur⟩
  · cases e
  · cases e
    refine ⟨by simp, .inr ⟨g, c, cur.setIfInBounds i (.int .i64 x), by simp, hg, heap_setCell_same w g i _ _ _ hh, by simpa using hc1, hc2, by simpa using hsz, ?_⟩⟩
    rw [Array.toList_setIfInBounds, List.map_set, ← hcur, List.take_set]
    simp
theorem OI1.later {w w' : World} {B : Nat} {v : Value} {xs : List Int} (h : OI1 w B v xs) (hb : Below w.heap.size w w') : OI1 w' B v xs := owr_move h (fun b hb' => by obtain ⟨⟨cur, hc⟩, -⟩ := owr_typed h hb'; exact hb.block b (lt_of_block hc))
theorem OI1.empty (w : World) (B : Nat) (h : B ≤ w.heap.size) : OI1 (w.alloc (.cells #[] 2)) B (.slice (some ⟨w.heap.size, 0, Option.none⟩) 0 0) [] := World.ownsRow_made w #[] 0 h (Nat.zero_le _) (by simp)
theorem OI1.lt {w : World} {B n c g : Nat} {xs : List Int} (h : OI1 w B (.slice (some ⟨g, 0, none⟩) n c) xs) : B ≤ g ∧ g < w.heap.size := by
  obtain ⟨⟨cur, hc⟩, hg⟩ := owr_typed h (b := g) rfl
  exact ⟨hg, lt_of_block hc⟩

theorem oi1_of {w : World} {B : Nat} {v : Value} {out : List Int} {x : Int} (h : w.ownsRow B 2 1 v (out.length + 1) (out.map (Value.int .i64) ++ [Value.int .i64 x])) : ∃ g c, v = .slice (some ⟨g, 0, none⟩) (out.length + 1) c ∧ OI1 w B (.slice (some ⟨g, 0, none⟩) (out.length + 1) c) (out ++ [x]) := by
  have h2 : OI1 w B v (out ++ [x]) := by
    unfold OI1
    simpa using h
  rcases h2.2 with ⟨e, h0⟩ | ⟨g, cap, cur, e, r⟩
  · simp at h0
  · have e' : v = .slice (some ⟨g, 0, none⟩) (out.length + 1) cap := by simpa using e
    exact ⟨g, cap, e', by rw [← e']; exact h2⟩

theorem hole_set (old : List Int) (y v : Int) {k : Nat} (hk : k ≤ old.length) : (old.take k ++ y :: old.drop k).set k v = old.take k ++ v :: old.drop k := by
  rw [List.set_append_right _ _ (by simp; omega)]
  simp [Nat.min_eq_left hk]
theorem hole_step (old : List Int) {k : Nat} {z : Int} (hz : old[k]? = some z) : old.take (k + 1) ++ z :: old.drop (k + 1) = old.take k ++ z :: old.drop k := by
  have hk := (List.getElem?_eq_some_iff.1 hz).1
  rw [List.take_add_one, hz, List.drop_eq_getElem_cons hk]
  have e : old[k] = z := (List.getElem?_eq_some_iff.1 hz).2
  rw [e]
  simp
theorem hole_get (old : List Int) (y : Int) {k j : Nat} {z : Int} (hj : j < k) (hz : old[j]? = some z) (hk : k ≤ old.length) : (old.take k ++ y :: old.drop k)[j]? = some z := by
  rw [List.getElem?_append_left (by simp; omega), List.getElem?_take, if_pos hj]
  exact hz

def RetX (w : World) (r : List Int) (e : Ending) (w' : World) : Prop := ∃ v, e = .returned v ∧ OI1 w' w.heap.size v r ∧ Below w.heap.size w w'

theorem risI_step {ks : List Int} {k : Nat} {x : Int} (h : ks[k]? = some x) (out : List Int) : risI out (ks.take (k + 1)) = (if x ∈ risI out (ks.take k) then risI out (ks.take k) else insI (risI out (ks.take k)) x) := by
  have gen : ∀ (xs : List Int) (out : List Int), risI out (xs ++ [x]) = (if x ∈ risI out xs then risI out xs else insI (risI out xs) x) := by
    intro xs
    induction xs with
    | nil => intro out; rfl
    | cons y t ih => intro out; simp only [List.cons_append, risI]; exact ih _
  rw [List.take_add_one, h]
  exact gen _ out
theorem risI_mem : ∀ (xs out : List Int) (y : Int), y ∈ risI out xs ↔ y ∈ out ∨ y ∈ xs
  | [], out, y => by simp [risI]
  | x :: t, out, y => by
    rw [risI, risI_mem t]
    by_cases e : x ∈ out
    · rw [if_pos e]
      constructor
      · rintro (h | h)
        · exact .inl h
        · exact .inr (List.mem_cons_of_mem _ h)
      · rintro (h | h)
        · exact .inl h
        · rcases List.mem_cons.1 h with rfl | h
          · exact .inl e
          · exact .inr h
    · rw [if_neg e, insI_mem]
      constructor
      · rintro ((rfl | h) | h)
        · exact .inr (by simp)
        · exact .inl h
        · exact .inr (List.mem_cons_of_mem _ h)
      · rintro (h | h)
        · exact .inl (.inr h)
        · rcases List.mem_cons.1 h with rfl | h
          · exact .inl (.inl rfl)
          · exact .inr h
theorem risI_len : ∀ (xs out : List Int), (risI out xs).length ≤ out.length + xs.length
  | [], out => by simp [risI]
  | x :: t, out => by
    rw [risI]
    have := risI_len t (if x ∈ out then out else insI out x)
    have h2 := insI_len out x
    split at this
    · simp; rw [if_pos (by assumption)]; omega
    · simp; rw [if_neg (by assumption)]; omega

set_option maxHeartbeats 2000000 in
set_option maxRecDepth 100000 in
theorem l7Rising_any (a : Option Addr) (c n : Nat) (ks : List Int) (w : World) (hr : RdI w a ks) (hn : ks.length = n) :
    Calls Try.prog 58 #[.slice a n c] w (RetX w (risI [] ks)) := by
  have hl := hr.1
  rw [hn] at hl
  have HR := kide hr
  have HN := kide hn
  clear hr hn
  go_enter Try.func58, Try.ntmps58
  go_wp2_with fail
  have O0 := kide (OI1.empty w w.heap.size (Nat.le_refl _))
  have B0 : Hid (Below w.heap.size w (w.alloc (.cells #[] 2))) := (Below.refl _ _).alloc (Nat.le_refl _) _
  generalize w.alloc (Obj.cells #[] 2) = W at *
  go_loopw [3, 4] (fun v q wr => ∃ k : Nat, k ≤ n ∧ q = .int .i64 (k : Int) ∧ OI1 wr w.heap.size v (risI [] (ks.take k)) ∧ Below w.heap.size w wr) (fun _ q _ => n - (intOf q).toNat)
  case atStart => exact ⟨0, Nat.zero_le _, rfl, O0.out, B0.out⟩
  case round =>
    obtain ⟨k, hk, rfl, ho, hb⟩ := hrel
    have HO := kide ho
    have HB := kide hb
    clear O0 B0
    by_cases hlt : k < n
    · have i0 : (k : Int) < (n : Int) := by omega
      obtain ⟨x, gx⟩ : ∃ x, ks[k]? = some x := ⟨ks[k]'(by rw [HN.out]; exact hlt), List.getElem?_eq_getElem _⟩
      have hst := risI_step gx []
      have hmem : ∀ y ∈ risI [] (ks.take k), in64 y := fun y hy => by
        rcases (risI_mem _ _ _).1 hy with h | h
        · cases h
        · exact HR.out.2.1 y (List.mem_of_mem_take h)
      have hlen : (risI [] (ks.take k)).length ≤ 1048576 := by have h9 := risI_len (ks.take k) []; rw [List.length_take, List.length_nil] at h9; omega
      generalize risI [] (ks.take k) = out at *
      obtain ⟨av, cv, rfl⟩ := ho.form
      have HHAS := kide (fun u (hu : Below wr.heap.size wr u) => l1Has_any av cv out x u ((ho.later hu).rd hlen hmem))
      obtain ⟨-, -, h | ⟨b, o, rfl, hc⟩⟩ := HR.out.later hb
      · rw [h] at gx; simp at gx
      have p0 := hc k (by rw [HN.out]; exact hlt)
      rw [show ks.getD k 0 = x by simp [List.getD, gx]] at p0
      have HXK := kide (show ks.getD k 0 = x by simp [List.getD, gx])
      have HST := kide hst
      have lb := block_lt_of_cell p0
      obtain ⟨m, hm⟩ : ∃ m, out.length = m := ⟨_, rfl⟩
      rw [hm] at HHAS HO hlen ⊢
      have HM := kide hm
      clear hc hst ho hb gx hmem hm
      by_cases hin : x ∈ out
      · rw [decide_eq_true hin] at HHAS
        rw [if_pos hin] at HST
        go_wp2_with fail
        refine Calls.mono (HHAS.out _ (Below.refl _ _)) ?_
        rintro e w3 ⟨rfl, hw3⟩
        obtain rfl := hw3.symm
        go_wp2_with fail
        go_roundw
        case rel => exact ⟨k + 1, by omega, by go_num, by rw [HST.out]; exact HO.out, HB.out⟩
        case measure => simp [intOf]; omega
      · rw [decide_eq_false hin] at HHAS
        rw [if_neg hin] at HST
        have hba : Below wr.heap.size wr (wr.alloc (Obj.cells #[Value.int .i64 x] 2)) := (Below.refl _ _).alloc (Nat.le_refl _) _
        have hoa := HO.out.later hba
        unfold OI1 at hoa
        rw [show out.length = (out.map (Value.int .i64)).length by simp] at hoa
        have HOA := kide hoa
        have HBA := kide (HB.out.trans (hba.mono HB.out.size))
        have hzz := HB.out.size
        have hlm : (out.map (Value.int .i64)).length ≤ 1073741824 := by rw [List.length_map, HM.out]; omega
        clear hin hba hoa
        go_wp2_with (first
          | (go_at_call 70; refine Calls.mono (HHAS.out _ (Below.refl _ _)) ?_; rintro e w3 ⟨rfl, hw3⟩; obtain rfl := hw3.symm)
          | (at_builtin; refine wpList_appI8 rfl _ _ rfl w.heap.size _ (out.map (Value.int .i64)) x rfl HOA.out _ rfl (by simp) hlm (by simp; omega) ?_)
          | fail)
        intro v5 w5 ho5 hg5 hat5
        obtain ⟨g5, c5, rfl, ho5'⟩ := oi1_of ho5
        rw [HM.out]
        have HB5 := kide (Below.grown HBA.out hg5 (by simp; omega) (fun j hj => (owr_typed HOA.out hj).2))
        have p5 : w5.cell? ⟨b, o + k, none⟩ = some (Value.int .i64 x) := by
          have h9 := HR.out.later HB5.out
          obtain ⟨-, -, h | ⟨b', o', e', hc⟩⟩ := h9
          · exact absurd HN.out (by rw [h]; simp; omega)
          · cases e'
            rw [hc k (by rw [HN.out]; exact hlt), HXK.out]
        rw [HM.out] at ho5'
        have O5 := kide ho5'
        clear ho5 hg5 hat5 ho5' HOA HBA p0 HO HB
        go_wp2_with fail
        obtain ⟨wo, hwo⟩ : ∃ wo, wo = w5 := ⟨_, rfl⟩
        subst hwo
        have lb5 := block_lt_of_cell p5
        have HPW : Hid (∀ u, Below w.heap.size w u → u.cell? ⟨b, o + k, none⟩ = some (Value.int .i64 x)) := fun u hu => by
          obtain ⟨-, -, h | ⟨b', o', e', hc⟩⟩ := HR.out.later hu
          · exact absurd HN.out (by rw [h]; simp; omega)
          · cases e'
            rw [hc k (by rw [HN.out]; exact hlt), HXK.out]
        have HFIN : Hid (risI [] (ks.take (k + 1)) = out.take (posI out x m) ++ x :: out.drop (posI out x m)) := by show _ = _; rw [HST.out, insI, HM.out]
        clear HHAS HST lb p5 lb5
        have tail : Hid (∀ (q : Nat) (y : Int) (u : World), q ≤ m → OI1 u w.heap.size (.slice (some ⟨g5, 0, none⟩) (m + 1) c5) (out.take q ++ y :: out.drop q) → posI out x m = q → OI1 (u.setCell ⟨g5, q, none⟩ (.int .i64 x)) w.heap.size (.slice (some ⟨g5, 0, none⟩) (m + 1) c5) (risI [] (ks.take (k + 1)))) := fun q y u hq ho hp => by
          have h9 := ho.set (i := q) (by rw [List.length_append, List.length_cons, List.length_take, List.length_drop, HM.out]; omega) x
          rw [hole_set _ _ _ (by rw [HM.out]; exact hq)] at h9
          rw [HFIN.out, hp]
          exact h9
        go_loopw [5] (fun s wr => ∃ (q : Nat) (y : Int), q ≤ m ∧ s = .int .i64 (q : Int) ∧ OI1 wr w.heap.size (.slice (some ⟨g5, 0, none⟩) (m + 1) c5) (out.take q ++ y :: out.drop q) ∧ posI out x m = posI out x q ∧ Below w.heap.size w wr) (fun s _ => (intOf s).toNat)
        case atStart => exact ⟨m, x, Nat.le_refl _, rfl, by rw [List.take_of_length_le (by rw [HM.out]; exact Nat.le_refl _), List.drop_eq_nil_of_le (by rw [HM.out]; exact Nat.le_refl _)]; exact O5.out, rfl, HB5.out⟩
        case round =>
          obtain ⟨q, y, hq, rfl, hoq, hpq, hbq⟩ := hrel
          have OQ := kide hoq
          have BQ := kide hbq
          have HPQ := kide hpq
          have pw := HPW.out wr hbq
          have hg5 := hoq.lt
          have hlL : (out.take q ++ y :: out.drop q).length = m + 1 := by rw [List.length_append, List.length_cons, List.length_take, List.length_drop, HM.out]; omega
          have hm1 : (m : Int) + 1 ≤ 9223372036854775807 := by omega
          have hqm : (q : Int) < ((m + 1 : Nat) : Int) := by omega
          clear hpq
          by_cases hq0 : q = 0
          · subst hq0
            have fz := hoq.froz 0
            obtain ⟨y0, hy0⟩ : ∃ y0, (out.take 0 ++ y :: out.drop 0)[0]? = some y0 := ⟨_, List.getElem?_eq_getElem (by rw [hlL]; omega)⟩
            have cz := hoq.cell hy0
            have HT := kide (fun N => tail.out 0 y (wr.drewN N) (Nat.zero_le _) (hoq.later (below_drewN (Below.refl _ _) N)) (by rw [HPQ.out]; rfl))
            clear hoq hbq hy0 hlL
            go_wp2_with fail
            go_quiet (fail)
            go_wp2_with fail
            exact ⟨⟨k + 1, by omega, by go_num, HT.out _, (below_drewN BQ.out _).setCell hg5.1 _⟩, by simp [intOf]; omega⟩
          · obtain ⟨j, hj⟩ : ∃ j, q = j + 1 := ⟨q - 1, by omega⟩
            obtain ⟨z, hz⟩ : ∃ z, out[j]? = some z := ⟨out[j]'(by rw [HM.out]; omega), List.getElem?_eq_getElem _⟩
            have cj := hoq.cell (hole_get out y (k := q) (j := j) (by omega) hz (by rw [HM.out]; exact hq))
            obtain ⟨yq, hyq⟩ : ∃ yq, (out.take q ++ y :: out.drop q)[q]? = some yq := ⟨_, List.getElem?_eq_getElem (by rw [hlL]; omega)⟩
            have cq := hoq.cell hyq
            have fq := hoq.froz q
            have j1 : (q : Int) - 1 = (j : Int) := by omega
            have j2 : IntKind.i64.wrap (j : Int) = (j : Int) := by rw [IntKind.wrap_i64]; omega
            have j3 : (j : Int) < ((m + 1 : Nat) : Int) := by omega
            have q1 : 0 < q := by omega
            have HJ := kide hj
            have HZ := kide hz
            have hpos : posI out x q = if z > x then posI out x j else q := by
              rw [hj]
              show (if out.getD j 0 > x then posI out x j else j + 1) = _
              rw [show out.getD j 0 = z by simp [List.getD, hz]]
            clear hyq hlL hz hj
            by_cases hzx : x < z
            · have HT : Hid (∀ N, OI1 ((wr.drewN N).setCell ⟨g5, q, none⟩ (.int .i64 z)) w.heap.size (.slice (some ⟨g5, 0, none⟩) (m + 1) c5) (out.take j ++ z :: out.drop j)) := fun N => by
                have h9 := (hoq.later (below_drewN (Below.refl _ _) N)).set (i := q) (by rw [List.length_append, List.length_cons, List.length_take, List.length_drop, HM.out]; omega) z
                rw [hole_set _ _ _ (by rw [HM.out]; exact hq), HJ.out, hole_step out HZ.out] at h9
                rw [HJ.out]
                exact h9
              have HPJ : Hid (posI out x m = posI out x j) := by show _ = _; rw [HPQ.out, hpos, if_pos hzx]
              clear hoq hbq hpos
              go_wp2_with fail
              go_quiet (fail)
              go_wp2_with fail
              exact ⟨⟨j, z, by omega, rfl, HT.out _, HPJ.out, (below_drewN BQ.out _).setCell hg5.1 _⟩, by simp [intOf]; omega⟩
            · have HT := kide (fun N => tail.out q y (wr.drewN N) hq (hoq.later (below_drewN (Below.refl _ _) N)) (by rw [HPQ.out, hpos, if_neg hzx]))
              clear hoq hbq hpos
              go_wp2_with fail
              go_quiet (fail)
              simp only [show decide (x < z) = false from decide_eq_false (by omega)]
              clear j1 j2 j3 cj q1 hq0 hzx
              go_wp2_with fail
              exact ⟨⟨k + 1, by omega, by go_num, HT.out _, (below_drewN BQ.out _).setCell hg5.1 _⟩, by simp [intOf]; omega⟩
    · have e : k = n := by omega
      subst e
      rw [List.take_of_length_le (by rw [HN.out]; exact Nat.le_refl _)] at HO
      clear ho
      go_wp2_with fail
      go_ret
      exact ⟨_, rfl, HO.out, HB.out⟩


section
open Go.Lib Go.Sort
theorem rise_ext : ∀ l1 l2 : List Int, l1.Pairwise (· < ·) → l2.Pairwise (· < ·) → (∀ x, x ∈ l1 ↔ x ∈ l2) → l1 = l2
  | [], [], _, _, _ => rfl
  | [], y :: t, _, _, h => by have := (h y).2 (by simp); simp at this
  | x :: s, [], _, _, h => by have := (h x).1 (by simp); simp at this
  | x :: s, y :: t, h1, h2, h => by
    rw [List.pairwise_cons] at h1 h2
    have e : x = y := by
      rcases List.mem_cons.1 ((h x).1 (by simp)) with e | e
      · exact e
      · rcases List.mem_cons.1 ((h y).2 (by simp)) with e' | e'
        · exact e'.symm
        · have a := h2.1 x e
          have b := h1.1 y e'
          omega
    subst e
    congr 1
    refine rise_ext s t h1.2 h2.2 (fun z => ⟨fun hz => ?_, fun hz => ?_⟩)
    · rcases List.mem_cons.1 ((h z).1 (by simp [hz])) with e | e
      · have := h1.1 z hz; omega
      · exact e
    · rcases List.mem_cons.1 ((h z).2 (by simp [hz])) with e | e
      · have := h2.1 z hz; omega
      · exact e

theorem compact_facts (d : Array Int) (hs : ∀ i, i + 1 < d.size → d[i]! ≤ d[i + 1]!) : ∀ m, m ≤ d.size → (compactUpTo d m).Pairwise (· < ·) ∧ (∀ x, x ∈ compactUpTo d m ↔ ∃ j, j < m ∧ d[j]! = x) ∧ (0 < m → ∀ x ∈ compactUpTo d m, x ≤ d[m - 1]!)
  | 0, _ => ⟨by simp [compactUpTo], by simp [compactUpTo], by omega⟩
  | m + 1, hm => by
    obtain ⟨h1, h2, h3⟩ := compact_facts d hs m (by omega)
    rw [compactUpTo_succ]
    by_cases hk : keeps d m = true
    · rw [if_pos hk]
      have hall : ∀ x ∈ compactUpTo d m, x < d[m]! := by
        intro x hx
        by_cases h0 : m = 0
        · subst h0; simp [compactUpTo] at hx
        · have a := h3 (by omega) x hx
          have b := hs (m - 1) (by omega)
          rw [show m - 1 + 1 = m by omega] at b
          simp [keeps, h0] at hk
          omega
      refine ⟨?_, fun x => ?_, fun _ x hx => ?_⟩
      · rw [List.pairwise_append]
        refine ⟨h1, by simp, fun a ha b hb => ?_⟩
        simp at hb
        subst hb
        exact hall a ha
      · rw [List.mem_append, h2 x]
        simp
        constructor
        · rintro (⟨j, hj, e⟩ | e)
          · exact ⟨j, by omega, e⟩
          · exact ⟨m, by omega, e.symm⟩
        · rintro ⟨j, hj, e⟩
          by_cases hjm : j = m
          · subst hjm; exact .inr e.symm
          · exact .inl ⟨j, by omega, e⟩
      · simp at hx ⊢
        rcases hx with hx | rfl
        · exact Int.le_of_lt (hall x hx)
        · exact Int.le_refl _
    · rw [if_neg hk, List.append_nil]
      have h0 : m ≠ 0 := fun h => hk (by subst h; simp [keeps])
      have he : d[m]! = d[m - 1]! := by
        have := hk
        simp [keeps, h0] at this
        exact this
      refine ⟨h1, fun x => ?_, fun _ x hx => ?_⟩
      · rw [h2 x]
        constructor
        · rintro ⟨j, hj, e⟩
          exact ⟨j, by omega, e⟩
        · rintro ⟨j, hj, e⟩
          by_cases hjm : j = m
          · subst hjm; exact ⟨j - 1, by omega, by rw [← he]; exact e⟩
          · exact ⟨j, by omega, e⟩
      · have := h3 (by omega) x hx
        simp
        rw [he]
        exact this

theorem sort_compact (zs : List Int) : (compact (zs.mergeSort fun x y => decide (x ≤ y))).Pairwise (· < ·) ∧ ∀ x, x ∈ compact (zs.mergeSort fun x y => decide (x ≤ y)) ↔ x ∈ zs := by
  have hso : (zs.mergeSort fun x y => decide (x ≤ y)).Pairwise (fun x y => decide (x ≤ y) = true) := List.pairwise_mergeSort (le := fun x y : Int => decide (x ≤ y)) (by intro a b c; simp; omega) (by intro a b; simp; omega) zs
  have hmem : ∀ x, x ∈ (zs.mergeSort fun x y => decide (x ≤ y)) ↔ x ∈ zs := fun x => List.mem_mergeSort
  generalize (zs.mergeSort fun x y => decide (x ≤ y)) = ys at hso hmem
  have hs : ∀ i, i + 1 < ys.toArray.size → ys.toArray[i]! ≤ ys.toArray[i + 1]! := by
    intro i hi
    have hi' : i + 1 < ys.length := by simpa using hi
    have := (List.pairwise_iff_getElem.1 hso) i (i + 1) (by omega) hi' (by omega)
    simp at this
    rw [getElem!_pos _ i (by simp; omega), getElem!_pos _ (i + 1) (by simp; omega)]
    simpa using this
  obtain ⟨h1, h2, -⟩ := compact_facts ys.toArray hs ys.length (by simp)
  refine ⟨h1, fun x => ?_⟩
  rw [← hmem x]
  show x ∈ compactUpTo _ _ ↔ _
  rw [h2 x]
  constructor
  · rintro ⟨j, hj, e⟩
    rw [getElem!_pos _ j (by simpa using hj)] at e
    subst e
    simp
  · intro hx
    obtain ⟨j, hj, e⟩ := List.mem_iff_getElem.1 hx
    exact ⟨j, hj, by rw [getElem!_pos _ j (by simpa using hj)]; simpa using e⟩
theorem sort_own (w : World) (B : Nat) (v : Value) (xs : List Int) (h : OW w B v xs) (hl : xs.length ≤ 1048576) :
    Calls Try.prog 73 #[v] w fun e w' => e = .returned (.tuple #[]) ∧ OW w' B v (xs.mergeSort fun x y => decide (x ≤ y)) ∧ w.grownBy w' v.ownBlock := by
  rcases h.2 with ⟨rfl, hn⟩ | ⟨g, cap, cur, rfl, hB, hh, hcap, hmx, hsz, htk⟩
  · have e : xs = [] := List.eq_nil_of_length_eq_zero hn
    subst e
    refine Calls.mono (AnyM.slices_Sort_int_none Try.sortV none 0 w) ?_
    rintro e w' ⟨rfl, rfl⟩
    exact ⟨rfl, by simpa using h, World.grownBy.refl _ _⟩
  · have hH : Holds (Value.int .i64) w g 0 xs.toArray := holds_of_blockI hh (by simpa using htk)
    have hlt : g < w.heap.size := lt_of_block hh
    refine Calls.mono (AnyM.slices_Sort_int Try.sortV g 0 cap xs w hH hlt (by omega)) ?_
    rintro e w' ⟨rfl, n, os, rfl⟩
    refine ⟨rfl, ?_, grownBy_sortedI _⟩
    have hs := ownsRow_sortedI (n := n) (os := os) (ts := xs.mergeSort fun x y => decide (x ≤ y)) (ss := xs) (base := B) (List.length_mergeSort xs) hB hh hcap hmx hsz
    unfold OW
    rw [List.length_mergeSort]
    exact hs

theorem compact_own (w : World) (B : Nat) (v : Value) (xs : List Int) (h : OW w B v xs) (hl : xs.length ≤ 1048576) :
    Calls Try.prog 74 #[v] w fun e w' => ∃ v', e = .returned v' ∧ OW w' B v' (compact xs) ∧ w.grownBy w' v.ownBlock := by
  rcases h.2 with ⟨rfl, hn⟩ | ⟨g, cap, cur, rfl, hB, hh, hcap, hmx, hsz, htk⟩
  · have e : xs = [] := List.eq_nil_of_length_eq_zero hn
    subst e
    refine Calls.mono (AnyG.slices_Compact_int_empty Try.compV none 0 w) ?_
    rintro e w' ⟨rfl, rfl⟩
    exact ⟨_, rfl, by simpa [compact, compactUpTo] using h, World.grownBy.refl _ _⟩
  · have hH : Holds (Value.int .i64) w g 0 xs.toArray := holds_of_blockI hh (by simpa using htk)
    refine Calls.mono (AnyG.slices_Compact_int Try.compV g 0 cap xs w hH (by omega) (by omega)) ?_
    rintro e w' ⟨rfl, q, rfl⟩
    have hle := compact_length_le xs
    have hc := ownsRow_putRow (q := q) (k := (compact xs).length) (ys := compact xs ++ List.replicate (xs.length - (compact xs).length) 0) h (by simp; omega) (by omega)
    rw [List.take_left] at hc
    refine ⟨_, rfl, hc, ?_⟩
    refine ⟨rfl, rfl, rfl, by simp [putRow, mapBlock, Sort.ahead], fun k hk hne => ?_⟩
    have : g ≠ k := fun e => hne (by rw [e]; rfl)
    simp [putRow, mapBlock, Sort.ahead, Array.getElem?_modify, this]


end
def risL (zs : List Int) : List Int := Go.Lib.compact (zs.mergeSort fun x y => decide (x ≤ y))
theorem posI_above (out : List Int) (x : Int) : ∀ n j, posI out x n ≤ j → j < n → x < out.getD j 0
  | 0, j, _, h => by omega
  | n + 1, j, h1, h2 => by
    unfold posI at h1
    split at h1
    · rename_i h
      by_cases e : j = n
      · subst e; exact h
      · exact posI_above out x n j h1 (by omega)
    · omega

theorem posI_last (out : List Int) (x : Int) : ∀ n, posI out x n = 0 ∨ out.getD (posI out x n - 1) 0 ≤ x
  | 0 => .inl rfl
  | n + 1 => by
    unfold posI
    split
    · exact posI_last out x n
    · rename_i h
      refine .inr ?_
      rw [Nat.add_sub_cancel]
      omega

theorem insI_rise {out : List Int} {x : Int} (h : out.Pairwise (· < ·)) (hx : x ∉ out) : (insI out x).Pairwise (· < ·) := by
  have hab := posI_above out x out.length
  have hla := posI_last out x out.length
  have hle := posI_le out x out.length
  unfold insI
  generalize posI out x out.length = p at *
  have hup : ∀ y ∈ out.drop p, x < y := fun y hy => by
    obtain ⟨j, hj, e⟩ := List.mem_iff_getElem.1 hy
    have h1 : p + j < out.length := by simp at hj; omega
    have h2 := hab (p + j) (by omega) h1
    rw [List.getElem_drop] at e
    rw [List.getD_eq_getElem?_getD, List.getElem?_eq_getElem h1, Option.getD_some, e] at h2
    exact h2
  have hdn : ∀ y ∈ out.take p, y < x := fun y hy => by
    have hym := List.mem_of_mem_take hy
    obtain ⟨j, hj, e⟩ := List.mem_iff_getElem.1 hy
    rw [List.getElem_take] at e
    have hj2 : j < p := by simp at hj; omega
    have hp : p - 1 < out.length := by omega
    have h2 : out[p - 1] ≤ x := by
      rcases hla with h0 | h0
      · omega
      · rw [List.getD_eq_getElem?_getD, List.getElem?_eq_getElem hp, Option.getD_some] at h0
        exact h0
    have h3 : y ≤ out[p - 1] := by
      by_cases ej : j = p - 1
      · subst ej; omega
      · have := (List.pairwise_iff_getElem.1 h) j (p - 1) (by omega) hp (by omega)
        omega
    have h4 : y ≠ x := fun e => hx (e ▸ hym)
    omega
  refine List.pairwise_append.2 ⟨h.sublist (List.take_sublist _ _), List.pairwise_cons.2 ⟨hup, h.sublist (List.drop_sublist _ _)⟩, fun a ha b hb => ?_⟩
  rcases List.mem_cons.1 hb with rfl | hb
  · exact hdn a ha
  · have := hdn a ha
    have := hup b hb
    omega

theorem risI_rise : ∀ (xs out : List Int), out.Pairwise (· < ·) → (risI out xs).Pairwise (· < ·)
  | [], _, h => h
  | x :: t, out, h => by
    rw [risI]
    by_cases e : x ∈ out
    · rw [if_pos e]; exact risI_rise t out h
    · rw [if_neg e]; exact risI_rise t _ (insI_rise h e)

theorem ris_eq {xs ys : List Int} (h : ∀ x, x ∈ xs ↔ x ∈ ys) : risI [] xs = risL ys := by
  refine rise_ext _ _ (risI_rise xs [] List.Pairwise.nil) (sort_compact ys).1 fun x => ?_
  rw [risI_mem]
  unfold risL
  rw [(sort_compact ys).2 x, ← h x]
  simp


end Go.Proofs.Ytakicdlfolhhcaa
