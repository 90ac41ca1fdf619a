/- Rows of bytes, and the writer that SaveSession fills: take, fail, put. -/
import Derived.Test.YtofdkdaehhpgbaaGreatDoorZRX
import Derived.Test.YtofdkdaehhpgbaaGreatDoorLTB
import Derived.Test.YtofdkdaehhpgbaaGreatDoorZK
import Derived.Lib.AppendStr
import Derived.Laws.OwnMore
import Derived.Laws.CopyRow
import Derived.Laws.IdiomCopy
import Derived.Handy
namespace Go.Proofs.YtofdkdaehhpgbaaGreatDoor
set_option linter.unusedVariables false
set_option linter.unusedSimpArgs false
open Go.RowKit

theorem Tryz.infoU8 : (Tryz.prog.info? 5).map (fun i => (i.zero, i.size, i.bytes)) = some (some (.int .u8 0), 1, 1) := by kernel_rfl
theorem Tryz.sizeU8 : (Tryz.prog.info? 5).map (·.size) = some 1 := by kernel_rfl
def u8s (bs : List Nat) : List Value := bs.map fun (b : Nat) => Value.int .u8 (b : Int)
theorem u8s_len (bs : List Nat) : (u8s bs).length = bs.length := by simp [u8s]
theorem u8s_app (a b : List Nat) : u8s (a ++ b) = u8s a ++ u8s b := by simp [u8s]
theorem u8s_one (bs : List Nat) : ∀ u ∈ u8s bs, u.oneCell' = true := fun u hu => by
  simp [u8s] at hu
  obtain ⟨_, _, rfl⟩ := hu
  rfl
/-- Bytes that can be read, wherever they lie. -/
def RdB (w : World) (a : Option Addr) (bs : List Nat) : Prop := bs = [] ∨ ∃ b o, a = some ⟨b, o, none⟩ ∧ ∀ j u, (u8s bs)[j]? = some u → w.cell? ⟨b, o + j, none⟩ = some u
theorem RdB.later {w w' : World} {a : Option Addr} {bs : List Nat} (h : RdB w a bs) (hb : Below w.heap.size w w') : RdB w' a bs := by
  rcases h with h | ⟨b, o, rfl, hc⟩
  · exact .inl h
  · exact .inr ⟨b, o, rfl, fun j u hj => by rw [kcell hb _ _ (block_lt_of_cell (hc j u hj))]; exact hc j u hj⟩
/-- Bytes in a row of the call's own. -/
def OwB (w : World) (base : Nat) (v : Value) (bs : List Nat) : Prop := w.ownsRow base 5 1 v bs.length (u8s bs)
theorem OwB.nil (w : World) (B : Nat) : OwB w B (.slice none 0 0) [] := ⟨rfl, .inl ⟨rfl, rfl⟩⟩
theorem OwB.empty (w : World) (B : Nat) (h : B ≤ w.heap.size) : OwB (w.alloc (.cells #[] 5)) B (.slice (some ⟨w.heap.size, 0, none⟩) 0 0) [] := World.ownsRow_made w #[] 0 h (Nat.zero_le _) (by simp)
theorem OwB.lt {w : World} {B : Nat} {v : Value} {l : List Nat} (h : OwB w B v l) {b : Nat} (hb : v.ownBlock = some b) : B ≤ b ∧ b < w.heap.size := by
  rcases h.2 with ⟨rfl, -⟩ | ⟨g, cap, cur, rfl, hg, hh, -⟩
  · cases hb
  · cases hb
    exact ⟨hg, lt_of_block hh⟩
theorem OwB.later {w w' : World} {B : Nat} {v : Value} {l : List Nat} (h : OwB w B v l) (hb : Below w.heap.size w w') : OwB w' B v l := by
  refine ⟨h.1, ?_⟩
  rcases h.2 with h0 | ⟨g, cap, cur, rfl, hg, hh, r⟩
  · exact .inl h0
  · exact .inr ⟨g, cap, cur, rfl, hg, (hb.block g (lt_of_block hh)).trans hh, r⟩
theorem OwB.bel {w w' : World} {B : Nat} {v : Value} {l : List Nat} (h : OwB w B v l) (hg : w.grownBy w' v.ownBlock) (hB : B ≤ w.heap.size) : Below B w w' :=
  ⟨hg.os, hg.tape, hg.output, hg.size, fun k hk => hg.block k (by omega) (fun e => by have := (h.lt e.symm).1; omega)⟩
theorem OwB.rd {w : World} {B : Nat} {v : Value} {l : List Nat} (h : OwB w B v l) : ∃ a c, v = .slice a l.length c ∧ RdB w a l := by
  rcases h.2 with ⟨rfl, h0⟩ | ⟨g, cap, cur, rfl, hg, hh, hc1, hc2, hsz, hcur⟩
  · have e := List.eq_nil_of_length_eq_zero h0
    subst e
    exact ⟨none, 0, rfl, .inl rfl⟩
  · refine ⟨some ⟨g, 0, none⟩, cap, rfl, .inr ⟨g, 0, rfl, fun j u hj => ?_⟩⟩
    have hjl := (List.getElem?_eq_some_iff.1 hj).1
    rw [u8s_len] at hjl
    rw [Nat.zero_add, cell_of_row w g _ cur _ _ hh]
    rw [← hcur, List.getElem?_take, if_pos (by omega)] at hj
    simpa using hj

/-- Bytes appended to a row of the call's own. -/
theorem wpList_appB (w : World) {ops : Array Oper} {rest : List Oper} {o : Oper} {a : Act} {Q : Exit → Act → World → Prop} (hgd : o.guard = none) (s x : Operand)
    (ho : o.op = .call { callee := .builtin .append, args := #[s, x], argTypes := #[37, 37] })
    (base : Nat) (v : Value) (bs : List Nat) (y : Nat) (hs : a.eval s = v) (hown : OwB w base v bs) (g : Nat) (hx : a.eval x = .slice (some ⟨g, 0, none⟩) 1 1)
    (hnew : w.cell? ⟨g, 0, none⟩ = some (.int .u8 (y : Int))) (hl : bs.length ≤ 1099511627776) (hbase : base ≤ w.heap.size)
    (h : ∀ v' w', OwB w' base v' (bs ++ [y]) → w.grownBy w' v.ownBlock → wpList Tryz.prog ops Q rest (a.put o.dst v') w') : wpList Tryz.prog ops Q (o :: rest) a w := by
  obtain ⟨i0, hi, hz0, hz1, hz2⟩ := info_parts Tryz.infoU8
  refine wpList_append_own w hgd s x 37 ho base 5 i0 (.int .u8 0) 1 1 Tryz.underlying37 hi hz0 hz1 hz2 rfl (by decide) v bs.length (u8s bs) hs hown ⟨g, 0, none⟩ 1 1 [.int .u8 (y : Int)] hx rfl ?_ ?_ ?_ ?_ hbase ?_
  · intro j u hj
    match j, hj with
    | 0, hj => simp at hj; subst hj; exact hnew
    | j + 1, hj => simp at hj
  · intro u hu
    simp at hu
    subst hu
    rfl
  · unfold maxLen; omega
  · omega
  · intro v' w' h1 h2 _
    refine h v' w' ?_ h2
    unfold OwB
    simpa [u8s] using h1

theorem outW {B1 B2 C1 C2 : Nat} {w w' : World} (h : Out B1 B2 w w') (h1 : C1 ≤ B1) (h2 : B2 ≤ C2) : Out C1 C2 w w' := ⟨h.1, h.2.1, h.2.2.1, h.2.2.2.1, fun k hk hd => h.2.2.2.2 k hk (by omega)⟩
theorem outB {B1 B2 : Nat} {w w' : World} (h : Below w.heap.size w w') : Out B1 B2 w w' := ⟨h.os, h.tape, h.output, h.size, fun k hk _ => h.block k hk⟩
theorem Bz.outs {u u' : World} {b B1 B2 : Nat} {cs : Array Value} {t : TypeId} (h : Bz u b cs t) (ho : Out B1 B2 u u') (hd : b < B1 ∨ B2 ≤ b) : Bz u' b cs t := (ho.2.2.2.2 b h.lt hd).trans h
/-- What is written, or that it was too much. -/
def putS (st : Option (List Nat)) (r : List Nat) : Option (List Nat) := match st with
  | none => none
  | some bs => if bs.length + r.length ≤ 60000 then some (bs ++ r) else none
theorem putS_nil (st : Option (List Nat)) (h : ∀ bs, st = some bs → bs.length ≤ 60000) : putS st [] = st := by
  cases st with
  | none => rfl
  | some bs => simp [putS, h bs rfl]
theorem putS_two (st : Option (List Nat)) (a b : List Nat) : putS (putS st a) b = putS st (a ++ b) := by
  cases st with
  | none => rfl
  | some bs =>
    unfold putS
    by_cases h : bs.length + a.length ≤ 60000
    · simp only [if_pos h, List.length_append, List.append_assoc, Nat.add_assoc]
    · simp only [if_neg h, List.length_append]
      rw [if_neg (by omega)]
theorem putS_none (a : List Nat) : putS none a = none := rfl

/-- The writer's box, and its bytes: a row of 60000 in the block G, the box behind it. -/
def Wst (G : Nat) (st : Option (List Nat)) (w : World) : Prop := ∃ (p : Nat) (code : Int) (buf : Array Value), Bz w (G + 1) #[.slice (some ⟨G, 0, none⟩) 60000 60000, .int .i64 (p : Int), .int .i64 code, .int .i64 1] 74 ∧ Bz w G buf 5 ∧ buf.size = 60000 ∧ p ≤ 60000 ∧ (st = none ∧ code = 1 ∨ ∃ bs, st = some bs ∧ code = 0 ∧ p = bs.length ∧ buf.toList.take p = u8s bs)
theorem Wst.later {G : Nat} {st : Option (List Nat)} {w w' : World} (h : Wst G st w) (hb : Below w.heap.size w w') : Wst G st w' := by
  obtain ⟨p, code, buf, h1, h2, h3⟩ := h
  exact ⟨p, code, buf, h1.later hb, h2.later hb, h3⟩
theorem Wst.lt {G : Nat} {st : Option (List Nat)} {w : World} (h : Wst G st w) : G + 1 < w.heap.size := by
  obtain ⟨p, code, buf, h1, -⟩ := h
  exact h1.lt
theorem Wst.le {G : Nat} {st : Option (List Nat)} {w : World} (h : Wst G st w) : ∀ bs, st = some bs → bs.length ≤ 60000 := fun bs e => by
  obtain ⟨p, code, buf, -, -, -, hp, ⟨h, -⟩ | ⟨bs', e', -, hl, -⟩⟩ := h
  · rw [h] at e; cases e
  · rw [e'] at e; cases e; omega
theorem Wst.nilput {G : Nat} {st : Option (List Nat)} {w : World} (h : Wst G st w) : putS st [] = st := putS_nil st h.le
/-- What a writer's function leaves. -/
def RetW (G : Nat) (st : Option (List Nat)) (w : World) (e : Ending) (w' : World) : Prop := e = .returned (.tuple #[]) ∧ Wst G st w' ∧ Out G (G + 2) w w'

theorem fail_any (b : Nat) (d : Value) (p : Int) (w : World) (h : Bz w b #[d, .int .i64 p, .int .i64 0, .int .i64 1] 74) :
    Calls Tryz.prog 92 #[.pointer (some ⟨b, 0, none⟩), .int .i64 1] w fun e w' => e = .returned (.tuple #[]) ∧ w' = w.setCell ⟨b, 2, none⟩ (.int .i64 1) := by
  have c2 := h.cell 2
  have f2 := h.froz 2
  simp at c2
  go_enter Tryz.func92, Tryz.ntmps92
  go_wp2_with fail
  exact bodyPost_end (v := .tuple #[]) (by simp [results, Tryz.results92, go_sem]) rfl ⟨rfl, rfl⟩

/-- What take leaves where there is room. -/
def RetK (G m p q : Nat) (w : World) (e : Ending) (w' : World) : Prop := ∃ a, e = .returned (.slice (some a) m m) ∧ (m = 0 ∨ a = ⟨G, p, none⟩) ∧ Bz w' (G + 1) #[.slice (some ⟨G, 0, none⟩) 60000 60000, .int .i64 (q : Int), .int .i64 0, .int .i64 1] 74 ∧ Out (G + 1) (G + 2) w w'
set_option maxHeartbeats 1000000 in
/-- There is room. -/
theorem take_room (G m p q : Nat) (w : World) (h : Bz w (G + 1) #[.slice (some ⟨G, 0, none⟩) 60000 60000, .int .i64 (p : Int), .int .i64 0, .int .i64 1] 74) (hq : p + m = q) (hm : q ≤ 60000) :
    Calls Tryz.prog 69 #[.pointer (some ⟨G + 1, 0, none⟩), .int .i64 (m : Int)] w fun e w' => RetK G m p q w e w' := by
  have c0 := h.cell 0
  have c1 := h.cell 1
  have c2 := h.cell 2
  have c3 := h.cell 3
  have f1 := h.froz 1
  simp at c0 c1 c2 c3
  have h60 : ((60000 : Int) - (p : Int)) = ((60000 - p : Nat) : Int) := by omega
  have i0 : ¬ ((60000 - p : Nat) : Int) < (m : Int) := by omega
  have j1 : (p : Int) + (m : Int) = (q : Int) := by omega
  have HQ := kide hq
  have HM := kide hm
  have H := kide h
  clear hq hm h
  go_enter Tryz.func69, Tryz.ntmps69
  go_wp2_with fail
  go_quiet (fail)
  go_wp2_with fail
  have X : Hid (Bz ((w.drewN nq).setCell ⟨G + 1, 1, none⟩ (.int .i64 (q : Int))) (G + 1) #[.slice (some ⟨G, 0, none⟩) 60000 60000, .int .i64 (q : Int), .int .i64 0, .int .i64 1] 74) := (show Bz (w.drewN nq) _ _ _ from H.out).set 1 _
  obtain ⟨W, hW⟩ : ∃ W, (w.drewN nq).setCell ⟨G + 1, 1, none⟩ (.int .i64 (q : Int)) = W := ⟨_, rfl⟩
  have HW := kide hW
  rw [hW] at X
  rw [hW]
  have HO : Hid (Out (G + 1) (G + 2) w W) := by
    rw [← HW.out]
    exact (show Out (G + 1) (G + 2) w (w.drewN nq) from outB (below_drewN (Below.refl _ _) _)).trans (Out.setc _ (G + 1) 1 _)
  clear c0 c1 c2 c3 f1 h60 i0 j1 hW
  have d0 := X.out.cell 0
  have d1 := X.out.cell 1
  simp at d0 d1
  have k1 : p ≤ q := by have := HQ.out; omega
  have k2 : q ≤ 60000 := HM.out
  go_quiet (fail)
  obtain ⟨a, ha, ha2⟩ : ∃ a : Addr, (if q = p then some (⟨G, 0, none⟩ : Addr) else some ⟨G, p, none⟩) = some a ∧ (m = 0 ∨ a = ⟨G, p, none⟩) := by
    by_cases h : q = p
    · exact ⟨_, if_pos h, .inl (by have := HQ.out; omega)⟩
    · exact ⟨_, if_neg h, .inr rfl⟩
  rw [ha, show q - p = m by have := HQ.out; omega]
  clear d0 d1 k1 k2 ha
  go_wp2_with fail
  go_ret
  exact ⟨a, rfl, ha2, X.out, HO.out.trans (outB (below_drewN (Below.refl _ _) _))⟩

set_option maxHeartbeats 1000000 in
/-- There is none. -/
theorem take_full (G m p : Nat) (w : World) (h : Bz w (G + 1) #[.slice (some ⟨G, 0, none⟩) 60000 60000, .int .i64 (p : Int), .int .i64 0, .int .i64 1] 74) (hp : p ≤ 60000) (hm : 60000 < p + m) (hm2 : m ≤ 1048576) :
    Calls Tryz.prog 69 #[.pointer (some ⟨G + 1, 0, none⟩), .int .i64 (m : Int)] w fun e w' => e = .returned (.slice none 0 0) ∧ Bz w' (G + 1) #[.slice (some ⟨G, 0, none⟩) 60000 60000, .int .i64 (p : Int), .int .i64 1, .int .i64 1] 74 ∧ Out (G + 1) (G + 2) w w' := by
  have c0 := h.cell 0
  have c1 := h.cell 1
  have c2 := h.cell 2
  have c3 := h.cell 3
  simp at c0 c1 c2 c3
  have h60 : ((60000 : Int) - (p : Int)) = ((60000 - p : Nat) : Int) := by omega
  have i0 : ((60000 - p : Nat) : Int) < (m : Int) := by omega
  have H := kide h
  clear hm h
  go_enter Tryz.func69, Tryz.ntmps69
  go_wp2_with fail
  go_quiet (fail)
  go_wp2_with fail
  refine Calls.mono (fail_any (G + 1) _ _ _ (show Bz (w.drewN nq) _ _ _ from H.out)) ?_
  rintro e w1 ⟨rfl, hw⟩
  have X : Hid (Bz w1 (G + 1) #[.slice (some ⟨G, 0, none⟩) 60000 60000, .int .i64 (p : Int), .int .i64 1, .int .i64 1] 74) := by rw [hw]; exact (show Bz (w.drewN nq) _ _ _ from H.out).set 2 _
  have HO : Hid (Out (G + 1) (G + 2) w w1) := by
    rw [hw]
    exact (show Out (G + 1) (G + 2) w (w.drewN nq) from outB (below_drewN (Below.refl _ _) _)).trans (Out.setc _ (G + 1) 2 _)
  clear hw c0 c1 c2 c3 h60 i0
  have d2 := X.out.cell 2
  simp at d2
  go_wp2_with fail
  go_ret
  exact ⟨rfl, X.out, HO.out⟩

set_option maxHeartbeats 1000000 in
/-- It was too much already. -/
theorem take_none (G m p : Nat) (w : World) (h : Bz w (G + 1) #[.slice (some ⟨G, 0, none⟩) 60000 60000, .int .i64 (p : Int), .int .i64 1, .int .i64 1] 74) (hp : p ≤ 60000) (hm2 : m ≤ 1048576) :
    Calls Tryz.prog 69 #[.pointer (some ⟨G + 1, 0, none⟩), .int .i64 (m : Int)] w fun e w' => e = .returned (.slice none 0 0) ∧ Bz w' (G + 1) #[.slice (some ⟨G, 0, none⟩) 60000 60000, .int .i64 (p : Int), .int .i64 1, .int .i64 1] 74 ∧ Out (G + 1) (G + 2) w w' := by
  have c0 := h.cell 0
  have c1 := h.cell 1
  have c2 := h.cell 2
  have c3 := h.cell 3
  simp at c0 c1 c2 c3
  have h60 : ((60000 : Int) - (p : Int)) = ((60000 - p : Nat) : Int) := by omega
  have H := kide h
  clear h
  by_cases i0 : ((60000 - p : Nat) : Int) < (m : Int)
  · go_enter Tryz.func69, Tryz.ntmps69
    go_wp2_with fail
    go_quiet (fail)
    go_wp2_with fail
    have d2 := (show Bz (w.drewN nq) _ _ _ from H.out).cell 2
    simp at d2
    have hfl : Calls Tryz.prog 92 #[.pointer (some ⟨G + 1, 0, none⟩), .int .i64 1] (w.drewN nq) fun e w' => e = .returned (.tuple #[]) ∧ w' = w.drewN nq := by
      clear c0 c1 c3 h60 H c2 i0
      go_enter Tryz.func92, Tryz.ntmps92
      go_wp2_with fail
      exact bodyPost_end (v := .tuple #[]) (by simp [results, Tryz.results92, go_sem]) rfl ⟨rfl, rfl⟩
    refine Calls.mono hfl ?_
    rintro e w1 ⟨rfl, hw⟩
    obtain rfl := hw.symm
    clear hw hfl
    go_wp2_with fail
    go_ret
    exact ⟨rfl, H.out, outB (below_drewN (Below.refl _ _) _)⟩
  · go_enter Tryz.func69, Tryz.ntmps69
    go_wp2_with fail
    go_quiet (fail)
    go_wp2_with fail
    go_ret
    exact ⟨rfl, H.out, outB (below_drewN (Below.refl _ _) _)⟩

end Go.Proofs.YtofdkdaehhpgbaaGreatDoor
