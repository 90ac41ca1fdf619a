/- Drawn variables. -/
import Derived.Test.YtnfagdfaphihhaaYR
import Derived.Test.YtnfagdfaphihhaaKA
import Derived.Deep.AppendLies
import Derived.Handy
namespace Go.Proofs.Ytnfagdfaphihhaa
set_option linter.unusedVariables false
set_option linter.unusedSimpArgs false
open Go.RowKit

def dcc : List Dc → List Value
  | [] => []
  | x :: t => .string x.1 :: .int .i64 x.2 :: dcc t
theorem dcc_len (l : List Dc) : (dcc l).length = l.length * 2 := by
  induction l with
  | nil => rfl
  | cons x t ih => simp [dcc, ih]; omega
theorem dcc_append (l m : List Dc) : dcc (l ++ m) = dcc l ++ dcc m := by
  induction l with
  | nil => rfl
  | cons x t ih => simp [dcc, ih]
theorem dcc_get : ∀ {l : List Dc} {i : Nat} {x : Dc}, l[i]? = some x → (dcc l)[i * 2]? = some (.string x.1) ∧ (dcc l)[i * 2 + 1]? = some (.int .i64 x.2)
  | y :: t, 0, x, h => by simp at h; subst h; simp [dcc]
  | y :: t, i + 1, x, h => by
    have := dcc_get (l := t) (i := i) (x := x) (by simpa using h)
    rw [show (i + 1) * 2 = i * 2 + 1 + 1 by omega]
    simpa [dcc] using this

/-- An owned row of variables. -/
def OD (w : World) (B : Nat) (v : Value) (l : List Dc) : Prop := w.ownsRow B 34 2 v l.length (dcc l)
theorem OD.move {w w' : World} {B : Nat} {v : Value} {l : List Dc} (h : OD w B v l) (hk : ∀ b, v.ownBlock = some b → w'.heap[b]? = w.heap[b]?) : OD w' B v l := by
  refine ⟨h.1, ?_⟩
  rcases h.2 with h0 | ⟨g, cap, cur, rfl, hg, hh, r⟩
  · exact .inl h0
  · exact .inr ⟨g, cap, cur, rfl, hg, (hk g rfl).trans hh, r⟩
theorem OD.lt {w : World} {B : Nat} {v : Value} {l : List Dc} (h : OD w B v l) {b : Nat} (hb : v.ownBlock = some b) : B ≤ b ∧ b < w.heap.size := by
  rcases h.2 with ⟨rfl, -⟩ | ⟨g, cap, cur, rfl, hg, hh, -⟩
  · cases hb
  · cases hb
    exact ⟨hg, lt_of_block hh⟩
theorem OD.far {w w' : World} {B : Nat} {v : Value} {l : List Dc} {β : Nat} (h : OD w B v l) (hd : Dw β w w') (hβ : β < B) : OD w' B v l := h.move fun b hb => hd.block b (h.lt hb).2 (fun e => by cases e; have := (h.lt hb).1; omega)
theorem OD.later {w w' : World} {B : Nat} {v : Value} {l : List Dc} (h : OD w B v l) (hb : Below w.heap.size w w') : OD w' B v l := h.move fun b hb' => hb.block b (h.lt hb').2
theorem OD.empty (w : World) (B : Nat) (h : B ≤ w.heap.size) : OD (w.alloc (.cells #[] 34)) B (.slice (some ⟨w.heap.size, 0, Option.none⟩) 0 0) [] := World.ownsRow_made w #[] 0 h (Nat.zero_le _) (by simp)
theorem OD.rd {w : World} {B : Nat} {v : Value} {l : List Dc} (h : OD w B v l) (hl : l.length ≤ 1048576) (hx : ∀ x ∈ l, in64 x.2 ∧ x.1.size ≤ 1048576) : ∃ a c, v = .slice a l.length c ∧ RdD w a l := by
  rcases h.2 with ⟨rfl, h0⟩ | ⟨g, cap, cur, rfl, hg, hh, hc1, hc2, hsz, hcur⟩
  · have e := List.eq_nil_of_length_eq_zero h0
    subst e
    exact ⟨none, 0, rfl, by simp, by simp, .inl rfl⟩
  · refine ⟨some ⟨g, 0, none⟩, cap, rfl, hl, ?_, .inr ⟨g, 0, rfl, fun i x hi => ?_⟩⟩
    · exact fun d hd => ⟨(hx d hd).1, by have := (hx d hd).2; omega⟩
    · have hil := (List.getElem?_eq_some_iff.1 hi).1
      obtain ⟨e0, e1⟩ := dcc_get hi
      rw [← hcur] at e0 e1
      rw [List.getElem?_take, if_pos (by omega)] at e0 e1
      simp only [Array.getElem?_toList] at e0 e1
      exact ⟨by rw [Nat.zero_add, cell_of_row w g _ cur _ _ hh]; exact e0, by rw [Nat.zero_add, cell_of_row w g _ cur _ _ hh]; exact e1⟩

theorem wpList_appD {w : World} {ops : Array Oper} {rest : List Oper} {o : Oper} {a : Act} {Q : Exit → Act → World → Prop} (hgd : o.guard = none) (s x : Operand)
    (ho : o.op = .call { callee := .builtin .append, args := #[s, x], argTypes := #[24, 24] })
    (B : Nat) (v : Value) (l : List Dc) (y : Dc) (hs : a.eval s = v) (hown : OD w B v l) (gx c : Nat) (hx : a.eval x = .slice (some ⟨gx, 0, none⟩) 1 c)
    (h0 : w.cell? ⟨gx, 0, none⟩ = some (.string y.1)) (h1 : w.cell? ⟨gx, 1, none⟩ = some (.int .i64 y.2)) (hl : l.length ≤ 1073741824) (hB : B ≤ w.heap.size)
    (h : ∀ g cap w', OD w' B (.slice (some ⟨g, 0, none⟩) (l.length + 1) cap) (l ++ [y]) → w.grownBy w' v.ownBlock → wpList Try.prog ops Q rest (a.put o.dst (.slice (some ⟨g, 0, none⟩) (l.length + 1) cap)) w') : wpList Try.prog ops Q (o :: rest) a w := by
  obtain ⟨i0, hi, hz0, hz1, hz2⟩ := info_parts Try.infoDecl
  refine wpList_append_lies w hgd s x 24 ho B 34 i0 _ 2 24 Try.underlying24 hi hz0 hz1 hz2 rfl (by decide) v l.length (dcc l) hs hown ⟨gx, 0, none⟩ 1 c (dcc [y]) hx rfl ?_ ?_ (by decide) ?_ ?_ hB _ rfl ?_
  · intro j u hj
    rw [Addr.add_lit]
    match j, hj with
    | 0, hj => simp [dcc] at hj; subst hj; exact h0
    | 1, hj => simp [dcc] at hj; subst hj; exact h1
    | j + 2, hj => simp [dcc] at hj
  · intro u hu
    simp [dcc] at hu
    rcases hu with rfl | rfl <;> rfl
  · unfold maxLen; omega
  · omega
  · intro g cap w' h1 h2 _ _
    refine h g cap w' ?_ h2
    unfold OD
    rw [dcc_append, List.length_append]
    exact h1

/-- Drawn variables: a few, of one letter each. -/
def RetDs (β : Nat) (a : Option Addr) (c : Nat) (bs : List Nat) (w : World) (e : Ending) (w' : World) : Prop := ∃ v ds, e = .returned v ∧ OD w' w.heap.size v ds ∧ 1 ≤ ds.length ∧ ds.length ≤ 6 ∧ (∀ x ∈ ds, 1 ≤ x.2 ∧ x.2 ≤ 200 ∧ x.1.size ≤ 1) ∧ Rr w' β a c bs ∧ Dw β w w'

theorem belowI (N : Int) (h0 : 0 ≤ N) (hN : N ≤ 4194304) (β : Nat) (a : Option Addr) (c : Nat) (bs : List Nat) (w : World) (h : Rr w β a c bs) :
    Calls Try.prog 44 #[.pointer (some ⟨β, 0, none⟩), .int .i64 N] w fun e w' => ∃ x : Nat, e = .returned (.int .i64 x) ∧ (x = 0 ∨ (x : Int) < N) ∧ Rr w' β a c bs ∧ Dw β w w' := by
  obtain ⟨n, rfl⟩ := Int.eq_ofNat_of_zero_le h0
  refine (below_any n (by omega) β a c bs w h).mono ?_
  rintro e w' ⟨x, rfl, hx, h1, h2⟩
  exact ⟨x, rfl, by omega, h1, h2⟩
theorem Rr.alloc {w : World} {β : Nat} {a : Option Addr} {c : Nat} {bs : List Nat} (h : Rr w β a c bs) (o : Obj) : Rr (w.alloc o) β a c bs := h.later ((Below.refl _ _).alloc (Nat.le_refl _) _)
theorem Rr.slice {w : World} {β : Nat} {a : Option Addr} {c : Nat} {bs : List Nat} (h : Rr w β a c bs) : w.cell? ⟨β, 0, none⟩ = some (.slice a bs.length c) := by obtain ⟨p, hp, hk, hb, -⟩ := h; exact hk.cells.1

set_option maxHeartbeats 1000000 in
theorem decls_any (β : Nat) (a : Option Addr) (c : Nat) (bs : List Nat) (w : World) (hr : Rr w β a c bs) :
    Calls Try.prog 35 #[.pointer (some ⟨β, 0, none⟩)] w (RetDs β a c bs w) := by
  have hlb : bs.length ≤ 4194304 := by obtain ⟨p, hp, hk, hb, -⟩ := hr; exact hb.1
  have c0 := hr.slice
  have hlt := hr.lt
  have HR := kide hr
  clear hr
  have R0 := kide (HR.out.alloc (.cells #[] 34))
  have O0 := kide (OD.empty w w.heap.size (Nat.le_refl _))
  have D0 : Hid (Dw β w (w.alloc (.cells #[] 34))) := (Dw.refl β w).alloc _
  go_enter Try.func35, Try.ntmps35
  go_wp2_with fail
  generalize w.alloc (Obj.cells #[] 34) = w0 at *
  refine Calls.mono (belowI _ (by omega) (by omega) β a c bs w0 R0.out) ?_
  rintro e w1 ⟨x1, rfl, hx1, r1, d1⟩
  have R1 := kide r1
  have D1 := kide (D0.out.trans d1)
  have O1 := kide (O0.out.far d1 hlt)
  have hx6 : x1 < 6 := by omega
  clear hx1 r1 d1 R0 D0 O0 c0
  go_wp2_with fail
  go_loopw [3, 4] (fun v q wr => ∃ (k : Nat) (l : List Dc) (av : Option Addr) (cv : Nat), q = .int .i64 (k : Int) ∧ v = .slice av l.length cv ∧ l.length + k = x1 + 1 ∧ OD wr w.heap.size (.slice av l.length cv) l ∧ (∀ x ∈ l, 1 ≤ x.2 ∧ x.2 ≤ 200 ∧ x.1.size ≤ 1) ∧ Rr wr β a c bs ∧ Dw β w wr) (fun _ q _ => (intOf q).toNat)
  case atStart => exact ⟨x1 + 1, [], some ⟨w.heap.size, 0, none⟩, 0, by go_num, rfl, by simp, O1.out, by simp, R1.out, D1.out⟩
  case round =>
    clear R1 D1 O1
    obtain ⟨k, l, av, cv, rfl, rfl, hk, ho, hx, hrr, hdw⟩ := hrel
    have OO := kide ho
    have HX := kide hx
    have RR := kide hrr
    have DD := kide hdw
    clear ho hx hrr hdw
    by_cases hk0 : 0 < k
    · obtain ⟨q, rfl⟩ : ∃ q, k = q + 1 := ⟨k - 1, by omega⟩
      go_wp2_with fail
      refine Calls.mono (below_any 8 (by omega) β a c bs wr RR.out) ?_
      rintro e w2 ⟨x2, rfl, hx2, r2, d2⟩
      have R2 := kide r2
      have D2 := kide (DD.out.trans d2)
      have O2 := kide (OO.out.far d2 hlt)
      have hx8 : x2 < 8 := by omega
      clear hx2 r2 d2 RR DD OO
      go_wp2_with fail
      refine Calls.mono (once_any 6 (by omega) (by omega) β a c bs w2 R2.out) ?_
      rintro e w3 ⟨x3, rfl, r3, d3⟩
      have R3 := kide r3
      have D3 := kide (D2.out.trans d3)
      have O3 := kide (O2.out.far d3 hlt)
      clear r3 d3 R2 D2 O2
      cases x3 with
      | true =>
        go_wp2_with fail
        refine Calls.mono (wide_any β a c bs w3 R3.out) ?_
        rintro e w4 ⟨x4, rfl, hx41, hx42, r4, d4⟩
        have R4 := kide r4
        have D4 := kide (D3.out.trans d4)
        have O4 := kide (O3.out.far d4 hlt)
        clear r4 d4 R3 D3 O3
        have hcv : (convert 22 9 (.slice (some ⟨w4.heap.size, 0, none⟩) 1 1)).run Try.prog (w4.alloc (Obj.cells #[Value.int .u8 (97 + (l.length : Int) % 26)] 5)) = .ok (.string ⟨#[UInt8.ofNat (97 + l.length % 26)]⟩) (w4.alloc (Obj.cells #[Value.int .u8 (97 + (l.length : Int) % 26)] 5)) := by
          have h := run_convert_bytes_back (P := Try.prog) (w4.alloc (Obj.cells #[Value.int .u8 (97 + (l.length : Int) % 26)] 5)) 22 9 5 ⟨w4.heap.size, 0, none⟩ 1 [UInt8.ofNat (97 + l.length % 26)] Try.underlying22 Try.underlying5 Try.underlying9 (fun j hj => by
            have hj0 : j = 0 := by simpa using hj
            subst hj0
            have e : ((UInt8.ofNat (97 + l.length % 26)).toNat : Int) = 97 + (l.length : Int) % 26 := by
              rw [UInt8.toNat_ofNat']
              omega
            rw [Addr.add_lit]
            simp [e]
            omega)
          exact h
        generalize hs1 : (⟨#[UInt8.ofNat (97 + l.length % 26)]⟩ : ByteArray) = s1 at hcv
        have hs1z : s1.size ≤ 1 := by rw [← hs1]; exact Nat.le_refl _
        clear hs1
        have hb5 : Below w4.heap.size w4 ((w4.alloc (Obj.cells #[Value.int .u8 (97 + (l.length : Int) % 26)] 5)).alloc (Obj.cells #[Value.string s1, Value.int .i64 (x4 : Int)] 34)) := ((Below.refl _ _).alloc (Nat.le_refl _) _).alloc (by simp) _
        have q0 : ((w4.alloc (Obj.cells #[Value.int .u8 (97 + (l.length : Int) % 26)] 5)).alloc (Obj.cells #[Value.string s1, Value.int .i64 (x4 : Int)] 34)).cell? ⟨w4.heap.size + 1, 0, none⟩ = some (.string s1) := by simp
        have q1 : ((w4.alloc (Obj.cells #[Value.int .u8 (97 + (l.length : Int) % 26)] 5)).alloc (Obj.cells #[Value.string s1, Value.int .i64 (x4 : Int)] 34)).cell? ⟨w4.heap.size + 1, 1, none⟩ = some (.int .i64 (x4 : Int)) := by simp
        have O5 := kide (O4.out.later hb5)
        have R5 := kide (R4.out.later hb5)
        have D5 := kide (D4.out.trans (Dw.of hb5))
        have hsz : w.heap.size ≤ ((w4.alloc (Obj.cells #[Value.int .u8 (97 + (l.length : Int) % 26)] 5)).alloc (Obj.cells #[Value.string s1, Value.int .i64 (x4 : Int)] 34)).heap.size := D5.out.size
        clear hb5
        go_wp2_with (at_builtin; refine wpList_appD rfl _ _ rfl w.heap.size (.slice av l.length cv) l (s1, (x4 : Int)) (by first | rfl | simp [Act.eval]) O5.out (w4.heap.size + 1) 1 (by first | rfl | simp [Act.eval]) q0 q1 (by omega) hsz ?_)
        intro g cap w6 ho6 hg6
        have O6 := kide ho6
        have R6 : Hid (Rr w6 β a c bs) := HR.out.far R5.out hg6 (fun k e => (O5.out.lt e).1)
        have D6 : Hid (Dw β w w6) := D5.out.own hg6 (fun k e => (O5.out.lt e).1)
        clear ho6 hg6 q0 q1 hcv
        go_wp2_with fail
        go_roundw
        case rel =>
          refine ⟨q, l ++ [(s1, (x4 : Int))], some ⟨g, 0, none⟩, cap, by go_num, by simp, by simp; omega, by simpa using O6.out, fun x hx => ?_, R6.out, D6.out⟩
          rcases List.mem_append.1 hx with hx | hx
          · exact HX.out x hx
          · simp at hx
            subst hx
            exact ⟨by show 1 ≤ _; omega, by show _ ≤ (200 : Int); omega, hs1z⟩
        case measure => simp [intOf] <;> omega
      | false =>
        have hcv : (convert 22 9 (.slice (some ⟨w3.heap.size, 0, none⟩) 1 1)).run Try.prog (w3.alloc (Obj.cells #[Value.int .u8 (97 + (l.length : Int) % 26)] 5)) = .ok (.string ⟨#[UInt8.ofNat (97 + l.length % 26)]⟩) (w3.alloc (Obj.cells #[Value.int .u8 (97 + (l.length : Int) % 26)] 5)) := by
          have h := run_convert_bytes_back (P := Try.prog) (w3.alloc (Obj.cells #[Value.int .u8 (97 + (l.length : Int) % 26)] 5)) 22 9 5 ⟨w3.heap.size, 0, none⟩ 1 [UInt8.ofNat (97 + l.length % 26)] Try.underlying22 Try.underlying5 Try.underlying9 (fun j hj => by
            have hj0 : j = 0 := by simpa using hj
            subst hj0
            have e : ((UInt8.ofNat (97 + l.length % 26)).toNat : Int) = 97 + (l.length : Int) % 26 := by
              rw [UInt8.toNat_ofNat']
              omega
            rw [Addr.add_lit]
            simp [e]
            omega)
          exact h
        generalize hs1 : (⟨#[UInt8.ofNat (97 + l.length % 26)]⟩ : ByteArray) = s1 at hcv
        have hs1z : s1.size ≤ 1 := by rw [← hs1]; exact Nat.le_refl _
        clear hs1
        have hb5 : Below w3.heap.size w3 ((w3.alloc (Obj.cells #[Value.int .u8 (97 + (l.length : Int) % 26)] 5)).alloc (Obj.cells #[Value.string s1, Value.int .i64 (1 + (x2 : Int))] 34)) := ((Below.refl _ _).alloc (Nat.le_refl _) _).alloc (by simp) _
        have q0 : ((w3.alloc (Obj.cells #[Value.int .u8 (97 + (l.length : Int) % 26)] 5)).alloc (Obj.cells #[Value.string s1, Value.int .i64 (1 + (x2 : Int))] 34)).cell? ⟨w3.heap.size + 1, 0, none⟩ = some (.string s1) := by simp
        have q1 : ((w3.alloc (Obj.cells #[Value.int .u8 (97 + (l.length : Int) % 26)] 5)).alloc (Obj.cells #[Value.string s1, Value.int .i64 (1 + (x2 : Int))] 34)).cell? ⟨w3.heap.size + 1, 1, none⟩ = some (.int .i64 (1 + (x2 : Int))) := by simp
        have O5 := kide (O3.out.later hb5)
        have R5 := kide (R3.out.later hb5)
        have D5 := kide (D3.out.trans (Dw.of hb5))
        have hsz : w.heap.size ≤ ((w3.alloc (Obj.cells #[Value.int .u8 (97 + (l.length : Int) % 26)] 5)).alloc (Obj.cells #[Value.string s1, Value.int .i64 (1 + (x2 : Int))] 34)).heap.size := D5.out.size
        clear hb5
        go_wp2_with (at_builtin; refine wpList_appD rfl _ _ rfl w.heap.size (.slice av l.length cv) l (s1, 1 + (x2 : Int)) (by first | rfl | simp [Act.eval]) O5.out (w3.heap.size + 1) 1 (by first | rfl | simp [Act.eval]) q0 q1 (by omega) hsz ?_)
        intro g cap w6 ho6 hg6
        have O6 := kide ho6
        have R6 : Hid (Rr w6 β a c bs) := HR.out.far R5.out hg6 (fun k e => (O5.out.lt e).1)
        have D6 : Hid (Dw β w w6) := D5.out.own hg6 (fun k e => (O5.out.lt e).1)
        clear ho6 hg6 q0 q1 hcv
        go_wp2_with fail
        go_roundw
        case rel =>
          refine ⟨q, l ++ [(s1, 1 + (x2 : Int))], some ⟨g, 0, none⟩, cap, by go_num, by simp, by simp; omega, by simpa using O6.out, fun x hx => ?_, R6.out, D6.out⟩
          rcases List.mem_append.1 hx with hx | hx
          · exact HX.out x hx
          · simp at hx
            subst hx
            exact ⟨by show 1 ≤ _; omega, by show _ ≤ (200 : Int); omega, hs1z⟩
        case measure => simp [intOf] <;> omega
    · have hk00 : k = 0 := by omega
      subst hk00
      go_wp2_with fail
      go_ret
      exact ⟨_, l, rfl, OO.out, by omega, by omega, HX.out, RR.out, DD.out⟩

end Go.Proofs.Ytnfagdfaphihhaa
