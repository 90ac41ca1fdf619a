/- Several texts in one. -/
import Derived.Test.YtpmpipcpifmncaaZMD
import Derived.Test.YtpmpipcpifmncaaZMD
import Derived.Test.YtpmpipcpifmncaaKA
import Derived.Deep.AppendLies
import Derived.Handy
import Derived.Test.YtpmpipcpifmncaaZMB
import Derived.Test.YtpmpipcpifmncaaZMC
import Derived.Test.YtpmpipcpifmncaaF1
import Derived.Test.YtpmpipcpifmncaaDIO

/- Drawn variables. -/
namespace Go.Proofs.Ytpmpipcpifmncaa
set_option linter.unusedVariables false
set_option linter.unusedSimpArgs false
open Go.RowKit

def dcc : List Dc → List Value
  | [] => []
  | x :: t => .string x.1 :: .int .i64 x.2 :: dcc t
theorem dcc_len (l : List Dc) : (dcc l).length = l.length * 2 := by
  induction l with
  | nil => rfl
  | cons x t ih => simp [dcc, ih]; omega
theorem dcc_append (l m : List Dc) : dcc (l ++ m) = dcc l ++ dcc m := by
  induction l with
  | nil => rfl
  | cons x t ih => simp [dcc, ih]
theorem dcc_get : ∀ {l : List Dc} {i : Nat} {x : Dc}, l[i]? = some x → (dcc l)[i * 2]? = some (.string x.1) ∧ (dcc l)[i * 2 + 1]? = some (.int .i64 x.2)
  | y :: t, 0, x, h => by simp at h; subst h; simp [dcc]
  | y :: t, i + 1, x, h => by
    have := dcc_get (l := t) (i := i) (x := x) (by simpa using h)
    rw [show (i + 1) * 2 = i * 2 + 1 + 1 by omega]
    simpa [dcc] using this

/-- An owned row of variables. -/
def OD (w : World) (B : Nat) (v : Value) (l : List Dc) : Prop := w.ownsRow B 76 2 v l.length (dcc l)
theorem OD.move {w w' : World} {B : Nat} {v : Value} {l : List Dc} (h : OD w B v l) (hk : ∀ b, v.ownBlock = some b → w'.heap[b]? = w.heap[b]?) : OD w' B v l := by
  refine ⟨h.1, ?_⟩
  rcases h.2 with h0 | ⟨g, cap, cur, rfl, hg, hh, r⟩
  · exact .inl h0
  · exact .inr ⟨g, cap, cur, rfl, hg, (hk g rfl).trans hh, r⟩
theorem OD.lt {w : World} {B : Nat} {v : Value} {l : List Dc} (h : OD w B v l) {b : Nat} (hb : v.ownBlock = some b) : B ≤ b ∧ b < w.heap.size := by
  rcases h.2 with ⟨rfl, -⟩ | ⟨g, cap, cur, rfl, hg, hh, -⟩
  · cases hb
  · cases hb
    exact ⟨hg, lt_of_block hh⟩
theorem OD.far {w w' : World} {B : Nat} {v : Value} {l : List Dc} {β : Nat} (h : OD w B v l) (hd : Dw β w w') (hβ : β < B) : OD w' B v l := h.move fun b hb => hd.block b (h.lt hb).2 (fun e => by cases e; have := (h.lt hb).1; omega)
theorem OD.later {w w' : World} {B : Nat} {v : Value} {l : List Dc} (h : OD w B v l) (hb : Below w.heap.size w w') : OD w' B v l := h.move fun b hb' => hb.block b (h.lt hb').2
theorem OD.empty (w : World) (B : Nat) (h : B ≤ w.heap.size) : OD (w.alloc (.cells #[] 76)) B (.slice (some ⟨w.heap.size, 0, Option.none⟩) 0 0) [] := World.ownsRow_made w #[] 0 h (Nat.zero_le _) (by simp)
theorem OD.rd {w : World} {B : Nat} {v : Value} {l : List Dc} (h : OD w B v l) (hl : l.length ≤ 1048576) (hx : ∀ x ∈ l, in64 x.2 ∧ x.1.size ≤ 1048576) : ∃ a c, v = .slice a l.length c ∧ RdD w a l := by
  rcases h.2 with ⟨rfl, h0⟩ | ⟨g, cap, cur, rfl, hg, hh, hc1, hc2, hsz, hcur⟩
  · have e := List.eq_nil_of_length_eq_zero h0
    subst e
    exact ⟨none, 0, rfl, by simp, by simp, .inl rfl⟩
  · refine ⟨some ⟨g, 0, none⟩, cap, rfl, hl, ?_, .inr ⟨g, 0, rfl, fun i x hi => ?_⟩⟩
    · exact fun d hd => ⟨(hx d hd).1, by have := (hx d hd).2; omega⟩
    · have hil := (List.getElem?_eq_some_iff.1 hi).1
      obtain ⟨e0, e1⟩ := dcc_get hi
      rw [← hcur] at e0 e1
      rw [List.getElem?_take, if_pos (by omega)] at e0 e1
      simp only [Array.getElem?_toList] at e0 e1
      exact ⟨by rw [Nat.zero_add, cell_of_row w g _ cur _ _ hh]; exact e0, by rw [Nat.zero_add, cell_of_row w g _ cur _ _ hh]; exact e1⟩

theorem wpList_appD {w : World} {ops : Array Oper} {rest : List Oper} {o : Oper} {a : Act} {Q : Exit → Act → World → Prop} (hgd : o.guard = none) (s x : Operand)
    (ho : o.op = .call { callee := .builtin .append, args := #[s, x], argTypes := #[33, 33] })
    (B : Nat) (v : Value) (l : List Dc) (y : Dc) (hs : a.eval s = v) (hown : OD w B v l) (gx c : Nat) (hx : a.eval x = .slice (some ⟨gx, 0, none⟩) 1 c)
    (h0 : w.cell? ⟨gx, 0, none⟩ = some (.string y.1)) (h1 : w.cell? ⟨gx, 1, none⟩ = some (.int .i64 y.2)) (hl : l.length ≤ 1073741824) (hB : B ≤ w.heap.size)
    (h : ∀ g cap w', OD w' B (.slice (some ⟨g, 0, none⟩) (l.length + 1) cap) (l ++ [y]) → w.grownBy w' v.ownBlock → wpList Try.prog ops Q rest (a.put o.dst (.slice (some ⟨g, 0, none⟩) (l.length + 1) cap)) w') : wpList Try.prog ops Q (o :: rest) a w := by
  obtain ⟨i0, hi, hz0, hz1, hz2⟩ := info_parts Try.infoDecl
  refine wpList_append_lies w hgd s x 33 ho B 76 i0 _ 2 24 Try.underlying33 hi hz0 hz1 hz2 rfl (by decide) v l.length (dcc l) hs hown ⟨gx, 0, none⟩ 1 c (dcc [y]) hx rfl ?_ ?_ (by decide) ?_ ?_ hB _ rfl ?_
  · intro j u hj
    rw [Addr.add_lit]
    match j, hj with
    | 0, hj => simp [dcc] at hj; subst hj; exact h0
    | 1, hj => simp [dcc] at hj; subst hj; exact h1
    | j + 2, hj => simp [dcc] at hj
  · intro u hu
    simp [dcc] at hu
    rcases hu with rfl | rfl <;> rfl
  · unfold maxLen; omega
  · omega
  · intro g cap w' h1 h2 _ _
    refine h g cap w' ?_ h2
    unfold OD
    rw [dcc_append, List.length_append]
    exact h1

/-- Drawn variables: a few, of one letter each. -/
def RetDs (β : Nat) (a : Option Addr) (c : Nat) (bs : List Nat) (w : World) (e : Ending) (w' : World) : Prop := ∃ v ds, e = .returned v ∧ OD w' w.heap.size v ds ∧ 1 ≤ ds.length ∧ ds.length ≤ 6 ∧ (∀ x ∈ ds, 1 ≤ x.2 ∧ x.2 ≤ 200 ∧ x.1.size ≤ 1) ∧ Rr w' β a c bs ∧ Dw β w w'

theorem belowI (N : Int) (h0 : 0 ≤ N) (hN : N ≤ 4194304) (β : Nat) (a : Option Addr) (c : Nat) (bs : List Nat) (w : World) (h : Rr w β a c bs) :
    Calls Try.prog 79 #[.pointer (some ⟨β, 0, none⟩), .int .i64 N] w fun e w' => ∃ x : Nat, e = .returned (.int .i64 x) ∧ (x = 0 ∨ (x : Int) < N) ∧ Rr w' β a c bs ∧ Dw β w w' := by
  obtain ⟨n, rfl⟩ := Int.eq_ofNat_of_zero_le h0
  refine (below_any n (by omega) β a c bs w h).mono ?_
  rintro e w' ⟨x, rfl, hx, h1, h2⟩
  exact ⟨x, rfl, by omega, h1, h2⟩
theorem Rr.alloc {w : World} {β : Nat} {a : Option Addr} {c : Nat} {bs : List Nat} (h : Rr w β a c bs) (o : Obj) : Rr (w.alloc o) β a c bs := h.later ((Below.refl _ _).alloc (Nat.le_refl _) _)
theorem Rr.slice {w : World} {β : Nat} {a : Option Addr} {c : Nat} {bs : List Nat} (h : Rr w β a c bs) : w.cell? ⟨β, 0, none⟩ = some (.slice a bs.length c) := by obtain ⟨p, hp, hk, hb, -⟩ := h; exact hk.cells.1

set_option maxHeartbeats 1000000 in
theorem decls_any (β : Nat) (a : Option Addr) (c : Nat) (bs : List Nat) (w : World) (hr : Rr w β a c bs) :
    Calls Try.prog 58 #[.pointer (some ⟨β, 0, none⟩)] w (RetDs β a c bs w) := by
  have hlb : bs.length ≤ 4194304 := by obtain ⟨p, hp, hk, hb, -⟩ := hr; exact hb.1
  have c0 := hr.slice
  have hlt := hr.lt
  have HR := kide hr
  clear hr
  have R0 := kide (HR.out.alloc (.cells #[] 76))
  have O0 := kide (OD.empty w w.heap.size (Nat.le_refl _))
  have D0 : Hid (Dw β w (w.alloc (.cells #[] 76))) := (Dw.refl β w).alloc _
  go_enter Try.func58, Try.ntmps58
  go_wp2_with fail
  generalize w.alloc (Obj.cells #[] 76) = w0 at *
  refine Calls.mono (belowI _ (by omega) (by omega) β a c bs w0 R0.out) ?_
  rintro e w1 ⟨x1, rfl, hx1, r1, d1⟩
  have R1 := kide r1
  have D1 := kide (D0.out.trans d1)
  have O1 := kide (O0.out.far d1 hlt)
  have hx6 : x1 < 6 := by omega
  clear hx1 r1 d1 R0 D0 O0 c0
  go_wp2_with fail
  go_loopw [3, 4] (fun v q wr => ∃ (k : Nat) (l : List Dc) (av : Option Addr) (cv : Nat), q = .int .i64 (k : Int) ∧ v = .slice av l.length cv ∧ l.length + k = x1 + 1 ∧ OD wr w.heap.size (.slice av l.length cv) l ∧ (∀ x ∈ l, 1 ≤ x.2 ∧ x.2 ≤ 200 ∧ x.1.size ≤ 1) ∧ Rr wr β a c bs ∧ Dw β w wr) (fun _ q _ => (intOf q).toNat)
  case atStart => exact ⟨x1 + 1, [], some ⟨w.heap.size, 0, none⟩, 0, by go_num, rfl, by simp, O1.out, by simp, R1.out, D1.out⟩
  case round =>
    clear R1 D1 O1
    obtain ⟨k, l, av, cv, rfl, rfl, hk, ho, hx, hrr, hdw⟩ := hrel
    have OO := kide ho
    have HX := kide hx
    have RR := kide hrr
    have DD := kide hdw
    clear ho hx hrr hdw
    by_cases hk0 : 0 < k
    · obtain ⟨q, rfl⟩ : ∃ q, k = q + 1 := ⟨k - 1, by omega⟩
      go_wp2_with fail
      refine Calls.mono (below_any 8 (by omega) β a c bs wr RR.out) ?_
      rintro e w2 ⟨x2, rfl, hx2, r2, d2⟩
      have R2 := kide r2
      have D2 := kide (DD.out.trans d2)
      have O2 := kide (OO.out.far d2 hlt)
      have hx8 : x2 < 8 := by omega
      clear hx2 r2 d2 RR DD OO
      go_wp2_with fail
      refine Calls.mono (once_any 6 (by omega) (by omega) β a c bs w2 R2.out) ?_
      rintro e w3 ⟨x3, rfl, r3, d3⟩
      have R3 := kide r3
      have D3 := kide (D2.out.trans d3)
      have O3 := kide (O2.out.far d3 hlt)
      clear r3 d3 R2 D2 O2
      cases x3 with
      | true =>
        go_wp2_with fail
        refine Calls.mono (wide_any β a c bs w3 R3.out) ?_
        rintro e w4 ⟨x4, rfl, hx41, hx42, r4, d4⟩
        have R4 := kide r4
        have D4 := kide (D3.out.trans d4)
        have O4 := kide (O3.out.far d4 hlt)
        clear r4 d4 R3 D3 O3
        have hcv : (convert 48 9 (.slice (some ⟨w4.heap.size, 0, none⟩) 1 1)).run Try.prog (w4.alloc (Obj.cells #[Value.int .u8 (97 + (l.length : Int) % 26)] 5)) = .ok (.string ⟨#[UInt8.ofNat (97 + l.length % 26)]⟩) (w4.alloc (Obj.cells #[Value.int .u8 (97 + (l.length : Int) % 26)] 5)) := by
          have h := run_convert_bytes_back (P := Try.prog) (w4.alloc (Obj.cells #[Value.int .u8 (97 + (l.length : Int) % 26)] 5)) 48 9 5 ⟨w4.heap.size, 0, none⟩ 1 [UInt8.ofNat (97 + l.length % 26)] Try.underlying48 Try.underlying5 Try.underlying9 (fun j hj => by
            have hj0 : j = 0 := by simpa using hj
            subst hj0
            have e : ((UInt8.ofNat (97 + l.length % 26)).toNat : Int) = 97 + (l.length : Int) % 26 := by
              rw [UInt8.toNat_ofNat']
              omega
            rw [Addr.add_lit]
            simp [e]
            omega)
          exact h
        generalize hs1 : (⟨#[UInt8.ofNat (97 + l.length % 26)]⟩ : ByteArray) = s1 at hcv
        have hs1z : s1.size ≤ 1 := by rw [← hs1]; exact Nat.le_refl _
        clear hs1
        have hb5 : Below w4.heap.size w4 ((w4.alloc (Obj.cells #[Value.int .u8 (97 + (l.length : Int) % 26)] 5)).alloc (Obj.cells #[Value.string s1, Value.int .i64 (x4 : Int)] 76)) := ((Below.refl _ _).alloc (Nat.le_refl _) _).alloc (by simp) _
        have q0 : ((w4.alloc (Obj.cells #[Value.int .u8 (97 + (l.length : Int) % 26)] 5)).alloc (Obj.cells #[Value.string s1, Value.int .i64 (x4 : Int)] 76)).cell? ⟨w4.heap.size + 1, 0, none⟩ = some (.string s1) := by simp
        have q1 : ((w4.alloc (Obj.cells #[Value.int .u8 (97 + (l.length : Int) % 26)] 5)).alloc (Obj.cells #[Value.string s1, Value.int .i64 (x4 : Int)] 76)).cell? ⟨w4.heap.size + 1, 1, none⟩ = some (.int .i64 (x4 : Int)) := by simp
        have O5 := kide (O4.out.later hb5)
        have R5 := kide (R4.out.later hb5)
        have D5 := kide (D4.out.trans (Dw.of hb5))
        have hsz : w.heap.size ≤ ((w4.alloc (Obj.cells #[Value.int .u8 (97 + (l.length : Int) % 26)] 5)).alloc (Obj.cells #[Value.string s1, Value.int .i64 (x4 : Int)] 76)).heap.size := D5.out.size
        clear hb5
        go_wp2_with (at_builtin; refine wpList_appD rfl _ _ rfl w.heap.size (.slice av l.length cv) l (s1, (x4 : Int)) (by first | rfl | simp [Act.eval]) O5.out (w4.heap.size + 1) 1 (by first | rfl | simp [Act.eval]) q0 q1 (by omega) hsz ?_)
        intro g cap w6 ho6 hg6
        have O6 := kide ho6
        have R6 : Hid (Rr w6 β a c bs) := HR.out.far R5.out hg6 (fun k e => (O5.out.lt e).1)
        have D6 : Hid (Dw β w w6) := D5.out.own hg6 (fun k e => (O5.out.lt e).1)
        clear ho6 hg6 q0 q1 hcv
        go_wp2_with fail
        go_roundw
        case rel =>
          refine ⟨q, l ++ [(s1, (x4 : Int))], some ⟨g, 0, none⟩, cap, by go_num, by simp, by simp; omega, by simpa using O6.out, fun x hx => ?_, R6.out, D6.out⟩
          rcases List.mem_append.1 hx with hx | hx
          · exact HX.out x hx
          · simp at hx
            subst hx
            exact ⟨by show 1 ≤ _; omega, by show _ ≤ (200 : Int); omega, hs1z⟩
        case measure => simp [intOf] <;> omega
      | false =>
        have hcv : (convert 48 9 (.slice (some ⟨w3.heap.size, 0, none⟩) 1 1)).run Try.prog (w3.alloc (Obj.cells #[Value.int .u8 (97 + (l.length : Int) % 26)] 5)) = .ok (.string ⟨#[UInt8.ofNat (97 + l.length % 26)]⟩) (w3.alloc (Obj.cells #[Value.int .u8 (97 + (l.length : Int) % 26)] 5)) := by
          have h := run_convert_bytes_back (P := Try.prog) (w3.alloc (Obj.cells #[Value.int .u8 (97 + (l.length : Int) % 26)] 5)) 48 9 5 ⟨w3.heap.size, 0, none⟩ 1 [UInt8.ofNat (97 + l.length % 26)] Try.underlying48 Try.underlying5 Try.underlying9 (fun j hj => by
            have hj0 : j = 0 := by simpa using hj
            subst hj0
            have e : ((UInt8.ofNat (97 + l.length % 26)).toNat : Int) = 97 + (l.length : Int) % 26 := by
              rw [UInt8.toNat_ofNat']
              omega
            rw [Addr.add_lit]
            simp [e]
            omega)
          exact h
        generalize hs1 : (⟨#[UInt8.ofNat (97 + l.length % 26)]⟩ : ByteArray) = s1 at hcv
        have hs1z : s1.size ≤ 1 := by rw [← hs1]; exact Nat.le_refl _
        clear hs1
        have hb5 : Below w3.heap.size w3 ((w3.alloc (Obj.cells #[Value.int .u8 (97 + (l.length : Int) % 26)] 5)).alloc (Obj.cells #[Value.string s1, Value.int .i64 (1 + (x2 : Int))] 76)) := ((Below.refl _ _).alloc (Nat.le_refl _) _).alloc (by simp) _
        have q0 : ((w3.alloc (Obj.cells #[Value.int .u8 (97 + (l.length : Int) % 26)] 5)).alloc (Obj.cells #[Value.string s1, Value.int .i64 (1 + (x2 : Int))] 76)).cell? ⟨w3.heap.size + 1, 0, none⟩ = some (.string s1) := by simp
        have q1 : ((w3.alloc (Obj.cells #[Value.int .u8 (97 + (l.length : Int) % 26)] 5)).alloc (Obj.cells #[Value.string s1, Value.int .i64 (1 + (x2 : Int))] 76)).cell? ⟨w3.heap.size + 1, 1, none⟩ = some (.int .i64 (1 + (x2 : Int))) := by simp
        have O5 := kide (O3.out.later hb5)
        have R5 := kide (R3.out.later hb5)
        have D5 := kide (D3.out.trans (Dw.of hb5))
        have hsz : w.heap.size ≤ ((w3.alloc (Obj.cells #[Value.int .u8 (97 + (l.length : Int) % 26)] 5)).alloc (Obj.cells #[Value.string s1, Value.int .i64 (1 + (x2 : Int))] 76)).heap.size := D5.out.size
        clear hb5
        go_wp2_with (at_builtin; refine wpList_appD rfl _ _ rfl w.heap.size (.slice av l.length cv) l (s1, 1 + (x2 : Int)) (by first | rfl | simp [Act.eval]) O5.out (w3.heap.size + 1) 1 (by first | rfl | simp [Act.eval]) q0 q1 (by omega) hsz ?_)
        intro g cap w6 ho6 hg6
        have O6 := kide ho6
        have R6 : Hid (Rr w6 β a c bs) := HR.out.far R5.out hg6 (fun k e => (O5.out.lt e).1)
        have D6 : Hid (Dw β w w6) := D5.out.own hg6 (fun k e => (O5.out.lt e).1)
        clear ho6 hg6 q0 q1 hcv
        go_wp2_with fail
        go_roundw
        case rel =>
          refine ⟨q, l ++ [(s1, 1 + (x2 : Int))], some ⟨g, 0, none⟩, cap, by go_num, by simp, by simp; omega, by simpa using O6.out, fun x hx => ?_, R6.out, D6.out⟩
          rcases List.mem_append.1 hx with hx | hx
          · exact HX.out x hx
          · simp at hx
            subst hx
            exact ⟨by show 1 ≤ _; omega, by show _ ≤ (200 : Int); omega, hs1z⟩
        case measure => simp [intOf] <;> omega
    · have hk00 : k = 0 := by omega
      subst hk00
      go_wp2_with fail
      go_ret
      exact ⟨_, l, rfl, OO.out, by omega, by omega, HX.out, RR.out, DD.out⟩

end Go.Proofs.Ytpmpipcpifmncaa

/- Drawn values. -/
namespace Go.Proofs.Ytpmpipcpifmncaa
set_option linter.unusedVariables false
set_option linter.unusedSimpArgs false
open Go.RowKit

/-- Words that can be read, all of it from a block on. -/
def GotW (w : World) (lo : Nat) (a : Option Addr) (xs : List Bw) : Prop := RdW w a xs ∧ (∀ p, xs ≠ [] → a = some p → lo ≤ p.block) ∧ ∀ x ∈ xs, ∀ p, x.ws ≠ [] → x.a = some p → lo ≤ p.block
theorem GotW.later {w w' : World} {lo : Nat} {a : Option Addr} {xs : List Bw} (h : GotW w lo a xs) (hb : Below w.heap.size w w') : GotW w' lo a xs := ⟨h.1.later hb, h.2⟩
theorem GotW.far {w w' : World} {lo : Nat} {a : Option Addr} {xs : List Bw} {β : Nat} (h : GotW w lo a xs) (hd : Dw β w w') (hβ : β < lo) : GotW w' lo a xs := by
  obtain ⟨⟨h1, h2⟩, h3, h4⟩ := h
  refine ⟨⟨h1, ?_⟩, h3, h4⟩
  rcases h2 with h2 | ⟨b, o, rfl, hc⟩
  · exact .inl h2
  · refine .inr ⟨b, o, rfl, fun i x hi => ?_⟩
    have hne : xs ≠ [] := fun e => by subst e; simp at hi
    obtain ⟨c0, c1, ⟨r1, r2, r3⟩, c3⟩ := hc i x hi
    have hb := h3 ⟨b, o, none⟩ hne rfl
    simp only [] at hb
    have key : ∀ (b' o' : Nat) (v : Value), lo ≤ b' → w.cell? ⟨b', o', none⟩ = some v → w'.cell? ⟨b', o', none⟩ = some v := fun b' o' v hl hv => by
      rw [World.cell?_of_block (a := ⟨b', o', none⟩) (show w'.heap[b']? = w.heap[b']? from hd.block b' (block_lt_of_cell hv) (fun e => by cases e; omega))]
      exact hv
    refine ⟨key _ _ _ hb c0, key _ _ _ hb c1, ⟨r1, r2, ?_⟩, c3⟩
    rcases r3 with r3 | ⟨b2, o2, e2, hc2⟩
    · exact .inl r3
    · refine .inr ⟨b2, o2, e2, fun j hj => key _ _ _ ?_ (hc2 j hj)⟩
      exact h4 x (List.mem_of_getElem? hi) ⟨b2, o2, none⟩ (fun e => by rw [e] at hj; simp at hj) e2
theorem Bs.far {w w' : World} {B : Nat} {v : Value} {l : List Bw} {β : Nat} (h : Bs w B v l) (hd : Dw β w w') (hβ : β < B) : Bs w' B v l :=
  ⟨h.row.move fun b hb => hd.block b (h.row.lt hb).2 (fun e => by cases e; have := (h.row.lt hb).1; omega), fun x hx => nw_move (h.nw x hx) fun p hp => hd.block _ (nw_lt (h.nw x hx) hp).2 (fun e => by cases e; have := (nw_lt (h.nw x hx) hp).1; omega), h.dj⟩
theorem Bs.got {w : World} {B : Nat} {v : Value} {l : List Bw} (h : Bs w B v l) (hX : okW (l.map Bw.ct)) : ∃ a c, v = .slice a l.length c ∧ GotW w B a l := by
  obtain ⟨a, c, rfl, hr⟩ := h.rd hX
  refine ⟨a, c, rfl, hr, fun p _ e => ?_, fun x hx p _ e => (nw_lt (h.nw x hx) e).1⟩
  have h1 := h.row.2
  generalize l.length = n at h1
  rcases h1 with ⟨e', -⟩ | ⟨g, cap, cur, e', hg, -⟩
  · cases e'; cases e
  · cases e'; cases e; exact hg

theorem RdD.farB {w w' : World} {β : Nat} {a : Option Addr} {ds : List Dc} (h : RdD w a ds) (hd : Dw β w w') (hn : ∀ p, a = some p → p.block ≠ β) : RdD w' a ds := by
  obtain ⟨h1, h2, h3⟩ := h
  refine ⟨h1, h2, ?_⟩
  rcases h3 with h3 | ⟨b, o, rfl, hc⟩
  · exact .inl h3
  · refine .inr ⟨b, o, rfl, fun i d hi => ?_⟩
    obtain ⟨c0, c1⟩ := hc i d hi
    have hb := hn ⟨b, o, none⟩ rfl
    simp only [] at hb
    have e : w'.heap[b]? = w.heap[b]? := hd.block b (block_lt_of_cell c0) (fun e => by cases e; exact hb rfl)
    exact ⟨by rw [World.cell?_of_block (a := ⟨b, _, none⟩) e]; exact c0, by rw [World.cell?_of_block (a := ⟨b, _, none⟩) e]; exact c1⟩
theorem Fresh.nw {w : World} {lo : Nat} {a : Option Addr} {xs : List Nat} (h : Fresh w lo a xs) : Nw w lo a xs := by
  rcases h with ⟨h1, h2⟩ | ⟨g, h1, h2, h3⟩
  · exact .inl ⟨h1, fun x e => by rw [h2] at e; cases e⟩
  · rw [h1]; exact h3.nw h2
theorem okW_in {X : List (Int × List Nat)} (hl : X.length ≤ 6) (h : ∀ x ∈ X, (1 ≤ x.1 ∧ x.1 ≤ 200) ∧ x.2.length ≤ 1048576 ∧ ∀ y ∈ x.2, y < 18446744073709551616) : okW X := ⟨by omega, fun x hx => ⟨by have := (h x hx).1; unfold in64; omega, (h x hx).2⟩⟩

theorem bwc_same : ∀ {l : List Bw} {i : Nat} {x x' : Bw}, l[i]? = some x → x'.wd = x.wd → x'.a = x.a → x'.c = x.c → x'.ws.length = x.ws.length → bwc (l.set i x') = bwc l
  | y :: t, 0, x, x', h, h1, h2, h3, h4 => by simp at h; subst h; simp [bwc, h1, h2, h3, h4]
  | y :: t, i + 1, x, x', h, h1, h2, h3, h4 => by
    have := bwc_same (l := t) (i := i) (x := x) (x' := x') (by simpa using h) h1 h2 h3 h4
    simp [bwc, this]
theorem row_ne {w : World} {B gw : Nat} {v : Value} {l : List Bw} {cur : Array Value} (h : OB2 w B v l) (hw : w.heap[gw]? = some (.cells cur 101 (0, 0))) : ∀ b, v.ownBlock = some b → b ≠ gw := fun b hb e => by
  obtain ⟨cur', hc⟩ := h.typed hb
  subst e
  rw [hw] at hc
  cases hc
theorem Bs.wordRow {w : World} {B i gw c : Nat} {d : Int} {v : Value} {l : List Bw} {ws : List Nat} {cur : Array Value} (h : Bs w B v l) (_ : l[i]? = some ⟨d, some ⟨gw, 0, none⟩, c, ws⟩) (hw : w.heap[gw]? = some (.cells cur 101 (0, 0))) (z : Nat) : OB2 (w.setCell ⟨gw, 0, none⟩ (.int .u64 (z : Int))) B v l :=
  h.row.move fun b hb => heap_setCell_other _ _ _ _ (by simpa using row_ne h.row hw b hb)
theorem Bs.word {w : World} {B i gw c : Nat} {d : Int} {v : Value} {l : List Bw} {ws : List Nat} {cur : Array Value} (h : Bs w B v l) (gx : l[i]? = some ⟨d, some ⟨gw, 0, none⟩, c, ws⟩) (hw : w.heap[gw]? = some (.cells cur 101 (0, 0))) (h0 : 0 < ws.length) (z : Nat) :
    Bs (w.setCell ⟨gw, 0, none⟩ (.int .u64 (z : Int))) B v (l.set i ⟨d, some ⟨gw, 0, none⟩, c, ws.set 0 z⟩) where
  row := by
    have hr := h.wordRow gx hw z
    unfold OB2 at hr ⊢
    rw [List.length_set, bwc_same (x' := ⟨d, some ⟨gw, 0, none⟩, c, ws.set 0 z⟩) gx rfl rfl rfl (by simp)]
    exact hr
  nw := fun y hy => by
    obtain ⟨j, hj, e⟩ := List.mem_iff_getElem.1 hy
    have gj : (l.set i ⟨d, some ⟨gw, 0, none⟩, c, ws.set 0 z⟩)[j]? = some y := by rw [List.getElem?_eq_getElem hj, e]
    rw [List.getElem?_set] at gj
    by_cases hij : i = j
    · rw [if_pos hij] at gj
      split at gj
      · simp at gj
        subst gj
        rcases h.nw _ (List.mem_of_getElem? gx) with ⟨e1, -⟩ | ⟨g, cur', e1, h2, h3, h4⟩
        · simp only [] at e1
          rw [e1] at h0; simp at h0
        · cases e1
          refine .inr ⟨gw, cur'.setIfInBounds 0 (.int .u64 (z : Int)), rfl, h2, heap_setCell_same w gw 0 _ _ _ h3, fun t ht => ?_⟩
          simp only [List.length_set] at ht
          by_cases ht0 : t = 0
          · subst ht0
            rw [Array.getElem?_setIfInBounds_self_of_lt (Array.getElem?_eq_some_iff.1 (h4 0 h0)).1]
            simp [List.getD, h0]
          · rw [Array.getElem?_setIfInBounds_ne (fun e => ht0 e.symm), h4 t ht]
            simp [List.getD, List.getElem?_set, Ne.symm ht0]
      · cases gj
    · rw [if_neg hij] at gj
      refine nw_move (h.nw y (List.mem_of_getElem? gj)) fun p hp => heap_setCell_other _ _ _ _ ?_
      simp only []
      intro e
      rcases Nat.lt_or_gt_of_ne hij with hlt | hgt
      · exact h.dj i j _ y hlt gx gj _ p rfl hp (by simp only []; exact e.symm)
      · exact h.dj j i y _ hgt gj gx p _ hp rfl (by simp only []; exact e)
  dj := fun p q x y hpq hx hy a b ha hb => by
    rw [List.getElem?_set] at hx hy
    have key : ∀ (r : Nat) (x : Bw) (a : Addr), (if i = r then if i < l.length then some (⟨d, some ⟨gw, 0, none⟩, c, ws.set 0 z⟩ : Bw) else none else l[r]?) = some x → x.a = some a → ∃ x', l[r]? = some x' ∧ x'.a = some a := fun r x a hr ha => by
      split at hr
      · rename_i e
        split at hr
        · simp at hr
          subst hr
          subst e
          exact ⟨_, gx, ha⟩
        · cases hr
      · exact ⟨x, hr, ha⟩
    obtain ⟨x', g1, g2⟩ := key p x a hx ha
    obtain ⟨y', g3, g4⟩ := key q y b hy hb
    exact h.dj p q x' y' hpq g1 g3 a b g2 g4

theorem GotW.tail {w : World} {lo g : Nat} {l : List Bw} (h : GotW w lo (some ⟨g, 0, none⟩) l) : GotW w lo (some ⟨g, 2, none⟩) l.tail := by
  obtain ⟨⟨h1, h2⟩, h3, h4⟩ := h
  refine ⟨⟨by rw [List.length_tail]; omega, ?_⟩, fun p hp e => ?_, fun x hx => h4 x (List.mem_of_mem_tail hx)⟩
  · rcases h2 with h2 | ⟨b, o, e, hc⟩
    · exact .inl (by rw [h2]; rfl)
    · cases e
      refine .inr ⟨g, 2, rfl, fun i x hi => ?_⟩
      have h5 := hc (i + 1) x (by simpa using hi)
      rw [show 0 + (i + 1) * 2 = 2 + i * 2 by omega] at h5
      exact h5
  · cases e
    exact h3 ⟨g, 0, none⟩ (fun e => by subst e; exact hp rfl) rfl
theorem Rd.other {w : World} {a : Option Addr} {xs : List Nat} {g : Nat} (h : Rd w a xs) (hn : ∀ p, a = some p → p.block ≠ g) (i : Nat) (v : Value) : Rd (w.setCell ⟨g, i, none⟩ v) a xs := by
  obtain ⟨h1, h2, h3⟩ := h
  refine ⟨h1, h2, ?_⟩
  rcases h3 with h3 | ⟨b, o, rfl, hc⟩
  · exact .inl h3
  · refine .inr ⟨b, o, rfl, fun j hj => ?_⟩
    have hb := hn ⟨b, o, none⟩ rfl
    simp only [] at hb
    rw [World.cell?_of_block (a := ⟨b, o + j, none⟩) (w := w) (heap_setCell_other _ _ _ _ (by simpa using hb))]
    exact hc j hj

/-- Drawn values: a row of words. -/
def RetVs (β : Nat) (a : Option Addr) (c : Nat) (bs : List Nat) (w : World) (e : Ending) (w' : World) : Prop := ∃ av cv xs, e = .returned (.slice av xs.length cv) ∧ xs.length ≤ 6 ∧ GotW w' w.heap.size av xs ∧ Rr w' β a c bs ∧ Dw β w w'

set_option maxHeartbeats 1000000 in
theorem values_any (β : Nat) (a : Option Addr) (c : Nat) (bs : List Nat) (da : Option Addr) (dc : Nat) (ds : List Dc) (w : World) (hr : Rr w β a c bs) (hd : RdD w da ds) (hβ : ∀ p, da = some p → p.block ≠ β) (h1 : 1 ≤ ds.length) (h6 : ds.length ≤ 6) (hw : ∀ x ∈ ds, 1 ≤ x.2 ∧ x.2 ≤ 200) :
    Calls Try.prog 61 #[.pointer (some ⟨β, 0, none⟩), .slice da ds.length dc] w (RetVs β a c bs w) := by
  have hlt := hr.lt
  have HR := kide hr
  have HD := kide hd
  have HW := kide hw
  have HB := kide hβ
  obtain ⟨n, hn⟩ : ∃ n, ds.length = n := ⟨_, rfl⟩
  have HN := kide hn
  rw [hn] at h1 h6 ⊢
  clear hr hd hw hβ hn
  have R0 := kide (HR.out.alloc (.cells #[] 30))
  have O0 := kide (Bs.empty w w.heap.size (Nat.le_refl _))
  have D0 : Hid (Dw β w (w.alloc (.cells #[] 30))) := (Dw.refl β w).alloc _
  go_enter Try.func61, Try.ntmps61
  go_wp2_with fail
  generalize w.alloc (Obj.cells #[] 30) = w0 at *
  go_loopw [5, 6] (fun v q wr => ∃ (k : Nat) (l : List Bw) (av : Option Addr) (cv : Nat), k ≤ n ∧ q = .int .i64 (k : Int) ∧ v = .slice av k cv ∧ l.length = k ∧ Bs wr w.heap.size (.slice av k cv) l ∧ (∀ x ∈ l, (1 ≤ x.wd ∧ x.wd ≤ 200) ∧ 1 ≤ x.ws.length ∧ x.ws.length ≤ 1048576 ∧ ∀ y ∈ x.ws, y < 18446744073709551616) ∧ Rr wr β a c bs ∧ Dw β w wr) (fun _ q _ => n - (intOf q).toNat)
  case atStart => exact ⟨0, [], some ⟨w.heap.size, 0, none⟩, 0, Nat.zero_le _, rfl, rfl, rfl, O0.out, by simp, R0.out, D0.out⟩
  case round =>
    clear R0 D0 O0
    obtain ⟨k, l, av, cv, hk, rfl, rfl, hl, ho, hx, hrr, hdw⟩ := hrel
    have OO := kide ho
    have HX := kide hx
    have RR := kide hrr
    have DD := kide hdw
    have HL := kide hl
    clear ho hx hrr hdw hl
    by_cases hlt2 : k < n
    · obtain ⟨-, hdd, h | ⟨b, o, rfl, hc⟩⟩ := HD.out.farB DD.out HB.out
      · have := HN.out; rw [h] at this; simp at this; omega
      obtain ⟨⟨nm, y⟩, gd⟩ : ∃ d, ds[k]? = some d := ⟨ds[k]'(by rw [HN.out]; exact hlt2), List.getElem?_eq_getElem _⟩
      obtain ⟨p0, p1⟩ := hc k _ gd
      obtain ⟨hy1, hy2⟩ := HW.out _ (List.mem_of_getElem? gd)
      simp only [] at p0 p1 hy1 hy2
      obtain ⟨V, rfl⟩ := Int.eq_ofNat_of_zero_le (show 0 ≤ y by omega)
      have i0 : (k : Int) < (n : Int) := by omega
      have hm : min (V : Int) 4096 = (V : Int) := by omega
      have hM : max 1 (V : Int) = (V : Int) := by omega
      have lb := block_lt_of_cell p0
      clear hc gd hdd p0
      go_wp2_with fail
      refine Calls.mono (bits_any V (by omega) (by omega) β a c bs wr RR.out) ?_
      rintro e w2 ⟨a2, lb2, hl2, hb2, rfl, hf2, r2, d2⟩
      have R2 := kide r2
      have D2 := kide (DD.out.trans d2)
      have O2 := kide (OO.out.far d2 hlt)
      have N2 := kide hf2.nw
      have S2 := kide (show wr.heap.size ≤ w2.heap.size from d2.size)
      have P2 : Hid (1 ≤ (pack lb2).length ∧ (pack lb2).length ≤ 1048576 ∧ ∀ y ∈ pack lb2, y < 18446744073709551616) := ⟨by rw [pack_len]; omega, by rw [pack_len]; omega, pack_lt lb2⟩
      generalize pack lb2 = ws at *
      obtain ⟨m, hm2⟩ : ∃ m, ws.length = m := ⟨_, rfl⟩
      have HM2 := kide hm2
      rw [hm2]
      clear hl2 hb2 hf2 r2 d2 hm2
      have hb5 : Below w2.heap.size w2 (w2.alloc (Obj.cells #[Value.int .i64 (V : Int), Value.slice a2 m m] 30)) := (Below.refl _ _).alloc (Nat.le_refl _) _
      have q0 : (w2.alloc (Obj.cells #[Value.int .i64 (V : Int), Value.slice a2 m m] 30)).cell? ⟨w2.heap.size, 0, none⟩ = some (.int .i64 (V : Int)) := by simp
      have q1 : (w2.alloc (Obj.cells #[Value.int .i64 (V : Int), Value.slice a2 m m] 30)).cell? ⟨w2.heap.size, 1, none⟩ = some (.slice a2 m m) := by simp
      have R5 := kide (R2.out.later hb5)
      have D5 := kide (D2.out.trans (Dw.of hb5))
      have O5 := kide (O2.out.later hb5)
      have N5 := kide (N2.out.later hb5)
      have hsz : w.heap.size ≤ (w2.alloc (Obj.cells #[Value.int .i64 (V : Int), Value.slice a2 m m] 30)).heap.size := D5.out.size
      clear hb5
      go_wp2_with (at_builtin; refine wpList_appB2 rfl _ _ rfl w.heap.size (.slice av k cv) l ⟨(V : Int), a2, m, ws⟩ (by first | rfl | simp [Act.eval]) O5.out.row w2.heap.size 1 (by first | rfl | simp [Act.eval]) q0 (by rw [HM2.out]; exact q1) (by rw [HL.out]; omega) hsz ?_)
      intro g cap w6 ho6 hg6
      have O6 : Hid (Bs w6 w.heap.size (.slice (some ⟨g, 0, none⟩) (l.length + 1) cap) (l ++ [⟨(V : Int), a2, m, ws⟩])) := by
        refine ⟨ho6, fun x hx => ?_, O5.out.dj.snoc (w := wr) OO.out.nw fun p hp => (nw_lt N5.out hp).1⟩
        rcases List.mem_append.1 hx with hx | hx
        · exact nw_row (O5.out.nw x hx) O5.out.row hg6
        · simp at hx
          subst hx
          exact (nw_row N5.out O5.out.row hg6).mono DD.out.size
      have R6 : Hid (Rr w6 β a c bs) := HR.out.far R5.out hg6 (fun k e => (O5.out.row.lt e).1)
      have D6 : Hid (Dw β w w6) := D5.out.own hg6 (fun k e => (O5.out.row.lt e).1)
      rw [HL.out] at O6 ⊢
      clear ho6 hg6 q0 q1
      go_wp2_with fail
      go_roundw
      case rel =>
        refine ⟨k + 1, l ++ [⟨(V : Int), a2, m, ws⟩], some ⟨g, 0, none⟩, cap, by omega, by go_num, rfl, by simp [HL.out], O6.out, fun x hx => ?_, R6.out, D6.out⟩
        rcases List.mem_append.1 hx with hx | hx
        · exact HX.out x hx
        · simp at hx
          subst hx
          exact ⟨⟨hy1, hy2⟩, P2.out⟩
      case measure => simp [intOf]; omega
    · go_wp2_with fail
      refine Calls.mono (below_any 40 (by omega) β a c bs wr RR.out) ?_
      rintro e w2 ⟨x2, rfl, hx2, r2, d2⟩
      have R2 := kide r2
      have D2 := kide (DD.out.trans d2)
      have O2 := kide (OO.out.far d2 hlt)
      clear r2 d2 RR DD OO
      have HOK : Hid (okW (l.map Bw.ct)) := okW_in (by rw [List.length_map, HL.out]; omega) (fun x hx => by
        obtain ⟨y, hy, rfl⟩ := List.mem_map.1 hx
        exact ⟨(HX.out y hy).1, (HX.out y hy).2.2⟩)
      obtain ⟨g, hgg⟩ : ∃ g, av = some ⟨g, 0, none⟩ := by
        obtain ⟨g, c', eg, -⟩ := O2.out.row.at (List.getElem?_eq_getElem (show 0 < l.length by rw [HL.out]; omega))
        rw [HL.out] at eg
        cases eg
        exact ⟨g, rfl⟩
      subst hgg
      have hcap : k ≤ cv := by
        have h2 := O2.out.row.2
        rw [HL.out] at h2
        rcases h2 with ⟨e', -⟩ | ⟨g', cap, cur, e', hg', hh', hc1, -⟩
        · cases e'
        · cases e'; exact hc1
      have hkn : k = n := by omega
      subst hkn
      by_cases e0 : x2 = 0
      · subst e0
        go_wp2_with fail
        refine wp_region_x (SA := fun _ => False) (SB := (fun uu => OB2 uu w.heap.size (.slice (some ⟨g, 0, none⟩) k cv) l)) (k := 999) (by kernel_rfl) ?_
        have SS := kide (O2.out.later (show Below w2.heap.size w2 w2.drew from (Below.refl _ _).drew))
        have RU := kide (R2.out.later (show Below w2.heap.size w2 w2.drew from (Below.refl _ _).drew))
        have DU := kide (D2.out.drew)
        generalize w2.drew = u0 at *
        clear R2 D2 O2
        try go_simp
        refine wpAnyX_both (T := (fun _ => True)) (i := 0) (v := Value.slice (some ⟨g, 0, none⟩) k cv) rfl (by kernel_rfl) (by kernel_rfl) (by kernel_rfl) (fun _ _ _ h => by first | exact h | exact h.elim) (by decide) (fun _ _ => trivial) (fun _ _ => trivial) (Sx.behind (by kernel_rfl) SS.out.row) (Or.inl ⟨by rfl, fun uu hu => by go_simp⟩) ?_
        try go_simp
        refine wpAnyX_both (T := (fun _ => True)) (i := 1) (v := Value.pointer (some ⟨β, 0, none⟩)) rfl (by kernel_rfl) (by kernel_rfl) (by kernel_rfl) (fun _ _ _ h => by first | exact h | exact h.elim) (by decide) (fun _ _ => trivial) (fun _ _ => trivial) (Sx.behind (by kernel_rfl) SS.out.row) (Or.inl ⟨by rfl, fun uu hu => by go_simp⟩) ?_
        try go_simp
        refine wpAnyX_both (T := (fun _ => True)) (i := 2) (v := Value.slice (some ⟨g, 0, none⟩) k cv) rfl (by kernel_rfl) (by kernel_rfl) (by kernel_rfl) (fun _ _ _ h => by first | exact h | exact h.elim) (by decide) (fun _ _ => trivial) (fun _ _ => trivial) (Sx.behind (by kernel_rfl) SS.out.row) (Or.inl ⟨by rfl, fun uu hu => by go_simp⟩) ?_
        try go_simp
        refine wpAnyX_both (T := (fun _ => True)) (i := 3) (v := Value.int .i64 (k : Int)) rfl (by kernel_rfl) (by kernel_rfl) (by kernel_rfl) (fun _ _ _ h => by first | exact h | exact h.elim) (by decide) (fun _ _ => trivial) (fun _ _ => trivial) (Sx.behind (by kernel_rfl) SS.out.row) (Or.inl ⟨by rfl, fun uu hu => by go_simp⟩) ?_
        try go_simp
        refine wpAnyX_both (T := (fun _ => True)) (i := 8) (v := Value.pointer (some ⟨β, 0, none⟩)) rfl (by kernel_rfl) (by kernel_rfl) (by kernel_rfl) (fun _ _ _ h => by first | exact h | exact h.elim) (by decide) (fun _ _ => trivial) (fun _ _ => trivial) (Sx.behind (by kernel_rfl) SS.out.row) (Or.inl ⟨by rfl, fun uu hu => by go_simp⟩) ?_
        try go_simp
        refine wpAnyX_ready (rs := [4]) (by kernel_rfl) (by simp) (AllX.cons rfl (fun K hK => ?_) AllX.nil)
        go_simp
        refine Calls.mono (below_any k (by omega) β a c bs u0 RU.out) ?_
        rintro e u1 ⟨x, rfl, hx3, r3, d3⟩
        have hxk : x < k := by omega
        have S1 := kide (SS.out.far d3 hlt)
        have R1 := kide r3
        have D1 := kide (DU.out.trans d3)
        clear SS RU DU r3 d3 hx3
        have SS := S1
        refine hK _ _ (Sx.behind (by kernel_rfl) SS.out.row) ?_
        clear hK K
        try go_simp
        obtain ⟨y, gy⟩ : ∃ y, l[x]? = some y := ⟨l[x]'(by rw [HL.out]; exact hxk), List.getElem?_eq_getElem _⟩
        have hyp := HX.out y (List.mem_of_getElem? gy)
        obtain ⟨gw, cur, ew, hwl, hwb, hwc⟩ : ∃ gw cur, y.a = some ⟨gw, 0, none⟩ ∧ w.heap.size ≤ gw ∧ u1.heap[gw]? = some (.cells cur 101 (0, 0)) ∧ ∀ i, i < y.ws.length → cur[i]? = some (.int .u64 ((y.ws.getD i 0 : Nat) : Int)) := by
          rcases SS.out.nw y (List.mem_of_getElem? gy) with ⟨h, -⟩ | h
          · rw [h] at hyp; simp at hyp
          · exact h
        obtain ⟨yd, ya, yc, yw⟩ := y
        simp only [] at ew hyp hwc
        subst ew
        have GY := kide gy
        obtain ⟨ym, hym⟩ : ∃ m, yw.length = m := ⟨_, rfl⟩
        have hm1 : 1 ≤ ym := by omega
        have HYM := kide hym
        have xi : (x : Int) < (k : Int) := by omega
        have mi : (0 : Int) < (ym : Int) := by omega
        have mz : ym ≠ 0 := by omega
        have LD : Hid (∀ uu, (fun uu => OB2 uu w.heap.size (.slice (some ⟨g, 0, none⟩) k cv) l) uu → uu.cell? ⟨g, x * 2 + 1, none⟩ = some (.slice (some ⟨gw, 0, none⟩) ym yc)) := fun uu hu => by
          obtain ⟨g', c', eg, -, h2⟩ := OB2.at hu GY.out
          rw [HL.out] at eg
          cases eg
          rw [HYM.out] at h2
          exact h2
        clear gy hym
        refine wpAnyX_both (T := (fun _ => True)) (i := 5) (v := Value.pointer (some ⟨g, x * 2, none⟩)) rfl (by kernel_rfl) (by kernel_rfl) (by kernel_rfl) (fun _ _ _ h => by first | exact h | exact h.elim) (by decide) (fun _ _ => trivial) (fun _ _ => trivial) (Sx.behind (by kernel_rfl) SS.out.row) (Or.inl ⟨by rfl, fun uu hu => by go_simp⟩) ?_
        try go_simp
        refine wpAnyX_both (T := (fun _ => True)) (i := 6) (v := Value.pointer (some ⟨g, x * 2 + 1, none⟩)) rfl (by kernel_rfl) (by kernel_rfl) (by kernel_rfl) (fun _ _ _ h => by first | exact h | exact h.elim) (by decide) (fun _ _ => trivial) (fun _ _ => trivial) (Sx.behind (by kernel_rfl) SS.out.row) (Or.inl ⟨by rfl, fun uu hu => by go_simp⟩) ?_
        try go_simp
        refine wpAnyX_both (T := (fun uu => OB2 uu w.heap.size (.slice (some ⟨g, 0, none⟩) k cv) l)) (i := 7) (v := Value.slice (some ⟨gw, 0, none⟩) ym yc) rfl (by kernel_rfl) (by kernel_rfl) (by kernel_rfl) (fun _ _ _ h => by first | exact h | exact h.elim) (by decide) (fun _ h => h.elim) (fun _ h => h) (Sx.behind (by kernel_rfl) SS.out.row) (Or.inl ⟨by rfl, fun uu hu => by have h := LD.out uu hu; go_simp⟩) ?_
        try go_simp
        refine wpAnyX_ready (rs := [9]) (by kernel_rfl) (by simp) (AllX.cons rfl (fun K hK => ?_) AllX.nil)
        go_simp
        refine Calls.mono (word_any β a c bs u1 R1.out) ?_
        rintro e u2 ⟨z, rfl, hz, r3, d3⟩
        have hgb : gw ≠ β := by omega
        have S2 := kide (SS.out.far d3 hlt)
        have R2 := kide r3
        have D2 := kide (D1.out.trans d3)
        have hw2 : u2.heap[gw]? = some (.cells cur 101 (0, 0)) := (d3.block gw (lt_of_block hwb) (fun e => by cases e; exact hgb rfl)).trans hwb
        clear SS S1 R1 D1 r3 d3 hwb
        have SS := S2
        refine hK _ _ (Sx.behind (by kernel_rfl) SS.out.row) ?_
        clear hK K
        try go_simp
        refine wpAnyX_both (T := (fun _ => True)) (i := 10) (v := Value.pointer (some ⟨gw, 0, none⟩)) rfl (by kernel_rfl) (by kernel_rfl) (by kernel_rfl) (fun _ _ _ h => by first | exact h | exact h.elim) (by decide) (fun _ _ => trivial) (fun _ _ => trivial) (Sx.behind (by kernel_rfl) SS.out.row) (Or.inl ⟨by rfl, fun uu hu => by go_simp⟩) ?_
        try go_simp
        have cz : u2.cell? ⟨gw, 0, none⟩ = some (.int .u64 ((yw.getD 0 0 : Nat) : Int)) := by rw [cell_of_row u2 gw 0 _ _ _ hw2]; exact hwc 0 (by have := HYM.out; omega)
        have fz := frozen_of_row u2 gw 0 _ _ hw2
        have B3 : Hid (Bs (u2.setCell ⟨gw, 0, none⟩ (.int .u64 (z : Int))) w.heap.size (.slice (some ⟨g, 0, none⟩) k cv) (l.set x ⟨yd, some ⟨gw, 0, none⟩, yc, yw.set 0 z⟩)) := by
          have h := S2.out.word GY.out hw2 (by rw [HYM.out]; omega) z
          exact h
        have R3 : Hid (Rr (u2.setCell ⟨gw, 0, none⟩ (.int .u64 (z : Int))) β a c bs) := HR.out.far R2.out (gsc u2 ⟨gw, 0, none⟩ _) (fun k e => by cases e; exact hwl)
        have D3 : Hid (Dw β w (u2.setCell ⟨gw, 0, none⟩ (.int .u64 (z : Int)))) := D2.out.own (gsc u2 ⟨gw, 0, none⟩ _) (fun k e => by cases e; exact hwl)
        refine wpAnyX_ready (rs := [11]) (by kernel_rfl) (by simp) (AllX.cons rfl (fun K hK => ?_) AllX.nil)
        go_simp
        have SR : Hid ((fun uu => OB2 uu w.heap.size (.slice (some ⟨g, 0, none⟩) k cv) l) (u2.setCell ⟨gw, 0, none⟩ (.int .u64 (z : Int)))) := S2.out.wordRow GY.out hw2 z
        refine hK _ _ (Sx.behind (by kernel_rfl) SR.out) ?_
        clear hK K
        try go_simp
        refine wpAnyX_done (by kernel_rfl) ?_ _
        go_wp2_with fail
        go_ret
        obtain ⟨av', cv', eq, hgot⟩ := B3.out.got (okW_in (by rw [List.length_map, List.length_set, HL.out]; omega) (fun x9 hx9 => by
          obtain ⟨y9, hy9, rfl⟩ := List.mem_map.1 hx9
          rcases List.mem_or_eq_of_mem_set hy9 with h9 | rfl
          · exact ⟨(HX.out y9 h9).1, (HX.out y9 h9).2.2⟩
          · refine ⟨hyp.1, by show (yw.set 0 z).length ≤ _; rw [List.length_set]; exact hyp.2.2.1, fun q9 hq9 => ?_⟩
            rcases List.mem_or_eq_of_mem_set hq9 with h9 | rfl
            · exact hyp.2.2.2 q9 h9
            · exact hz))
        rw [List.length_set, HL.out] at eq
        cases eq
        exact ⟨_, cv, _, by rw [List.length_set, HL.out]; rfl, by rw [List.length_set, HL.out]; exact h6, hgot, R3.out, D3.out⟩
      by_cases e1 : x2 = 1
      · subst e1
        obtain ⟨av', cv', eq, hgot⟩ := O2.out.got HOK.out
        rw [HL.out] at eq
        cases eq
        have HG := kide hgot
        have k0 : (1 : Int) ≤ (k : Int) := by omega
        clear hgot e0
        by_cases hc1 : cv = 1
        · subst hc1
          have hk1 : k = 1 := by omega
          subst hk1
          go_wp2_with fail
          go_ret
          refine ⟨_, 0, [], by first | rfl | simp, by simp, ⟨⟨by simp, .inl rfl⟩, by simp, by simp⟩, R2.out, D2.out⟩
        · go_wp2_with fail
          go_ret
          refine ⟨some ⟨g, 2, none⟩, cv - 1, l.tail, by rw [List.length_tail, HL.out]; first | rfl | simp, by rw [List.length_tail, HL.out]; omega, HG.out.tail, R2.out, D2.out⟩
      by_cases e2 : x2 = 2
      · subst e2
        clear e0 e1
        obtain ⟨cur, hcur⟩ := O2.out.row.blk
        have LG := hcur.lt
        go_wp2_with fail
        refine Calls.mono (odd_any β a c bs w2 R2.out) ?_
        rintro e w3 ⟨a3, c3, W3, xs3, rfl, hx31, hx32, hx33, hg3, r3, d3⟩
        have R3 := kide r3
        have D3 := kide (D2.out.trans d3)
        have O3 := kide (O2.out.far d3 hlt)
        have G3 := kide hg3
        have l0 : 0 < l.length := by rw [HL.out]; omega
        obtain ⟨g', c', eg, z0, z1⟩ := O3.out.row.at (List.getElem?_eq_getElem l0)
        rw [HL.out] at eg
        cases eg
        rw [Nat.zero_mul] at z0 z1
        rw [Nat.zero_add] at z1
        obtain ⟨cur3, hcur3⟩ := O3.out.row.blk
        have f0 := hcur3.froz 0
        have f1 := hcur3.froz 1
        obtain ⟨m3, hm3⟩ : ∃ m, xs3.length = m := ⟨_, rfl⟩
        have HM3 := kide hm3
        rw [hm3]
        have hgl : w.heap.size ≤ g := (O3.out.row.lt rfl).1
        have W5 : Hid (GotW ((w3.setCell ⟨g, 0, none⟩ (.int .i64 W3)).setCell ⟨g, 1, none⟩ (.slice a3 m3 c3)) w.heap.size (some ⟨g, 0, none⟩) (l.set 0 ⟨W3, a3, c3, xs3⟩)) := by
          have hrow := O3.out.row.store 0 ⟨W3, a3, c3, xs3⟩
          simp only [Nat.zero_mul, Nat.zero_add, HM3.out] at hrow
          have hne : ∀ p, a3 = some p → p.block ≠ g := fun p hp e => by have := G3.out.2 p hp; have := LG; omega
          have hx : ∀ x ∈ l.set 0 ⟨W3, a3, c3, xs3⟩, Rd ((w3.setCell ⟨g, 0, none⟩ (.int .i64 W3)).setCell ⟨g, 1, none⟩ (.slice a3 m3 c3)) x.a x.ws ∧ in64 x.wd := fun x hx => by
            rcases List.mem_or_eq_of_mem_set hx with hx | rfl
            · have h9 := HX.out x hx
              exact ⟨(nw_set (nw_set (O3.out.nw x hx) hcur3 (by decide) _ _) (hcur3.set _ _) (by decide) _ _).rd h9.2.2.1 h9.2.2.2, by have := h9.1; unfold in64; omega⟩
            · exact ⟨(G3.out.1.other hne _ _).other hne _ _, ⟨hx32, hx33⟩⟩
          obtain ⟨a9, c9, e9, h9⟩ := hrow.rd (by rw [List.length_set, HL.out]; omega) hx
          rw [List.length_set, HL.out] at e9
          cases e9
          refine ⟨h9, fun p _ e => by cases e; exact hgl, fun x hx p _ e => ?_⟩
          rcases List.mem_or_eq_of_mem_set hx with hx | rfl
          · exact (nw_lt (O3.out.nw x hx) e).1
          · have := G3.out.2 p e
            have := D2.out.size
            omega
        have R5 : Hid (Rr ((w3.setCell ⟨g, 0, none⟩ (.int .i64 W3)).setCell ⟨g, 1, none⟩ (.slice a3 m3 c3)) β a c bs) := HR.out.far (HR.out.far R3.out (gsc w3 ⟨g, 0, none⟩ _) (fun k e => by cases e; exact hgl)) (gsc _ ⟨g, 1, none⟩ _) (fun k e => by cases e; exact hgl)
        have D5 : Hid (Dw β w ((w3.setCell ⟨g, 0, none⟩ (.int .i64 W3)).setCell ⟨g, 1, none⟩ (.slice a3 m3 c3))) := (D3.out.own (gsc w3 ⟨g, 0, none⟩ _) (fun k e => by cases e; exact hgl)).own (gsc _ ⟨g, 1, none⟩ _) (fun k e => by cases e; exact hgl)
        clear hm3 hcur3 hcur hg3 r3 d3
        go_wp2_with fail
        go_ret
        exact ⟨_, cv, _, by rw [List.length_set, HL.out]; rfl, by rw [List.length_set, HL.out]; exact h6, W5.out, R5.out, D5.out⟩
      have n0 : ((x2 : Int) == 0) = false := beq_eq_false_iff_ne.2 (by omega)
      have n1 : ((x2 : Int) == 1) = false := beq_eq_false_iff_ne.2 (by omega)
      have n2 : ((x2 : Int) == 2) = false := beq_eq_false_iff_ne.2 (by omega)
      clear e0 e1 e2
      go_wp2_with fail
      go_ret
      obtain ⟨av', cv', eq, hgot⟩ := O2.out.got HOK.out
      rw [HL.out] at eq
      cases eq
      exact ⟨_, cv, l, by rw [HL.out]; rfl, by rw [HL.out]; exact h6, hgot, R2.out, D2.out⟩

end Go.Proofs.Ytpmpipcpifmncaa

/- Rows of numbers of one's own, while a reader of draws is turned. -/
namespace Go.Proofs.Ytpmpipcpifmncaa
set_option linter.unusedVariables false
set_option linter.unusedSimpArgs false
open Go.RowKit

theorem OI.far {w w' : World} {B : Nat} {v : Value} {l : List Int} {β : Nat} (h : OI w B v l) (hd : Dw β w w') (hβ : β < B) : OI w' B v l := h.move fun b hb => hd.block b (h.lt hb).2 (fun e => by cases e; have := (h.lt hb).1; omega)

end Go.Proofs.Ytpmpipcpifmncaa

/- What DrawMerge tells. -/
namespace Go.Proofs.Ytpmpipcpifmncaa
set_option linter.unusedVariables false
set_option linter.unusedSimpArgs false
open Go.RowKit

/-- What the draw tells. -/
def RetDM (w : World) (e : Ending) (w' : World) : Prop := ∃ a1 c1 ds a2 c2 xs a3 c3 ys a4 c4 vs, e = .returned (.tuple #[.slice a1 ds.length c1, .slice a2 xs.length c2, .slice a3 ys.length c3, .slice a4 vs.length c4]) ∧ RdD w' a1 ds ∧ RdW w' a2 xs ∧ RdW w' a3 ys ∧ RdI w' a4 vs ∧ Below w.heap.size w w'

set_option maxHeartbeats 1000000 in
theorem drawMerge_any (a : Option Addr) (c : Nat) (bs : List Nat) (w : World) (h : RdB w a bs) :
    Calls Try.prog 24 #[.slice a bs.length c] w (RetDM w) := by
  have HO := kide (open_any a c bs w h)
  have hlb := h.1
  generalize bs.length = bn at *
  clear h
  go_enter Try.func24, Try.ntmps24
  go_wp2_with fail
  refine Calls.mono HO.out ?_
  rintro e w1 ⟨β, rfl, hβ, r1, hb1⟩
  have R1 := kide r1
  have B1 := kide hb1
  clear r1 hb1
  go_wp2_with fail
  refine Calls.mono (decls_any β a c bs w1 R1.out) ?_
  rintro e w2 ⟨v2, ds, rfl, o2, hd1, hd6, hdx, r2, d2⟩
  have R2 := kide r2
  have D2 := kide d2
  have HL1 := R1.out.lt
  obtain ⟨a1, c1, rfl, hrd⟩ := o2.rd (by omega) (fun x hx => ⟨by have := hdx x hx; unfold in64; omega, by have := (hdx x hx).2.2; omega⟩)
  have O2 := kide o2
  have RD2 := kide hrd
  have HDX := kide hdx
  have HA1 : Hid (∀ p, a1 = some p → p.block ≠ β) := fun p hp e => by
    subst hp
    have := (o2.lt (b := p.block) (by rcases o2.2 with ⟨e', -⟩ | ⟨g, cap, cur, e', -⟩ <;> cases e'; rfl)).1
    omega
  clear r2 d2 o2 hrd hdx
  go_wp2_with fail
  have HL2 : β < w2.heap.size := Nat.lt_of_lt_of_le HL1 D2.out.size
  have RA := kide (R2.out.alloc (.cells #[] 2))
  have OA := kide (OI.empty w2 w2.heap.size (Nat.le_refl _))
  have DA : Hid (Dw β w2 (w2.alloc (.cells #[] 2))) := (Dw.refl β w2).alloc _
  generalize w2.alloc (Obj.cells #[] 2) = w3 at *
  have HVL := kide (fun u (hr : Rr u β a c bs) (hd : RdD u a1 ds) => values_any β a c bs a1 c1 ds u hr hd HA1.out hd1 hd6 (fun x hx => ⟨(HDX.out x hx).1, (HDX.out x hx).2.1⟩))
  obtain ⟨n, hn⟩ : ∃ n, ds.length = n := ⟨_, rfl⟩
  have HN := kide hn
  rw [hn] at hd1 hd6 HVL ⊢
  clear hn
  go_loopw [8, 9] (fun v q wr => ∃ (k : Nat) (l : List Int) (av : Option Addr) (cv : Nat), k ≤ n ∧ q = .int .i64 (k : Int) ∧ v = .slice av l.length cv ∧ l.length ≤ k ∧ (∀ x ∈ l, in64 x) ∧ OI wr w2.heap.size (.slice av l.length cv) l ∧ Rr wr β a c bs ∧ Dw β w2 wr) (fun _ q _ => n - (intOf q).toNat)
  case atStart => exact ⟨0, [], some ⟨w2.heap.size, 0, none⟩, 0, Nat.zero_le _, rfl, rfl, Nat.le_refl _, by simp, OA.out, RA.out, DA.out⟩
  case round =>
    clear RA OA DA
    obtain ⟨k, lv, av, cv, hk, rfl, rfl, hlk, hx, ho, hr, hd⟩ := hrel
    have OO := kide ho
    have HV := kide hx
    have RR := kide hr
    have DD := kide hd
    clear ho hx hr hd
    by_cases hlt : k < n
    · go_wp2_with fail
      refine Calls.mono (once_any 2 (by omega) (by omega) β a c bs wr RR.out) ?_
      rintro e w4 ⟨x4, rfl, r4, d4⟩
      have R4 := kide r4
      have D4 := kide (DD.out.trans d4)
      have O4 := kide (OO.out.far d4 HL2)
      clear r4 d4 RR DD OO
      cases x4 with
      | true =>
        have hb5 : Below w4.heap.size w4 (w4.alloc (Obj.cells #[Value.int .i64 (k : Int)] 2)) := (Below.refl _ _).alloc (Nat.le_refl _) _
        have q0 : (w4.alloc (Obj.cells #[Value.int .i64 (k : Int)] 2)).cell? ⟨w4.heap.size, 0, none⟩ = some (.int .i64 (k : Int)) := by simp
        have R5 := kide (R4.out.later hb5)
        have D5 := kide (D4.out.trans (Dw.of hb5))
        have O5 := kide (O4.out.later hb5)
        have hsz : w2.heap.size ≤ (w4.alloc (Obj.cells #[Value.int .i64 (k : Int)] 2)).heap.size := D5.out.size
        clear hb5
        go_wp2_with (at_builtin; refine wpList_appI rfl _ _ rfl w2.heap.size (.slice av lv.length cv) lv (k : Int) (by first | rfl | simp [Act.eval]) O5.out w4.heap.size 1 (by first | rfl | simp [Act.eval]) q0 (by omega) hsz ?_)
        intro g cap w6 ho6 hg6 _
        have O6 := kide ho6
        have R6 : Hid (Rr w6 β a c bs) := R2.out.far R5.out hg6 (fun k e => (O5.out.lt e).1)
        have D6 : Hid (Dw β w2 w6) := D5.out.own hg6 (fun k e => (O5.out.lt e).1)
        clear ho6 hg6 q0
        go_wp2_with fail
        go_roundw
        case rel =>
          refine ⟨k + 1, lv ++ [(k : Int)], some ⟨g, 0, none⟩, cap, by omega, by go_num, by simp, by simp; omega, fun x hx => ?_, by simpa using O6.out, R6.out, D6.out⟩
          rcases List.mem_append.1 hx with hx | hx
          · exact HV.out x hx
          · simp at hx
            subst hx
            unfold in64; omega
        case measure => simp [intOf]; omega
      | false =>
        go_wp2_with fail
        go_roundw
        case rel => exact ⟨k + 1, lv, av, cv, by omega, by go_num, rfl, by omega, HV.out, O4.out, R4.out, D4.out⟩
        case measure => simp [intOf]; omega
    · go_wp2_with fail
      refine Calls.mono (once_any 16 (by omega) (by omega) β a c bs wr RR.out) ?_
      rintro e w4 ⟨x4, rfl, r4, d4⟩
      have R4 := kide r4
      have D4 := kide (DD.out.trans d4)
      have O4 := kide (OO.out.far d4 HL2)
      clear r4 d4 RR DD OO
      cases x4 with
      | true =>
        obtain ⟨nd, rfl⟩ : ∃ nd, n = nd + 1 := ⟨n - 1, by omega⟩
        go_wp2_with fail
        refine Calls.mono (off_any 0 nd (by omega) (by omega) β a c bs w4 R4.out) ?_
        rintro e w5 ⟨y, rfl, hy1, hy2, r5, d5⟩
        have RX := kide r5
        have DX := kide (D4.out.trans d5)
        have OX := kide (O4.out.far d5 HL2)
        clear r5 d5 R4 D4 O4
        have hb5 : Below w5.heap.size w5 (w5.alloc (Obj.cells #[Value.int .i64 y] 2)) := (Below.refl _ _).alloc (Nat.le_refl _) _
        have q0 : (w5.alloc (Obj.cells #[Value.int .i64 y] 2)).cell? ⟨w5.heap.size, 0, none⟩ = some (.int .i64 y) := by simp
        have R5 := kide (RX.out.later hb5)
        have D5 := kide (DX.out.trans (Dw.of hb5))
        have O5 := kide (OX.out.later hb5)
        have hsz : w2.heap.size ≤ (w5.alloc (Obj.cells #[Value.int .i64 y] 2)).heap.size := D5.out.size
        clear hb5 RX DX OX
        go_wp2_with (at_builtin; refine wpList_appI rfl _ _ rfl w2.heap.size (.slice av lv.length cv) lv y (by first | rfl | simp [Act.eval]) O5.out w5.heap.size 1 (by first | rfl | simp [Act.eval]) q0 (by omega) hsz ?_)
        intro g cap w4 ho6 hg6 _
        have O4 : Hid (OI w4 w2.heap.size (.slice (some ⟨g, 0, none⟩) (lv ++ [y]).length cap) (lv ++ [y])) := by show OI _ _ _ _; simpa using ho6
        have R4 : Hid (Rr w4 β a c bs) := R2.out.far R5.out hg6 (fun k e => (O5.out.lt e).1)
        have D4 : Hid (Dw β w2 w4) := D5.out.own hg6 (fun k e => (O5.out.lt e).1)
        have HV2 : Hid (∀ x ∈ lv ++ [y], in64 x) := fun x hx => by
          rcases List.mem_append.1 hx with hx | hx
          · exact HV.out x hx
          · simp at hx
            subst hx
            exact ⟨hy1, hy2⟩
        have hlv : (lv ++ [y]).length ≤ 7 := by simp; omega
        rw [show lv.length + 1 = (lv ++ [y]).length by simp]
        generalize lv ++ [y] = lw at *
        clear ho6 hg6 q0 HV R5 D5 O5
        obtain ⟨av, hav⟩ : ∃ av, av = (some ⟨g, 0, none⟩ : Option Addr) := ⟨_, rfl⟩
        rw [← hav] at O4 ⊢
        have HV := HV2
        clear HV2 hav
        go_wp2_with fail
        refine Calls.mono (HVL.out w4 R4.out (RD2.out.farB D4.out HA1.out)) ?_
        rintro e w8 ⟨a8, c8, xs8, rfl, h86, g8, r8, d8⟩
        have R8 := kide r8
        have D8 := kide (D4.out.trans d8)
        have O8 := kide (O4.out.far d8 HL2)
        have G8 := kide g8
        have S8 := kide (show w2.heap.size ≤ w4.heap.size from D4.out.size)
        clear r8 d8 g8 R4 D4 O4
        go_wp2_with fail
        refine Calls.mono (HVL.out w8 R8.out (RD2.out.farB D8.out HA1.out)) ?_
        rintro e w9 ⟨a9, c9, xs9, rfl, h96, g9, r9, d9⟩
        have D9 := kide (D8.out.trans d9)
        have O9 := kide (O8.out.far d9 HL2)
        have G9 := kide (G8.out.far d9 (Nat.lt_of_lt_of_le HL2 S8.out))
        obtain ⟨a4, c4, e4, h4⟩ := O9.out.rd (by omega) HV.out
        have eV := e4
        cases e4
        have HF : Hid (RdD w9 a1 ds ∧ RdW w9 a8 xs8 ∧ RdW w9 a9 xs9 ∧ RdI w9 av lw ∧ Below w.heap.size w w9) := ⟨RD2.out.farB D9.out HA1.out, G9.out.1, g9.1, h4, (B1.out.trans ((D2.out.below hβ B1.out.size))).trans ((D9.out.below hβ (Nat.le_trans B1.out.size D2.out.size)))⟩
        clear h4 g9 r9 d9 eV
        go_wp2_with fail
        go_returns
        exact ⟨a1, c1, ds, a8, c8, xs8, a9, c9, xs9, av, cap, lw, by rw [HN.out], HF.out⟩
      | false =>
        have hlv : lv.length ≤ 7 := by omega
        go_wp2_with fail
        refine Calls.mono (HVL.out w4 R4.out (RD2.out.farB D4.out HA1.out)) ?_
        rintro e w8 ⟨a8, c8, xs8, rfl, h86, g8, r8, d8⟩
        have R8 := kide r8
        have D8 := kide (D4.out.trans d8)
        have O8 := kide (O4.out.far d8 HL2)
        have G8 := kide g8
        have S8 := kide (show w2.heap.size ≤ w4.heap.size from D4.out.size)
        clear r8 d8 g8 R4 D4 O4
        go_wp2_with fail
        refine Calls.mono (HVL.out w8 R8.out (RD2.out.farB D8.out HA1.out)) ?_
        rintro e w9 ⟨a9, c9, xs9, rfl, h96, g9, r9, d9⟩
        have D9 := kide (D8.out.trans d9)
        have O9 := kide (O8.out.far d9 HL2)
        have G9 := kide (G8.out.far d9 (Nat.lt_of_lt_of_le HL2 S8.out))
        obtain ⟨a4, c4, e4, h4⟩ := O9.out.rd (by omega) HV.out
        have eV := e4
        cases e4
        have HF : Hid (RdD w9 a1 ds ∧ RdW w9 a8 xs8 ∧ RdW w9 a9 xs9 ∧ RdI w9 av lv ∧ Below w.heap.size w w9) := ⟨RD2.out.farB D9.out HA1.out, G9.out.1, g9.1, h4, (B1.out.trans ((D2.out.below hβ B1.out.size))).trans ((D9.out.below hβ (Nat.le_trans B1.out.size D2.out.size)))⟩
        clear h4 g9 r9 d9 eV
        go_wp2_with fail
        go_returns
        exact ⟨a1, c1, ds, a8, c8, xs8, a9, c9, xs9, av, cv, lv, by rw [HN.out], HF.out⟩

end Go.Proofs.Ytpmpipcpifmncaa

/- Contracts of the laws' own functions: has, sameValues. -/
namespace Go.Proofs.Ytpmpipcpifmncaa
set_option linter.unusedVariables false
set_option linter.unusedSimpArgs false
open Go.RowKit

theorem has_any (a : Option Addr) (c : Nat) (ks : List Int) (x : Int) (w : World) (hr : RdI w a ks) :
    Calls Try.prog 27 #[.slice a ks.length c, .int .i64 x] w fun e w' => e = .returned (.bool (decide (x ∈ ks))) ∧ w' = w := by
  have hlen := hr.1
  go_enter Try.func27, Try.ntmps27
  go_wp2_with fail
  go_loop [5] (fun i => ∃ k : Nat, k ≤ ks.length ∧ i = .int .i64 (k : Int) ∧ ∀ j, j < k → ks.getD j 0 ≠ x) (fun i => ks.length - (intOf i).toNat)
  case atStart => exact ⟨0, Nat.zero_le _, rfl, fun j h => by omega⟩
  case round =>
    obtain ⟨k, hk, rfl, hz⟩ := hrel
    have HZ := kide hz
    by_cases hlt : k < ks.length
    · obtain ⟨-, -, h | ⟨b, o, rfl, hc⟩⟩ := hr
      · subst h; simp at hlt
      have e0 := hc k hlt
      have hmem : ks.getD k 0 ∈ ks := by simp [List.getD, hlt]
      generalize hy : ks.getD k 0 = y at *
      have HY := kide hy
      have i0 : (k : Int) < (ks.length : Int) := by omega
      clear hc hz hy
      by_cases hxy : y = x
      · have e1 : (y == x) = true := by simp [hxy]
        have HR : Hid (decide (x ∈ ks) = true) := decide_eq_true (by rw [← hxy]; exact hmem)
        clear hxy hmem
        go_wp2_with fail
        go_ret
        exact ⟨ret_bool HR.out.symm, rfl⟩
      · have e1 : (y == x) = false := by simp [hxy]
        have HX := kide hxy
        clear hxy hmem
        go_wp2_with fail
        go_round
        case rel =>
          refine ⟨k + 1, by omega, by go_num, fun j hj => ?_⟩
          by_cases hjk : j = k
          · rw [hjk, HY.out]; exact HX.out
          · exact HZ.out j (by omega)
        case measure => simp [intOf]; omega
    · have HR : Hid (decide (x ∈ ks) = false) := decide_eq_false (fun h => by
        obtain ⟨j, hj, e⟩ := List.mem_iff_getElem.1 h
        exact hz j (by omega) (by simp [List.getD, hj, e]))
      clear hz
      go_wp2_with fail
      go_ret
      exact ⟨ret_bool HR.out.symm, rfl⟩

theorem sameValues_any (a b : Option Addr) (c d n : Nat) (xs ys : List Bw) (w : World) (hr : RdW w a xs) (hs : RdW w b ys) (he : xs.map Bw.ct = ys.map Bw.ct) (h1 : xs.length = n) (h2 : ys.length = n) :
    Calls Try.prog 29 #[.slice a n c, .slice b n d] w fun e w' => e = .returned (.bool true) ∧ Below w.heap.size w w' := by
  have hl1 := hr.1
  rw [h1] at hl1
  have hne : ((n : Int) != (n : Int)) = false := by simp
  have H1 := kide h1
  have H2 := kide h2
  have HE := kide he
  have HR := kide hr
  have HS := kide hs
  clear h1 h2 he hr hs
  go_enter Try.func29, Try.ntmps29
  go_wp2_with fail
  clear hne
  go_loopw [5] (fun i wr => ∃ k : Nat, k ≤ n ∧ i = .int .i64 k ∧ Below w.heap.size w wr) (fun i _ => n - (intOf i).toNat)
  case atStart => exact ⟨0, Nat.zero_le _, rfl, Below.refl _ _⟩
  case round =>
    obtain ⟨k, hk, rfl, hbel⟩ := hrel
    have HB := kide hbel
    by_cases hlt : k < n
    · obtain ⟨-, h | ⟨b1, o1, rfl, hc1⟩⟩ := HR.out.later hbel
      · have := H1.out; subst h; simp at this; omega
      obtain ⟨-, h | ⟨b2, o2, rfl, hc2⟩⟩ := HS.out.later hbel
      · have := H2.out; subst h; simp at this; omega
      obtain ⟨x, hx⟩ : ∃ x, xs[k]? = some x := ⟨xs[k]'(by rw [H1.out]; exact hlt), List.getElem?_eq_getElem _⟩
      obtain ⟨y, hy⟩ : ∃ y, ys[k]? = some y := ⟨ys[k]'(by rw [H2.out]; exact hlt), List.getElem?_eq_getElem _⟩
      have hxy : x.ct = y.ct := by
        have h := congrArg (fun l => l[k]?) HE.out
        simp [hx, hy] at h
        exact h
      obtain ⟨p0, p1, p2, -⟩ := hc1 k _ hx
      obtain ⟨q0, q1, q2, -⟩ := hc2 k _ hy
      obtain ⟨xd, xa, xc, xw⟩ := x
      obtain ⟨yd, ya, yc, yw⟩ := y
      simp only [Bw.ct, Prod.mk.injEq] at hxy
      obtain ⟨rfl, rfl⟩ := hxy
      simp only [] at p0 p1 p2 q0 q1 q2
      have HEQ : Hid (∀ u, Below wr.heap.size wr u → Calls Try.prog 28 #[.agg #[.int .i64 xd, .slice xa xw.length xc], .agg #[.int .i64 xd, .slice ya xw.length yc]] u fun e w' => e = .returned (.bool true) ∧ Below u.heap.size u w') := fun u hu => by
        have := same_any xd xd xa ya xc yc xw xw u (p2.later hu) (q2.later hu)
        simpa using this
      have i0 : (k : Int) < (n : Int) := by omega
      have l1 := block_lt_of_cell p0
      have l2 := block_lt_of_cell q0
      clear hc1 hc2 hbel hx hy p2 q2
      go_wp2_with fail
      go_region_held3 (fun u => u.cell? ⟨b1, o1 + k * 2, none⟩ = some (Value.int .i64 xd) ∧ u.cell? ⟨b1, o1 + k * 2 + 1, none⟩ = some (Value.slice xa xw.length xc) ∧ u.cell? ⟨b2, o2 + k * 2, none⟩ = some (Value.int .i64 xd) ∧ u.cell? ⟨b2, o2 + k * 2 + 1, none⟩ = some (Value.slice ya xw.length yc)) (simp [*])
        ((go_at_call 28; refine Calls.mono (HEQ.out _ ?_) ?_; exact (Below.refl _ _).drew; rintro e w1 ⟨rfl, hb1⟩; replace hb1 := kundrew hb1; have k0 := kcell hb1 b1 (o1 + k * 2) l1; have k1 := kcell hb1 b1 (o1 + k * 2 + 1) l1; have k2 := kcell hb1 b2 (o2 + k * 2) l2; have k3 := kcell hb1 b2 (o2 + k * 2 + 1) l2))
      go_wp2_with fail
      go_roundw
      case rel => exact ⟨k + 1, by omega, by go_num, HB.out.trans (hb1.mono HB.out.size)⟩
      case measure => simp [intOf]; omega
    · clear hbel
      go_wp2_with fail
      go_ret
      exact ⟨rfl, HB.out⟩

end Go.Proofs.Ytpmpipcpifmncaa
