/- Several texts in one. -/
import Derived.Test.YtffcklobignlfaaGAF
import Derived.Test.YtffcklobignlfaaGAH
import Derived.Deep.AppendLies
import Derived.Handy
import Derived.Test.YtffcklobignlfaaGAM
import Derived.Test.YtffcklobignlfaaRX
import Derived.Test.YtffcklobignlfaaGAI
namespace Go.Proofs.Ytffcklobignlfaa
open Go.RowKit
set_option linter.unusedVariables false
set_option linter.unusedSimpArgs false
def dcc : List Dc → List Value
 | [] => []
 | x :: t => .string x.1 :: .int .i64 x.2 :: dcc t
theorem dcc_append (l m : List Dc) : dcc (l ++ m) = dcc l ++ dcc m := by
 induction l with
 | nil => rfl
 | cons x t ih => simp [dcc, ih]
theorem dcc_get : ∀ {l : List Dc} {i : Nat} {x : Dc}, l[i]? = some x → (dcc l)[i * 2]? = some (.string x.1) ∧ (dcc l)[i * 2 + 1]? = some (.int .i64 x.2)
 | y :: t, 0, x, h => by simp at h; subst h; simp [dcc]
 | y :: t, i + 1, x, h => by
  have := dcc_get (l := t) (i := i) (x := x) (by simpa using h)
  rw [show (i + 1) * 2 = i * 2 + 1 + 1 by omega]
  simpa [dcc] using this
def OD (w : World) (B : Nat) (v : Value) (l : List Dc) : Prop := w.ownsRow B 62 2 v l.length (dcc l)
theorem OD.move {w w' : World} {B : Nat} {v : Value} {l : List Dc} (h : OD w B v l) (hk : ∀ b, v.ownBlock = some b → w'.heap[b]? = w.heap[b]?) : OD w' B v l := by
 refine ⟨h.1, ?_⟩
 rcases h.2 with h0 | ⟨g, cap, cur, rfl, hg, hh, r⟩
 ·exact .inl h0
 ·exact .inr ⟨g, cap, cur, rfl, hg, (hk g rfl).trans hh, r⟩
theorem OD.lt {w : World} {B : Nat} {v : Value} {l : List Dc} (h : OD w B v l) {b : Nat} (hb : v.ownBlock = some b) : B ≤ b ∧ b < w.heap.size := by
 rcases h.2 with ⟨rfl, -⟩ | ⟨g, cap, cur, rfl, hg, hh, -⟩
 ·cases hb
 ·cases hb
  exact ⟨hg, lt_of_block hh⟩
theorem OD.far {w w' : World} {B : Nat} {v : Value} {l : List Dc} {β : Nat} (h : OD w B v l) (hd : Dw β w w') (hβ : β < B) : OD w' B v l := h.move fun b hb => hd.block b (h.lt hb).2 (fun e => by cases e; have := (h.lt hb).1; omega)
theorem OD.later {w w' : World} {B : Nat} {v : Value} {l : List Dc} (h : OD w B v l) (hb : Below w.heap.size w w') : OD w' B v l := h.move fun b hb' => hb.block b (h.lt hb').2
theorem OD.empty (w : World) (B : Nat) (h : B ≤ w.heap.size) : OD (w.alloc (.cells #[] 62)) B (.slice (some ⟨w.heap.size, 0, Option.none⟩) 0 0) [] := World.ownsRow_made w #[] 0 h (Nat.zero_le _) (by simp)
theorem OD.rd {w : World} {B : Nat} {v : Value} {l : List Dc} (h : OD w B v l) (hl : l.length ≤ 1048576) (hx : ∀ x ∈ l, in64 x.2 ∧ x.1.size ≤ 1048576) : ∃ a c, v = .slice a l.length c ∧ RdD w a l := by
 rcases h.2 with ⟨rfl, h0⟩ | ⟨g, cap, cur, rfl, hg, hh, hc1, hc2, hsz, hcur⟩
 ·have e := List.eq_nil_of_length_eq_zero h0
  subst e
  exact ⟨none, 0, rfl, by simp, by simp, .inl rfl⟩
 ·refine ⟨some ⟨g, 0, none⟩, cap, rfl, hl, ?_, .inr ⟨g, 0, rfl, fun i x hi => ?_⟩⟩
  ·exact fun d hd => ⟨(hx d hd).1, by have := (hx d hd).2; omega⟩
  ·have hil := (List.getElem?_eq_some_iff.1 hi).1
   obtain ⟨e0, e1⟩ := dcc_get hi
   rw [← hcur] at e0 e1
   rw [List.getElem?_take, if_pos (by omega)] at e0 e1
   simp only [Array.getElem?_toList] at e0 e1
   exact ⟨by rw [Nat.zero_add, cell_of_row w g _ cur _ _ hh]; exact e0, by rw [Nat.zero_add, cell_of_row w g _ cur _ _ hh]; exact e1⟩
theorem wpList_appD {w : World} {ops : Array Oper} {rest : List Oper} {o : Oper} {a : Act} {Q : Exit → Act → World → Prop} (hgd : o.guard = none) (s x : Operand)
  (ho : o.op = .call { callee := .builtin .append, args := #[s, x], argTypes := #[24, 24] })
  (B : Nat) (v : Value) (l : List Dc) (y : Dc) (hs : a.eval s = v) (hown : OD w B v l) (gx c : Nat) (hx : a.eval x = .slice (some ⟨gx, 0, none⟩) 1 c)
  (h0 : w.cell? ⟨gx, 0, none⟩ = some (.string y.1)) (h1 : w.cell? ⟨gx, 1, none⟩ = some (.int .i64 y.2)) (hl : l.length ≤ 1073741824) (hB : B ≤ w.heap.size)
  (h : ∀ g cap w', OD w' B (.slice (some ⟨g, 0, none⟩) (l.length + 1) cap) (l ++ [y]) → w.grownBy w' v.ownBlock → wpList Try.prog ops Q rest (a.put o.dst (.slice (some ⟨g, 0, none⟩) (l.length + 1) cap)) w') : wpList Try.prog ops Q (o :: rest) a w := by
 obtain ⟨i0, hi, hz0, hz1, hz2⟩ := info_parts Try.infoDecl
 refine wpList_append_lies w hgd s x 24 ho B 62 i0 _ 2 24 Try.underlying24 hi hz0 hz1 hz2 rfl (by decide) v l.length (dcc l) hs hown ⟨gx, 0, none⟩ 1 c (dcc [y]) hx rfl ?_ ?_ (by decide) ?_ ?_ hB _ rfl ?_
 ·intro j u hj
  rw [Addr.add_lit]
  match j, hj with
  | 0, hj => simp [dcc] at hj; subst hj; exact h0
  | 1, hj => simp [dcc] at hj; subst hj; exact h1
  | j + 2, hj => simp [dcc] at hj
 ·intro u hu
  simp [dcc] at hu
  rcases hu with rfl | rfl <;> rfl
 ·unfold maxLen; omega
 ·omega
 ·intro g cap w' h1 h2 _ _
  refine h g cap w' ?_ h2
  unfold OD
  rw [dcc_append, List.length_append]
  exact h1
def RetDs (β : Nat) (a : Option Addr) (c : Nat) (bs : List Nat) (w : World) (e : Ending) (w' : World) : Prop := ∃ v ds, e = .returned v ∧ OD w' w.heap.size v ds ∧ 1 ≤ ds.length ∧ ds.length ≤ 6 ∧ (∀ x ∈ ds, 1 ≤ x.2 ∧ x.2 ≤ 200 ∧ x.1.size ≤ 1) ∧ Rr w' β a c bs ∧ Dw β w w'
theorem belowI (N : Int) (h0 : 0 ≤ N) (hN : N ≤ 4194304) (β : Nat) (a : Option Addr) (c : Nat) (bs : List Nat) (w : World) (h : Rr w β a c bs) :
  Calls Try.prog 27 #[.pointer (some ⟨β, 0, none⟩), .int .i64 N] w fun e w' => ∃ x : Nat, e = .returned (.int .i64 x) ∧ (x = 0 ∨ (x : Int) < N) ∧ Rr w' β a c bs ∧ Dw β w w' := by
 obtain ⟨n, rfl⟩ := Int.eq_ofNat_of_zero_le h0
 refine (below_any n (by omega) β a c bs w h).mono ?_
 rintro e w' ⟨x, rfl, hx, h1, h2⟩
 exact ⟨x, rfl, by omega, h1, h2⟩
theorem Rr.alloc {w : World} {β : Nat} {a : Option Addr} {c : Nat} {bs : List Nat} (h : Rr w β a c bs) (o : Obj) : Rr (w.alloc o) β a c bs := h.later ((Below.refl _ _).alloc (Nat.le_refl _) _)
theorem Rr.slice {w : World} {β : Nat} {a : Option Addr} {c : Nat} {bs : List Nat} (h : Rr w β a c bs) : w.cell? ⟨β, 0, none⟩ = some (.slice a bs.length c) := by obtain ⟨p, hp, hk, hb, -⟩ := h; exact hk.cells.1
set_option maxHeartbeats 1000000 in
theorem decls_any (β : Nat) (a : Option Addr) (c : Nat) (bs : List Nat) (w : World) (hr : Rr w β a c bs) :
  Calls Try.prog 11 #[.pointer (some ⟨β, 0, none⟩)] w (RetDs β a c bs w) := by
 have hlb : bs.length ≤ 4194304 := by obtain ⟨p, hp, hk, hb, -⟩ := hr; exact hb.1
 have c0 := hr.slice
 have hlt := hr.lt
 have HR := kide hr
 clear hr
 have R0 := kide (HR.out.alloc (.cells #[] 62))
 have O0 := kide (OD.empty w w.heap.size (Nat.le_refl _))
 have D0 : Hid (Dw β w (w.alloc (.cells #[] 62))) := (Dw.refl β w).alloc _
 go_enter Try.func11, Try.ntmps11
 go_wp2_with fail
 generalize w.alloc (Obj.cells #[] 62) = w0 at *
 refine Calls.mono (belowI _ (by omega) (by omega) β a c bs w0 R0.out) ?_
 rintro e w1 ⟨x1, rfl, hx1, r1, d1⟩
 have R1 := kide r1
 have D1 := kide (D0.out.trans d1)
 have O1 := kide (O0.out.far d1 hlt)
 have hx6 : x1 < 6 := by omega
 clear hx1 r1 d1 R0 D0 O0 c0
 go_wp2_with fail
 go_loopw [3, 4] (fun v q wr => ∃ (k : Nat) (l : List Dc) (av : Option Addr) (cv : Nat), q = .int .i64 (k : Int) ∧ v = .slice av l.length cv ∧ l.length + k = x1 + 1 ∧ OD wr w.heap.size (.slice av l.length cv) l ∧ (∀ x ∈ l, 1 ≤ x.2 ∧ x.2 ≤ 200 ∧ x.1.size ≤ 1) ∧ Rr wr β a c bs ∧ Dw β w wr) (fun _ q _ => (intOf q).toNat)
 case atStart => exact ⟨x1 + 1, [], some ⟨w.heap.size, 0, none⟩, 0, by go_num, rfl, by simp, O1.out, by simp, R1.out, D1.out⟩
 case round =>
  clear R1 D1 O1
  obtain ⟨k, l, av, cv, rfl, rfl, hk, ho, hx, hrr, hdw⟩ := hrel
  have OO := kide ho
  have HX := kide hx
  have RR := kide hrr
  have DD := kide hdw
  clear ho hx hrr hdw
  by_cases hk0 : 0 < k
  ·obtain ⟨q, rfl⟩ : ∃ q, k = q + 1 := ⟨k - 1, by omega⟩
   go_wp2_with fail
   refine Calls.mono (below_any 8 (by omega) β a c bs wr RR.out) ?_
   rintro e w2 ⟨x2, rfl, hx2, r2, d2⟩
   have R2 := kide r2
   have D2 := kide (DD.out.trans d2)
   have O2 := kide (OO.out.far d2 hlt)
   have hx8 : x2 < 8 := by omega
   clear hx2 r2 d2 RR DD OO
   go_wp2_with fail
   refine Calls.mono (once_any 6 (by omega) (by omega) β a c bs w2 R2.out) ?_
   rintro e w3 ⟨x3, rfl, r3, d3⟩
   have R3 := kide r3
   have D3 := kide (D2.out.trans d3)
   have O3 := kide (O2.out.far d3 hlt)
   clear r3 d3 R2 D2 O2
   cases x3 with
   | true =>
    go_wp2_with fail
    refine Calls.mono (wide_any β a c bs w3 R3.out) ?_
    rintro e w4 ⟨x4, rfl, hx41, hx42, r4, d4⟩
    have R4 := kide r4
    have D4 := kide (D3.out.trans d4)
    have O4 := kide (O3.out.far d4 hlt)
    clear r4 d4 R3 D3 O3
    have hcv : (convert 22 9 (.slice (some ⟨w4.heap.size, 0, none⟩) 1 1)).run Try.prog (w4.alloc (Obj.cells #[.int .u8 (97 + (l.length : Int) % 26)] 5)) = .ok (.string ⟨#[UInt8.ofNat (97 + l.length % 26)]⟩) (w4.alloc (Obj.cells #[.int .u8 (97 + (l.length : Int) % 26)] 5)) := by
     have h := run_convert_bytes_back (P := Try.prog) (w4.alloc (Obj.cells #[.int .u8 (97 + (l.length : Int) % 26)] 5)) 22 9 5 ⟨w4.heap.size, 0, none⟩ 1 [UInt8.ofNat (97 + l.length % 26)] Try.underlying22 Try.underlying5 Try.underlying9 (fun j hj => by
      have hj0 : j = 0 := by simpa using hj
      subst hj0
      have e : ((UInt8.ofNat (97 + l.length % 26)).toNat : Int) = 97 + (l.length : Int) % 26 := by
       rw [UInt8.toNat_ofNat']
       omega
      rw [Addr.add_lit]
      simp [e]
      omega)
     exact h
    generalize hs1 : (⟨#[UInt8.ofNat (97 + l.length % 26)]⟩ : ByteArray) = s1 at hcv
    have hs1z : s1.size ≤ 1 := by rw [← hs1]; exact Nat.le_refl _
    clear hs1
    have hb5 : Below w4.heap.size w4 ((w4.alloc (Obj.cells #[.int .u8 (97 + (l.length : Int) % 26)] 5)).alloc (Obj.cells #[.string s1, .int .i64 (x4 : Int)] 62)) := ((Below.refl _ _).alloc (Nat.le_refl _) _).alloc (by simp) _
    have q0 : ((w4.alloc (Obj.cells #[.int .u8 (97 + (l.length : Int) % 26)] 5)).alloc (Obj.cells #[.string s1, .int .i64 (x4 : Int)] 62)).cell? ⟨w4.heap.size + 1, 0, none⟩ = some (.string s1) := by simp
    have q1 : ((w4.alloc (Obj.cells #[.int .u8 (97 + (l.length : Int) % 26)] 5)).alloc (Obj.cells #[.string s1, .int .i64 (x4 : Int)] 62)).cell? ⟨w4.heap.size + 1, 1, none⟩ = some (.int .i64 (x4 : Int)) := by simp
    have O5 := kide (O4.out.later hb5)
    have R5 := kide (R4.out.later hb5)
    have D5 := kide (D4.out.trans (Dw.of hb5))
    have hsz : w.heap.size ≤ ((w4.alloc (Obj.cells #[.int .u8 (97 + (l.length : Int) % 26)] 5)).alloc (Obj.cells #[.string s1, .int .i64 (x4 : Int)] 62)).heap.size := D5.out.size
    clear hb5
    go_wp2_with (at_builtin; refine wpList_appD rfl _ _ rfl w.heap.size (.slice av l.length cv) l (s1, (x4 : Int)) (by first | rfl | simp [Act.eval]) O5.out (w4.heap.size + 1) 1 (by first | rfl | simp [Act.eval]) q0 q1 (by omega) hsz ?_)
    intro g cap w6 ho6 hg6
    have O6 := kide ho6
    have R6 : Hid (Rr w6 β a c bs) := HR.out.far R5.out hg6 (fun k e => (O5.out.lt e).1)
    have D6 : Hid (Dw β w w6) := D5.out.own hg6 (fun k e => (O5.out.lt e).1)
    clear ho6 hg6 q0 q1 hcv
    go_wp2_with fail
    go_roundw
    case rel =>
     refine ⟨q, l ++ [(s1, (x4 : Int))], some ⟨g, 0, none⟩, cap, by go_num, by simp, by simp; omega, by simpa using O6.out, fun x hx => ?_, R6.out, D6.out⟩
     rcases List.mem_append.1 hx with hx | hx
     ·exact HX.out x hx
     ·simp at hx
      subst hx
      exact ⟨by show 1 ≤ _; omega, by show _ ≤ (200 : Int); omega, hs1z⟩
    case measure => simp [intOf] <;> omega
   | false =>
    have hcv : (convert 22 9 (.slice (some ⟨w3.heap.size, 0, none⟩) 1 1)).run Try.prog (w3.alloc (Obj.cells #[.int .u8 (97 + (l.length : Int) % 26)] 5)) = .ok (.string ⟨#[UInt8.ofNat (97 + l.length % 26)]⟩) (w3.alloc (Obj.cells #[.int .u8 (97 + (l.length : Int) % 26)] 5)) := by
     have h := run_convert_bytes_back (P := Try.prog) (w3.alloc (Obj.cells #[.int .u8 (97 + (l.length : Int) % 26)] 5)) 22 9 5 ⟨w3.heap.size, 0, none⟩ 1 [UInt8.ofNat (97 + l.length % 26)] Try.underlying22 Try.underlying5 Try.underlying9 (fun j hj => by
      have hj0 : j = 0 := by simpa using hj
      subst hj0
      have e : ((UInt8.ofNat (97 + l.length % 26)).toNat : Int) = 97 + (l.length : Int) % 26 := by
       rw [UInt8.toNat_ofNat']
       omega
      rw [Addr.add_lit]
      simp [e]
      omega)
     exact h
    generalize hs1 : (⟨#[UInt8.ofNat (97 + l.length % 26)]⟩ : ByteArray) = s1 at hcv
    have hs1z : s1.size ≤ 1 := by rw [← hs1]; exact Nat.le_refl _
    clear hs1
    have hb5 : Below w3.heap.size w3 ((w3.alloc (Obj.cells #[.int .u8 (97 + (l.length : Int) % 26)] 5)).alloc (Obj.cells #[.string s1, .int .i64 (1 + (x2 : Int))] 62)) := ((Below.refl _ _).alloc (Nat.le_refl _) _).alloc (by simp) _
    have q0 : ((w3.alloc (Obj.cells #[.int .u8 (97 + (l.length : Int) % 26)] 5)).alloc (Obj.cells #[.string s1, .int .i64 (1 + (x2 : Int))] 62)).cell? ⟨w3.heap.size + 1, 0, none⟩ = some (.string s1) := by simp
    have q1 : ((w3.alloc (Obj.cells #[.int .u8 (97 + (l.length : Int) % 26)] 5)).alloc (Obj.cells #[.string s1, .int .i64 (1 + (x2 : Int))] 62)).cell? ⟨w3.heap.size + 1, 1, none⟩ = some (.int .i64 (1 + (x2 : Int))) := by simp
    have O5 := kide (O3.out.later hb5)
    have R5 := kide (R3.out.later hb5)
    have D5 := kide (D3.out.trans (Dw.of hb5))
    have hsz : w.heap.size ≤ ((w3.alloc (Obj.cells #[.int .u8 (97 + (l.length : Int) % 26)] 5)).alloc (Obj.cells #[.string s1, .int .i64 (1 + (x2 : Int))] 62)).heap.size := D5.out.size
    clear hb5
    go_wp2_with (at_builtin; refine wpList_appD rfl _ _ rfl w.heap.size (.slice av l.length cv) l (s1, 1 + (x2 : Int)) (by first | rfl | simp [Act.eval]) O5.out (w3.heap.size + 1) 1 (by first | rfl | simp [Act.eval]) q0 q1 (by omega) hsz ?_)
    intro g cap w6 ho6 hg6
    have O6 := kide ho6
    have R6 : Hid (Rr w6 β a c bs) := HR.out.far R5.out hg6 (fun k e => (O5.out.lt e).1)
    have D6 : Hid (Dw β w w6) := D5.out.own hg6 (fun k e => (O5.out.lt e).1)
    clear ho6 hg6 q0 q1 hcv
    go_wp2_with fail
    go_roundw
    case rel =>
     refine ⟨q, l ++ [(s1, 1 + (x2 : Int))], some ⟨g, 0, none⟩, cap, by go_num, by simp, by simp; omega, by simpa using O6.out, fun x hx => ?_, R6.out, D6.out⟩
     rcases List.mem_append.1 hx with hx | hx
     ·exact HX.out x hx
     ·simp at hx
      subst hx
      exact ⟨by show 1 ≤ _; omega, by show _ ≤ (200 : Int); omega, hs1z⟩
    case measure => simp [intOf] <;> omega
  ·have hk00 : k = 0 := by omega
   subst hk00
   go_wp2_with fail
   go_ret
   exact ⟨_, l, rfl, OO.out, by omega, by omega, HX.out, RR.out, DD.out⟩

theorem RdD.farB {w w' : World} {β : Nat} {a : Option Addr} {ds : List Dc} (h : RdD w a ds) (hd : Dw β w w') (hn : ∀ p, a = some p → p.block ≠ β) : RdD w' a ds := by
 obtain ⟨h1, h2, h3⟩ := h
 refine ⟨h1, h2, ?_⟩
 rcases h3 with h3 | ⟨b, o, rfl, hc⟩
 ·exact .inl h3
 ·refine .inr ⟨b, o, rfl, fun i d hi => ?_⟩
  obtain ⟨c0, c1⟩ := hc i d hi
  have hb := hn ⟨b, o, none⟩ rfl
  simp only [] at hb
  have e : w'.heap[b]? = w.heap[b]? := hd.block b (block_lt_of_cell c0) (fun e => by cases e; exact hb rfl)
  exact ⟨by rw [World.cell?_of_block (a := ⟨b, _, none⟩) e]; exact c0, by rw [World.cell?_of_block (a := ⟨b, _, none⟩) e]; exact c1⟩
theorem Fresh.nw {w : World} {lo : Nat} {a : Option Addr} {xs : List Nat} (h : Fresh w lo a xs) : Nw w lo a xs := by
 rcases h with ⟨h1, h2⟩ | ⟨g, h1, h2, h3⟩
 ·exact .inl ⟨h1, fun x e => by rw [h2] at e; cases e⟩
 ·rw [h1]; exact h3.nw h2
def okQ (x : Tc) : Prop := okT x ∧ x.ks.length ≤ 1000

structure Tq (w : World) (B : Nat) (v : Value) (l : List Tg) : Prop where
 row : OT w B v l
 wn : ∀ x ∈ l, Nw w B x.wa x.ct.ws
 kn : ∀ x ∈ l, Ni w B x.ka x.ct.ks
 sn : Sn l
theorem Tq.later {w w' : World} {B : Nat} {v : Value} {l : List Tg} (h : Tq w B v l) (hb : Below w.heap.size w w') : Tq w' B v l := ⟨h.row.later hb, fun x hx => (h.wn x hx).later hb, fun x hx => (h.kn x hx).later hb, h.sn⟩
theorem Tq.far {w w' : World} {B β : Nat} {v : Value} {l : List Tg} (h : Tq w B v l) (hd : Dw β w w') (hβ : β < B) : Tq w' B v l :=
 ⟨h.row.move fun b hb => hd.block b (h.row.lt hb).2 (fun e => by cases e; have := (h.row.lt hb).1; omega), fun x hx => nw_blk (h.wn x hx) fun p hp => hd.block _ (nw_ltB (h.wn x hx) hp).2 (fun e => by cases e; have := (nw_ltB (h.wn x hx) hp).1; omega), fun x hx => ni_blk (h.kn x hx) fun p hp => hd.block _ (ni_lt (h.kn x hx) hp).2 (fun e => by cases e; have := (ni_lt (h.kn x hx) hp).1; omega), h.sn⟩
theorem Tq.empty (w : World) (B : Nat) (h : B ≤ w.heap.size) : Tq (w.alloc (.cells #[] 88)) B (.slice (some ⟨w.heap.size, 0, Option.none⟩) 0 0) [] := ⟨OT.empty w B h, by simp, by simp, by simp [Sn]⟩
theorem Tq.form {w : World} {B : Nat} {v : Value} {l : List Tg} (h : Tq w B v l) : ∃ a c, v = .slice a l.length c := h.row.form
theorem Tq.push {w w' : World} {B : Nat} {v v' : Value} {l : List Tg} {y : Tg} (h : Tq w B v l) (hy : Nw w B y.wa y.ct.ws) (hk : Ni w B y.ka y.ct.ks) (hs : (y.wa = none → y.wc = 0) ∧ (y.ka = none → y.kc = 0)) (hg : w.grownBy w' v.ownBlock) (ho : OT w' B v' (l ++ [y])) : Tq w' B v' (l ++ [y]) where
 row := ho
 wn := fun x hx => by
  rcases List.mem_append.1 hx with hx | hx
  ·exact nw_rowT (h.wn x hx) h.row hg
  ·simp at hx; subst hx; exact nw_rowT hy h.row hg
 kn := fun x hx => by
  rcases List.mem_append.1 hx with hx | hx
  ·exact ni_rowT (h.kn x hx) h.row hg
  ·simp at hx; subst hx; exact ni_rowT hk h.row hg
 sn := fun x hx => by
  rcases List.mem_append.1 hx with hx | hx
  ·exact h.sn x hx
  ·simp at hx; subst hx; exact hs
theorem Tq.rd {w : World} {B : Nat} {v : Value} {l : List Tg} (h : Tq w B v l) (hl : l.length ≤ 1048576) (hok : ∀ x ∈ l, okT x.ct) : ∃ a c, v = .slice a l.length c ∧ RdT w a l := by
 obtain ⟨a, c, e⟩ := h.row.form
 refine ⟨a, c, e, hl, ?_⟩
 by_cases h0 : l = []
 ·exact .inl h0
 ·right
  obtain ⟨x0, hx0⟩ : ∃ x0, l[0]? = some x0 := ⟨l[0]'(List.length_pos_iff.2 h0), List.getElem?_eq_getElem _⟩
  obtain ⟨g0, c0, e0, -⟩ := h.row.at hx0
  rw [e] at e0
  injection e0 with e1 e2 e3
  subst e1
  refine ⟨g0, 0, rfl, fun i x hi => ?_⟩
  obtain ⟨g, c1, e4, ht⟩ := h.row.at hi
  rw [e] at e4
  injection e4 with e5 e6 e7
  cases e5
  rw [Nat.zero_add]
  have hm := List.mem_of_getElem? hi
  obtain ⟨k1, k2, k3, k4, k5, k6, k7, k8, k9⟩ := hok x hm
  exact ⟨ht, (h.wn x hm).rd k6 k7, (h.kn x hm).rd k8 k9, k1, k2, k3, k4, k5⟩

structure Gr (w0 u : World) (β : Nat) (a : Option Addr) (c : Nat) (bs : List Nat) (da : Option Addr) (ds : List Dc) (v : Value) (l : List Tg) : Prop where
 r0 : Rr w0 β a c bs
 rr : Rr u β a c bs
 dw : Dw β w0 u
 dd : RdD u da ds
 tq : Tq u w0.heap.size v l
 hβ : β < w0.heap.size
 hd : ∀ p, da = some p → p.block ≠ β ∧ p.block < w0.heap.size
theorem Gr.draw {w0 u u' : World} {β : Nat} {a : Option Addr} {c : Nat} {bs : List Nat} {da : Option Addr} {ds : List Dc} {v : Value} {l : List Tg} (h : Gr w0 u β a c bs da ds v l) (hr : Rr u' β a c bs) (hd : Dw β u u') : Gr w0 u' β a c bs da ds v l :=
 ⟨h.r0, hr, h.dw.trans hd, h.dd.farB hd fun p hp => (h.hd p hp).1, h.tq.far hd h.hβ, h.hβ, h.hd⟩
theorem Gr.later {w0 u u' : World} {β : Nat} {a : Option Addr} {c : Nat} {bs : List Nat} {da : Option Addr} {ds : List Dc} {v : Value} {l : List Tg} (h : Gr w0 u β a c bs da ds v l) (hb : Below u.heap.size u u') : Gr w0 u' β a c bs da ds v l :=
 ⟨h.r0, h.rr.later hb, h.dw.trans (Dw.of hb), h.dd.later hb, h.tq.later hb, h.hβ, h.hd⟩
theorem Gr.size {w0 u : World} {β : Nat} {a : Option Addr} {c : Nat} {bs : List Nat} {da : Option Addr} {ds : List Dc} {v : Value} {l : List Tg} (h : Gr w0 u β a c bs da ds v l) : w0.heap.size ≤ u.heap.size := h.dw.size
theorem rdd_own {w u : World} {a : Option Addr} {ds : List Dc} {r : Option Nat} {B : Nat} (h : RdD w a ds) (hg : w.grownBy u r) (hr : ∀ k, r = some k → B ≤ k) (ha : ∀ p, a = some p → p.block < B) (hB : B ≤ w.heap.size) : RdD u a ds := by
 obtain ⟨h1, h2, h3⟩ := h
 refine ⟨h1, h2, ?_⟩
 rcases h3 with h3 | ⟨b2, o2, rfl, hc⟩
 ·exact .inl h3
 ·have hlt := ha _ rfl
  simp only [] at hlt
  have e : u.heap[b2]? = w.heap[b2]? := hg.block b2 (by omega) (fun e => by have := hr b2 e.symm; omega)
  exact .inr ⟨b2, o2, rfl, fun i d hi => ⟨by rw [World.cell?_of_block (a := ⟨b2, _, none⟩) e]; exact (hc i d hi).1, by rw [World.cell?_of_block (a := ⟨b2, _, none⟩) e]; exact (hc i d hi).2⟩⟩
theorem Gr.push {w0 u u' : World} {β : Nat} {a : Option Addr} {c : Nat} {bs : List Nat} {da : Option Addr} {ds : List Dc} {v v' : Value} {l : List Tg} {y : Tg} (h : Gr w0 u β a c bs da ds v l) (hy : Nw u w0.heap.size y.wa y.ct.ws) (hk : Ni u w0.heap.size y.ka y.ct.ks) (hs : (y.wa = none → y.wc = 0) ∧ (y.ka = none → y.kc = 0)) (hg : u.grownBy u' v.ownBlock) (ho : OT u' w0.heap.size v' (l ++ [y])) : Gr w0 u' β a c bs da ds v' (l ++ [y]) :=
 have hr : ∀ k, v.ownBlock = some k → w0.heap.size ≤ k := fun k e => (h.tq.row.lt e).1
 ⟨h.r0, Rr.far h.r0 h.rr hg hr, h.dw.own hg hr, rdd_own h.dd hg hr (fun p hp => (h.hd p hp).2) h.dw.size, h.tq.push hy hk hs hg ho, h.hβ, h.hd⟩
theorem Gr.cell {w0 u : World} {β b o : Nat} {a : Option Addr} {c : Nat} {bs : List Nat} {da : Option Addr} {ds : List Dc} {v : Value} {l : List Tg} (h : Gr w0 u β a c bs da ds v l) {cs : Array Value} (hb : Bz u b cs 88) (hb0 : w0.heap.size ≤ b) (hv : v.ownBlock ≠ some b) (x : Value) : Gr w0 (u.setCell ⟨b, o, none⟩ x) β a c bs da ds v l := by
 have hg : u.grownBy (u.setCell ⟨b, o, none⟩ x) (some b) := gsc u ⟨b, o, none⟩ x
 refine ⟨h.r0, Rr.far h.r0 h.rr hg (fun k e => by cases e; exact hb0), h.dw.own hg (fun k e => by cases e; exact hb0), rdd_own h.dd hg (fun k e => by cases e; exact hb0) (fun p hp => (h.hd p hp).2) h.dw.size, ⟨h.tq.row.move fun k hk => hg.block k (h.tq.row.lt hk).2 (fun e => by cases e; exact hv hk), fun y hy => nw_blk (h.tq.wn y hy) fun p hp => hg.block _ (nw_ltB (h.tq.wn y hy) hp).2 (fun e => ?_), fun y hy => ni_blk (h.tq.kn y hy) fun p hp => hg.block _ (ni_lt (h.tq.kn y hy) hp).2 (fun e => ?_), h.tq.sn⟩, h.hβ, h.hd⟩
 ·obtain ⟨c2, k2⟩ := nw_typed (h.tq.wn y hy) hp
  have e9 := Option.some.inj e
  unfold Bz at hb
  rw [e9, hb] at k2
  cases k2
 ·obtain ⟨c2, k2⟩ := ni_typed (h.tq.kn y hy) hp
  have e9 := Option.some.inj e
  unfold Bz at hb
  rw [e9, hb] at k2
  cases k2
theorem Gr.cellT {w0 u : World} {β b o : Nat} {a : Option Addr} {c : Nat} {bs : List Nat} {da : Option Addr} {ds : List Dc} {v : Value} {l : List Tg} (h : Gr w0 u β a c bs da ds v l) {cs : Array Value} (hb : Bz u b cs 66) (hb0 : w0.heap.size ≤ b) (x : Value) : Gr w0 (u.setCell ⟨b, o, none⟩ x) β a c bs da ds v l := by
 have hg : u.grownBy (u.setCell ⟨b, o, none⟩ x) (some b) := gsc u ⟨b, o, none⟩ x
 unfold Bz at hb
 refine ⟨h.r0, Rr.far h.r0 h.rr hg (fun k e => by cases e; exact hb0), h.dw.own hg (fun k e => by cases e; exact hb0), rdd_own h.dd hg (fun k e => by cases e; exact hb0) (fun p hp => (h.hd p hp).2) h.dw.size, ⟨h.tq.row.move fun k hk => hg.block k (h.tq.row.lt hk).2 (fun e => ?_), fun y hy => nw_blk (h.tq.wn y hy) fun p hp => hg.block _ (nw_ltB (h.tq.wn y hy) hp).2 (fun e => ?_), fun y hy => ni_blk (h.tq.kn y hy) fun p hp => hg.block _ (ni_lt (h.tq.kn y hy) hp).2 (fun e => ?_), h.tq.sn⟩, h.hβ, h.hd⟩
 ·obtain ⟨c2, k2⟩ := h.tq.row.typed hk
  have e9 := Option.some.inj e
  rw [e9, hb] at k2
  cases k2
 ·obtain ⟨c2, k2⟩ := nw_typed (h.tq.wn y hy) hp
  have e9 := Option.some.inj e
  rw [e9, hb] at k2
  cases k2
 ·obtain ⟨c2, k2⟩ := ni_typed (h.tq.kn y hy) hp
  have e9 := Option.some.inj e
  rw [e9, hb] at k2
  cases k2
theorem Gr.bz {w0 u u' : World} {β b : Nat} {a : Option Addr} {c : Nat} {bs : List Nat} {da : Option Addr} {ds : List Dc} {v : Value} {l : List Tg} (h : Gr w0 u β a c bs da ds v l) {cs : Array Value} (hb : Bz u b cs 66) (hg : u.grownBy u' v.ownBlock) : Bz u' b cs 66 := by
 unfold Bz at hb ⊢
 rw [hg.block b (lt_of_block hb) (fun e => by
  obtain ⟨c2, k2⟩ := h.tq.row.typed e.symm
  rw [hb] at k2
  cases k2)]
 exact hb

theorem oi_low {w : World} {B B' : Nat} {v : Value} {l : List Int} (h : OI w B v l) (hB : B' ≤ B) : OI w B' v l := by
 refine ⟨h.1, ?_⟩
 rcases h.2 with h0 | ⟨g, cap, cur, rfl, hg, r⟩
 ·exact .inl h0
 ·exact .inr ⟨g, cap, cur, rfl, Nat.le_trans hB hg, r⟩
theorem oi_gr {w w' : World} {lo B : Nat} {u v : Value} {xs : List Int} (h : OI w lo u xs) (hw : ∃ ys, OwW w B v ys) (hg : w.grownBy w' v.ownBlock) : OI w' lo u xs :=
 h.move fun k hk => hg.block k (h.lt hk).2 (fun e => by
  obtain ⟨ys, ho⟩ := hw
  rcases ho.2 with ⟨rfl, -⟩ | ⟨g, cap, cur', rfl, -, hh, -⟩
  ·cases e
  ·cases e
   rcases h.2 with ⟨rfl, -⟩ | ⟨g2, cap2, cur2, rfl, -, hh2, -⟩
   ·cases hk
   ·cases hk
    rw [hh2] at hh
    cases hh)
def RetCk (op vr aa bb bw : Int) (ws : List Nat) (ks : List Int) (nw nk : Nat) (w : World) (e : Ending) (w' : World) : Prop := ∃ a1 c1 a2 c2, e = .returned (.agg #[.int .i64 op, .int .i64 vr, .int .i64 aa, .int .i64 bb, .int .i64 bw, .slice a1 nw c1, .slice a2 nk c2]) ∧ Nw w' w.heap.size a1 ws ∧ OI w' w.heap.size (.slice a2 nk c2) ks ∧ ((a1 = none → c1 = 0) ∧ (a2 = none → c2 = 0)) ∧ Below w.heap.size w w'
set_option maxHeartbeats 4000000 in
set_option maxRecDepth 100000 in
theorem l3CopyNodeK_any (x : Tc) (wa ka : Option Addr) (wc kc : Nat) (w : World) (hx : Rd w wa x.ws) (hk : RdI w ka x.ks) (hw0 : wa = none → wc = 0) (hk0 : ka = none → kc = 0) :
  Calls Try.prog 67 #[.agg #[.int .i64 x.op, .int .i64 x.vr, .int .i64 x.a, .int .i64 x.b, .int .i64 x.bw, .slice wa x.ws.length wc, .slice ka x.ks.length kc]] w (RetCk x.op x.vr x.a x.b x.bw x.ws x.ks x.ws.length x.ks.length w) := by
 obtain ⟨op, vr, aa, bb, bw, ws, ks⟩ := x
 simp only [] at hx hk ⊢
 obtain ⟨nw, hnw⟩ : ∃ n, ws.length = n := ⟨_, rfl⟩
 obtain ⟨nk, hnk⟩ : ∃ n, ks.length = n := ⟨_, rfl⟩
 simp only [hnw, hnk]
 have HNW := kide hnw
 have HNK := kide hnk
 have hlw := hx.1
 have hlk := hk.1
 rw [hnw] at hlw
 rw [hnk] at hlk
 have hb2 : Below w.heap.size w ((w.alloc (Obj.cells #[.int .i64 op, .int .i64 vr, .int .i64 aa, .int .i64 bb, .int .i64 bw, .slice wa nw wc, .slice ka nk kc] 88)).alloc (Obj.cells #[.int .i64 0, .int .i64 0, .int .i64 0, .int .i64 0, .int .i64 0, .slice none 0 0, .slice none 0 0] 88)) := ((Below.refl _ _).alloc (Nat.le_refl _) _).alloc (by simp) _
 have XP0 := kide (Bz.later (Bz.new w #[.int .i64 op, .int .i64 vr, .int .i64 aa, .int .i64 bb, .int .i64 bw, .slice wa nw wc, .slice ka nk kc] 88) ((Below.refl _ _).alloc (Nat.le_refl _) (Obj.cells #[.int .i64 0, .int .i64 0, .int .i64 0, .int .i64 0, .int .i64 0, .slice none 0 0, .slice none 0 0] 88)))
 have XR0 : Hid (Bz ((w.alloc (Obj.cells #[.int .i64 op, .int .i64 vr, .int .i64 aa, .int .i64 bb, .int .i64 bw, .slice wa nw wc, .slice ka nk kc] 88)).alloc (Obj.cells #[.int .i64 0, .int .i64 0, .int .i64 0, .int .i64 0, .int .i64 0, .slice none 0 0, .slice none 0 0] 88)) (w.heap.size + 1) #[.int .i64 0, .int .i64 0, .int .i64 0, .int .i64 0, .int .i64 0, .slice none 0 0, .slice none 0 0] 88) := by
  have h9 := Bz.new (w.alloc (Obj.cells #[.int .i64 op, .int .i64 vr, .int .i64 aa, .int .i64 bb, .int .i64 bw, .slice wa nw wc, .slice ka nk kc] 88)) #[.int .i64 0, .int .i64 0, .int .i64 0, .int .i64 0, .int .i64 0, .slice none 0 0, .slice none 0 0] 88
  rw [show (w.alloc (Obj.cells #[.int .i64 op, .int .i64 vr, .int .i64 aa, .int .i64 bb, .int .i64 bw, .slice wa nw wc, .slice ka nk kc] 88)).heap.size = w.heap.size + 1 by simp] at h9
  exact h9
 have hsz : ((w.alloc (Obj.cells #[.int .i64 op, .int .i64 vr, .int .i64 aa, .int .i64 bb, .int .i64 bw, .slice wa nw wc, .slice ka nk kc] 88)).alloc (Obj.cells #[.int .i64 0, .int .i64 0, .int .i64 0, .int .i64 0, .int .i64 0, .slice none 0 0, .slice none 0 0] 88)).heap.size = w.heap.size + 1 + 1 := by simp
 obtain ⟨W0, hW0⟩ : ∃ W0, (w.alloc (Obj.cells #[.int .i64 op, .int .i64 vr, .int .i64 aa, .int .i64 bb, .int .i64 bw, .slice wa nw wc, .slice ka nk kc] 88)).alloc (Obj.cells #[.int .i64 0, .int .i64 0, .int .i64 0, .int .i64 0, .int .i64 0, .slice none 0 0, .slice none 0 0] 88) = W0 := ⟨_, rfl⟩
 rw [hW0] at hb2 XP0 XR0 hsz
 have HW0 := kide hW0
 have hb3 : Below W0.heap.size W0 (W0.alloc (Obj.cells #[] 2)) := (Below.refl _ _).alloc (Nat.le_refl _) _
 have OE := kide (OI.empty W0 (w.heap.size + 2) (by omega))
 have XP1 := kide (XP0.out.later hb3)
 have XR1 := kide (XR0.out.later hb3)
 have B1 := kide (hb2.trans (hb3.mono hb2.size))
 have HX := kide (fun u (hu : Below w.heap.size w u) => hx.later hu)
 have HK := kide (fun u (hu : Below w.heap.size w u) => hk.later hu)
 have HSZ := kide hsz
 have HW1 : Hid (w.heap.size + 2 ≤ (W0.alloc (Obj.cells #[] 2)).heap.size) := by show _ ≤ _; simp; omega
 clear hb2 hb3 XP0 XR0 hx hk hnw hnk
 go_enter Try.func67, Try.ntmps67
 have y6 := XP1.out.cell 6
 simp at y6
 clear hW0 hsz
 go_wp2_with (at_builtin; rw [HW0.out]; refine wpList_appIr _ rfl _ _ rfl (w.heap.size + 2) (.slice (some ⟨W0.heap.size, 0, none⟩) 0 0) [] ks (by first | rfl | (simp [Act.eval, ← HW0.out])) OE.out ka kc (by rw [HNK.out]; first | rfl | simp [Act.eval]) hk0 (HK.out _ B1.out) (by rw [HNK.out]; simp; omega) HW1.out ?_)
 intro v2 w2 ho2 hg2
 try rw [List.nil_append] at ho2
 have XP2 := kide (bz_gr XP1.out (show w.heap.size < w.heap.size + 2 by omega) (fun k hk => (OE.out.lt hk).1) hg2)
 have XR2 := kide (bz_gr XR1.out (show w.heap.size + 1 < w.heap.size + 2 by omega) (fun k hk => (OE.out.lt hk).1) hg2)
 have B2 := kide (Below.grown B1.out hg2 B1.out.size (fun j hj => by have := (OE.out.lt hj).1; omega))
 have HS2 : Hid (w.heap.size + 2 ≤ w2.heap.size) := Nat.le_trans HW1.out hg2.size
 obtain ⟨a5, c5, rfl, hni⟩ := ho2.ni
 have HC5 := kide (cap0 ho2)
 rw [HNK.out]
 have NI2 := kide ho2
 rw [HNK.out] at NI2
 have e6 := XP2.out.cell 6
 have f6 := XP2.out.froz 6
 simp at e6
 clear ho2 hg2 hni OE XP1 XR1 B1 HW1 y6 HSZ HW0
 have XP3 : Hid (Bz (w2.setCell ⟨w.heap.size, 6, none⟩ (Value.slice a5 nk c5)) w.heap.size #[.int .i64 op, .int .i64 vr, .int .i64 aa, .int .i64 bb, .int .i64 bw, .slice wa nw wc, .slice a5 nk c5] 88) := XP2.out.set 6 _
 have XR3 : Hid (Bz (w2.setCell ⟨w.heap.size, 6, none⟩ (Value.slice a5 nk c5)) (w.heap.size + 1) #[.int .i64 0, .int .i64 0, .int .i64 0, .int .i64 0, .int .i64 0, .slice none 0 0, .slice none 0 0] 88) := XR2.out.other (by omega) 6 _
 have NI3 := kide (OI.set_other NI2.out XP2.out (by decide) 6 (Value.slice a5 nk c5))
 have B3 : Hid (Below w.heap.size w (w2.setCell ⟨w.heap.size, 6, none⟩ (Value.slice a5 nk c5))) := B2.out.setCell (Nat.le_refl _) _
 have HS3 : Hid (w.heap.size + 2 ≤ (w2.setCell ⟨w.heap.size, 6, none⟩ (Value.slice a5 nk c5)).heap.size) := by show _ ≤ _; simpa using HS2.out
 clear XP2 XR2 NI2 B2 HS2
 go_wp2_with fail
 generalize w2.setCell ⟨w.heap.size, 6, none⟩ (Value.slice a5 nk c5) = W1 at *
 clear e6 f6
 obtain ⟨b0, hb0⟩ : ∃ b0, w.heap.size = b0 := ⟨_, rfl⟩
 rw [hb0] at XP3 XR3 NI3 HS3
 simp only [hb0]
 have HB0 := kide hb0
 clear hb0
 refine wp_region_x (SA := fun uu => uu.cell? ⟨b0, 4, none⟩ = some (Value.int .i64 bw) ∧ uu.cell? ⟨b0, 5, none⟩ = some (Value.slice wa nw wc)) (SB := fun _ => True) (k := 10) (by kernel_rfl) ?_
 have hbd : Below W1.heap.size W1 W1.drew := (Below.refl _ _).drew
 have XP_0 := kide (XP3.out.later hbd)
 have XR_0 := kide (XR3.out.later hbd)
 have NI_0 := kide (NI3.out.later hbd)
 have B_0 := kide (B3.out.trans (hbd.mono B3.out.size))
 have HS_0 : Hid (b0 + 2 ≤ W1.drew.heap.size) := Nat.le_trans HS3.out hbd.size
 clear hbd XP3 XR3 NI3 B3 HS3
 generalize W1.drew = u0 at *
 have c0_0 : u0.cell? ⟨b0, 4, none⟩ = some (Value.int .i64 bw) := XP_0.out.cell 4
 have c1_0 : u0.cell? ⟨b0, 5, none⟩ = some (Value.slice wa nw wc) := XP_0.out.cell 5
 have hs0 : Hid ((fun uu => uu.cell? ⟨b0, 4, none⟩ = some (Value.int .i64 bw) ∧ uu.cell? ⟨b0, 5, none⟩ = some (Value.slice wa nw wc)) u0) := ⟨c0_0, c1_0⟩
 try go_simp
 refine tkT (i := 0) (v := Value.pointer (some ⟨b0, 4, none⟩)) rfl (by kernel_rfl) (fun _ _ _ h => by first | exact h | exact h.elim) (Sx.before (by kernel_rfl) hs0.out) (Or.inl ⟨by rfl, fun uu hu => by go_simp⟩) ?_
 try go_simp
 refine tkT (i := 1) (v := Value.pointer (some ⟨b0, 4, none⟩)) rfl (by kernel_rfl) (fun _ _ _ h => by first | exact h | exact h.elim) (Sx.before (by kernel_rfl) hs0.out) (Or.inl ⟨by rfl, fun uu hu => by go_simp⟩) ?_
 try go_simp
 refine tkX (i := 2) (v := Value.int .i64 bw) rfl (by kernel_rfl) (fun _ _ _ h => by first | exact h | exact h.elim) hs0.out (Or.inl ⟨by rfl, fun uu hu => by obtain ⟨e0, e1⟩ := hu; go_simp⟩) ?_
 try go_simp
 refine tkT (i := 4) (v := Value.pointer (some ⟨b0, 4, none⟩)) rfl (by kernel_rfl) (fun _ _ _ h => by first | exact h | exact h.elim) (Sx.before (by kernel_rfl) hs0.out) (Or.inl ⟨by rfl, fun uu hu => by go_simp⟩) ?_
 try go_simp
 refine tkT (i := 5) (v := Value.pointer (some ⟨b0, 5, none⟩)) rfl (by kernel_rfl) (fun _ _ _ h => by first | exact h | exact h.elim) (Sx.before (by kernel_rfl) hs0.out) (Or.inl ⟨by rfl, fun uu hu => by go_simp⟩) ?_
 try go_simp
 refine tkX (i := 6) (v := Value.slice wa nw wc) rfl (by kernel_rfl) (fun _ _ _ h => by first | exact h | exact h.elim) hs0.out (Or.inl ⟨by rfl, fun uu hu => by obtain ⟨e0, e1⟩ := hu; go_simp⟩) ?_
 try go_simp
 refine wpAnyX_ready (rs := [3]) (by kernel_rfl) (by simp) (AllX.cons rfl (fun K hK => ?_) AllX.nil)
 go_simp
 have hbx : Below u0.heap.size u0 (u0.alloc (Obj.cells #[] 82)) := (Below.refl _ _).alloc (Nat.le_refl _) _
 have OE_1 : Hid (OwW (u0.alloc (Obj.cells #[] 82)) (b0 + 2) (.slice (some ⟨u0.heap.size, 0, none⟩) 0 0) []) := OwW.empty _ _ _ rfl HS_0.out
 have XP_1 := kide (XP_0.out.later hbx)
 have XR_1 := kide (XR_0.out.later hbx)
 have NI_1 := kide (NI_0.out.later hbx)
 have B_1 := kide (B_0.out.trans (hbx.mono B_0.out.size))
 have HS_1 : Hid (b0 + 2 ≤ (u0.alloc (Obj.cells #[] 82)).heap.size) := Nat.le_trans HS_0.out hbx.size
 obtain ⟨ge, hge⟩ : ∃ z, u0.heap.size = z := ⟨_, rfl⟩
 rw [hge] at OE_1
 simp only [hge]
 clear hge hbx
 generalize u0.alloc (Obj.cells #[] 82) = u1 at *
 have c0_1 : u1.cell? ⟨b0, 4, none⟩ = some (Value.int .i64 bw) := XP_1.out.cell 4
 have c1_1 : u1.cell? ⟨b0, 5, none⟩ = some (Value.slice wa nw wc) := XP_1.out.cell 5
 have hs1 : Hid ((fun uu => uu.cell? ⟨b0, 4, none⟩ = some (Value.int .i64 bw) ∧ uu.cell? ⟨b0, 5, none⟩ = some (Value.slice wa nw wc)) u1) := ⟨c0_1, c1_1⟩
 refine hK _ _ (Sx.before (by kernel_rfl) hs1.out) ?_
 clear hK K
 try go_simp
 refine wpAnyX_ready (rs := [7]) (by kernel_rfl) (by simp) (AllX.cons rfl (fun K hK => ?_) AllX.nil)
 refine step_appWr _ rfl _ _ rfl (b0 + 2) (.slice (some ⟨ge, 0, none⟩) 0 0) [] ws (by first | rfl | simp [Act.eval]) OE_1.out wa wc (by rw [HNW.out]; first | rfl | simp [Act.eval]) hw0 (HX.out _ B_1.out) (by rw [HNW.out]; simp; omega) HS_1.out ?_
 intro v7 u2 ho7 hg7
 try rw [List.nil_append] at ho7
 have XP_2 := kide (bz_gr XP_1.out (show b0 < b0 + 2 by omega) (fun k hk => own_ge OE_1.out hk) hg7)
 have XR_2 := kide (bz_gr XR_1.out (show b0 + 1 < b0 + 2 by omega) (fun k hk => own_ge OE_1.out hk) hg7)
 have NI_2 := kide (oi_gr NI_1.out ⟨_, OE_1.out⟩ hg7)
 have B_2 := kide (Below.grown B_1.out hg7 B_1.out.size (fun j hj => by have := own_ge OE_1.out hj; have := HB0.out; omega))
 have HS_2 : Hid (b0 + 2 ≤ u2.heap.size) := Nat.le_trans HS_1.out hg7.size
 obtain ⟨a7, c7, rfl, hn7⟩ := ho7.shape
 have HC7 := kide (cap0 ho7)
 rw [HNW.out]
 have NW_2 := kide hn7
 clear ho7 hg7 hn7
 have c0_2 : u2.cell? ⟨b0, 4, none⟩ = some (Value.int .i64 bw) := XP_2.out.cell 4
 have c1_2 : u2.cell? ⟨b0, 5, none⟩ = some (Value.slice wa nw wc) := XP_2.out.cell 5
 have hs2 : Hid ((fun uu => uu.cell? ⟨b0, 4, none⟩ = some (Value.int .i64 bw) ∧ uu.cell? ⟨b0, 5, none⟩ = some (Value.slice wa nw wc)) u2) := ⟨c0_2, c1_2⟩
 refine hK _ _ (Sx.before (by kernel_rfl) hs2.out) ?_
 clear hK K
 try go_simp
 refine tkT (i := 8) (v := Value.agg #[.int .i64 bw, .slice a7 nw c7]) rfl (by kernel_rfl) (fun _ _ _ h => by first | exact h | exact h.elim) (Sx.before (by kernel_rfl) hs2.out) (Or.inl ⟨by rfl, fun uu hu => by go_simp⟩) ?_
 try go_simp
 refine tkT (i := 9) (v := Value.pointer (some ⟨b0, 4, none⟩)) rfl (by kernel_rfl) (fun _ _ _ h => by first | exact h | exact h.elim) (Sx.before (by kernel_rfl) hs2.out) (Or.inl ⟨by rfl, fun uu hu => by go_simp⟩) ?_
 try go_simp
 refine wpAnyX_ready (rs := [10]) (by kernel_rfl) (by simp) (AllX.cons rfl (fun K hK => ?_) AllX.nil)
 have e4 := XP_2.out.cell 4
 have e5 := XP_2.out.cell 5
 have f4 := XP_2.out.froz 4
 have f5 := XP_2.out.froz 5
 simp at e4 e5
 go_simp
 have XP_3 : Hid (Bz ((u2.setCell ⟨b0, 4, none⟩ (Value.int .i64 bw)).setCell ⟨b0, 5, none⟩ (Value.slice a7 nw c7)) b0 #[.int .i64 op, .int .i64 vr, .int .i64 aa, .int .i64 bb, .int .i64 bw, .slice a7 nw c7, .slice a5 nk c5] 88) := (XP_2.out.set 4 _).set 5 _
 have XR_3 : Hid (Bz ((u2.setCell ⟨b0, 4, none⟩ (Value.int .i64 bw)).setCell ⟨b0, 5, none⟩ (Value.slice a7 nw c7)) (b0 + 1) #[.int .i64 0, .int .i64 0, .int .i64 0, .int .i64 0, .int .i64 0, .slice none 0 0, .slice none 0 0] 88) := (XR_2.out.other (by omega) 4 _).other (by omega) 5 _
 have NI_3 : Hid (OI ((u2.setCell ⟨b0, 4, none⟩ (Value.int .i64 bw)).setCell ⟨b0, 5, none⟩ (Value.slice a7 nw c7)) (b0 + 2) (.slice a5 nk c5) ks) := OI.set_other (OI.set_other NI_2.out XP_2.out (by decide) 4 _) (XP_2.out.set 4 (Value.int .i64 bw)) (by decide) 5 _
 have NW_3 : Hid (Nw ((u2.setCell ⟨b0, 4, none⟩ (Value.int .i64 bw)).setCell ⟨b0, 5, none⟩ (Value.slice a7 nw c7)) (b0 + 2) a7 ws) := nw_set (nw_set NW_2.out XP_2.out (by decide) 4 _) (XP_2.out.set 4 (Value.int .i64 bw)) (by decide) 5 _
 have B_3 : Hid (Below w.heap.size w ((u2.setCell ⟨b0, 4, none⟩ (Value.int .i64 bw)).setCell ⟨b0, 5, none⟩ (Value.slice a7 nw c7))) := (B_2.out.setCell (by rw [HB0.out]; exact Nat.le_refl _) _).setCell (by rw [HB0.out]; exact Nat.le_refl _) _
 clear e4 e5 f4 f5
 generalize ((u2.setCell ⟨b0, 4, none⟩ (Value.int .i64 bw)).setCell ⟨b0, 5, none⟩ (Value.slice a7 nw c7)) = u3 at *
 refine hK _ _ (Sx.behind (by kernel_rfl) trivial) ?_
 clear hK K
 try go_simp
 refine wpAnyX_done (by kernel_rfl) ?_ _
 have z0 := XP_3.out.cell 0
 have z1 := XP_3.out.cell 1
 have z2 := XP_3.out.cell 2
 have z3 := XP_3.out.cell 3
 have z4 := XP_3.out.cell 4
 have z5 := XP_3.out.cell 5
 have z6 := XP_3.out.cell 6
 have d0 := XR_3.out.cell 0
 have d1 := XR_3.out.cell 1
 have d2 := XR_3.out.cell 2
 have d3 := XR_3.out.cell 3
 have d4 := XR_3.out.cell 4
 have d5 := XR_3.out.cell 5
 have d6 := XR_3.out.cell 6
 have e0 := XR_3.out.froz 0
 have e1 := XR_3.out.froz 1
 have e2 := XR_3.out.froz 2
 have e3 := XR_3.out.froz 3
 have e4 := XR_3.out.froz 4
 have e5 := XR_3.out.froz 5
 have e6 := XR_3.out.froz 6
 simp at z0 d0 z1 d1 z2 d2 z3 d3 z4 d4 z5 d5 z6 d6
 go_wp2_with fail
 have XF : Hid (Bz (((((((u3.setCell ⟨b0 + 1, 0, none⟩ (Value.int .i64 op)).setCell ⟨b0 + 1, 1, none⟩ (Value.int .i64 vr)).setCell ⟨b0 + 1, 2, none⟩ (Value.int .i64 aa)).setCell ⟨b0 + 1, 3, none⟩ (Value.int .i64 bb)).setCell ⟨b0 + 1, 4, none⟩ (Value.int .i64 bw)).setCell ⟨b0 + 1, 5, none⟩ (Value.slice a7 nw c7)).setCell ⟨b0 + 1, 6, none⟩ (Value.slice a5 nk c5)) (b0 + 1) #[.int .i64 op, .int .i64 vr, .int .i64 aa, .int .i64 bb, .int .i64 bw, .slice a7 nw c7, .slice a5 nk c5] 88) := (((((((XR_3.out.set 0 (Value.int .i64 op)).set 1 (Value.int .i64 vr)).set 2 (Value.int .i64 aa)).set 3 (Value.int .i64 bb)).set 4 (Value.int .i64 bw)).set 5 (Value.slice a7 nw c7)).set 6 (Value.slice a5 nk c5))
 have NF := kide (nw_set (nw_set (nw_set (nw_set (nw_set (nw_set (nw_set NW_3.out XR_3.out (by decide) 0 (Value.int .i64 op)) (XR_3.out.set 0 (Value.int .i64 op)) (by decide) 1 (Value.int .i64 vr)) ((XR_3.out.set 0 (Value.int .i64 op)).set 1 (Value.int .i64 vr)) (by decide) 2 (Value.int .i64 aa)) (((XR_3.out.set 0 (Value.int .i64 op)).set 1 (Value.int .i64 vr)).set 2 (Value.int .i64 aa)) (by decide) 3 (Value.int .i64 bb)) ((((XR_3.out.set 0 (Value.int .i64 op)).set 1 (Value.int .i64 vr)).set 2 (Value.int .i64 aa)).set 3 (Value.int .i64 bb)) (by decide) 4 (Value.int .i64 bw)) (((((XR_3.out.set 0 (Value.int .i64 op)).set 1 (Value.int .i64 vr)).set 2 (Value.int .i64 aa)).set 3 (Value.int .i64 bb)).set 4 (Value.int .i64 bw)) (by decide) 5 (Value.slice a7 nw c7)) ((((((XR_3.out.set 0 (Value.int .i64 op)).set 1 (Value.int .i64 vr)).set 2 (Value.int .i64 aa)).set 3 (Value.int .i64 bb)).set 4 (Value.int .i64 bw)).set 5 (Value.slice a7 nw c7)) (by decide) 6 (Value.slice a5 nk c5))
 have IF := kide (OI.set_other (OI.set_other (OI.set_other (OI.set_other (OI.set_other (OI.set_other (OI.set_other NI_3.out XR_3.out (by decide) 0 (Value.int .i64 op)) (XR_3.out.set 0 (Value.int .i64 op)) (by decide) 1 (Value.int .i64 vr)) ((XR_3.out.set 0 (Value.int .i64 op)).set 1 (Value.int .i64 vr)) (by decide) 2 (Value.int .i64 aa)) (((XR_3.out.set 0 (Value.int .i64 op)).set 1 (Value.int .i64 vr)).set 2 (Value.int .i64 aa)) (by decide) 3 (Value.int .i64 bb)) ((((XR_3.out.set 0 (Value.int .i64 op)).set 1 (Value.int .i64 vr)).set 2 (Value.int .i64 aa)).set 3 (Value.int .i64 bb)) (by decide) 4 (Value.int .i64 bw)) (((((XR_3.out.set 0 (Value.int .i64 op)).set 1 (Value.int .i64 vr)).set 2 (Value.int .i64 aa)).set 3 (Value.int .i64 bb)).set 4 (Value.int .i64 bw)) (by decide) 5 (Value.slice a7 nw c7)) ((((((XR_3.out.set 0 (Value.int .i64 op)).set 1 (Value.int .i64 vr)).set 2 (Value.int .i64 aa)).set 3 (Value.int .i64 bb)).set 4 (Value.int .i64 bw)).set 5 (Value.slice a7 nw c7)) (by decide) 6 (Value.slice a5 nk c5))
 have BF : Hid (Below w.heap.size w (((((((u3.setCell ⟨b0 + 1, 0, none⟩ (Value.int .i64 op)).setCell ⟨b0 + 1, 1, none⟩ (Value.int .i64 vr)).setCell ⟨b0 + 1, 2, none⟩ (Value.int .i64 aa)).setCell ⟨b0 + 1, 3, none⟩ (Value.int .i64 bb)).setCell ⟨b0 + 1, 4, none⟩ (Value.int .i64 bw)).setCell ⟨b0 + 1, 5, none⟩ (Value.slice a7 nw c7)).setCell ⟨b0 + 1, 6, none⟩ (Value.slice a5 nk c5))) := (((((((B_3.out.setCell (by rw [HB0.out]; exact Nat.le_succ _) _).setCell (by rw [HB0.out]; exact Nat.le_succ _) _).setCell (by rw [HB0.out]; exact Nat.le_succ _) _).setCell (by rw [HB0.out]; exact Nat.le_succ _) _).setCell (by rw [HB0.out]; exact Nat.le_succ _) _).setCell (by rw [HB0.out]; exact Nat.le_succ _) _).setCell (by rw [HB0.out]; exact Nat.le_succ _) _)
 have q0 := XF.out.cell 0
 have q1 := XF.out.cell 1
 have q2 := XF.out.cell 2
 have q3 := XF.out.cell 3
 have q4 := XF.out.cell 4
 have q5 := XF.out.cell 5
 have q6 := XF.out.cell 6
 clear z0 d0 e0 z1 d1 e1 z2 d2 e2 z3 d3 e3 z4 d4 e4 z5 d5 e5 z6 d6 e6
 generalize (((((((u3.setCell ⟨b0 + 1, 0, none⟩ (Value.int .i64 op)).setCell ⟨b0 + 1, 1, none⟩ (Value.int .i64 vr)).setCell ⟨b0 + 1, 2, none⟩ (Value.int .i64 aa)).setCell ⟨b0 + 1, 3, none⟩ (Value.int .i64 bb)).setCell ⟨b0 + 1, 4, none⟩ (Value.int .i64 bw)).setCell ⟨b0 + 1, 5, none⟩ (Value.slice a7 nw c7)).setCell ⟨b0 + 1, 6, none⟩ (Value.slice a5 nk c5)) = uf at *
 exact bodyPost_ret (v := Value.agg #[.int .i64 op, .int .i64 vr, .int .i64 aa, .int .i64 bb, .int .i64 bw, .slice a7 nw c7, .slice a5 nk c5]) (by simp [results, Try.results67, go_sem, q0, q1, q2, q3, q4, q5, q6]) rfl ⟨a7, c7, a5, c5, rfl, Nw.mono NF.out (by have := HB0.out; omega), oi_low IF.out (by have := HB0.out; omega), ⟨HC7.out, HC5.out⟩, BF.out⟩

theorem oi_blk {w w' : World} {B n c : Nat} {a : Option Addr} {xs : List Int} (h : OI w B (.slice a n c) xs) (hk : ∀ p, a = some p → w'.heap[p.block]? = w.heap[p.block]?) : OI w' B (.slice a n c) xs := h.move fun b hb => by
 rcases h.2 with ⟨e, -⟩ | ⟨g, cap, cur, e, -⟩
 ·cases e
  cases hb
 ·cases e
  cases hb
  exact hk _ rfl
theorem oi_typ {w : World} {B n c : Nat} {a : Option Addr} {xs : List Int} (h : OI w B (.slice a n c) xs) {p : Addr} (hp : a = some p) : (∃ cur, w.heap[p.block]? = some (.cells cur 2 (0, 0))) ∧ B ≤ p.block ∧ p.block < w.heap.size := by
 rcases h.2 with ⟨e, -⟩ | ⟨g, cap, cur, e, hg, hh, -⟩
 ·cases e
  cases hp
 ·cases e
  cases hp
  exact ⟨⟨cur, hh⟩, hg, lt_of_block hh⟩

structure KoQ (w : World) (B : Nat) (l : List Tg) : Prop where
 oi : ∀ x ∈ l, OI w B (.slice x.ka x.ct.ks.length x.kc) x.ct.ks
 dj : ∀ (i j : Nat) (x y : Tg) (p q : Addr), l[i]? = some x → l[j]? = some y → i ≠ j → x.ka = some p → y.ka = some q → p.block ≠ q.block
theorem KoQ.nil (w : World) (B : Nat) : KoQ w B [] := ⟨fun x hx => (by cases hx), fun i j x y p q h => by simp at h⟩
theorem KoQ.move {w w' : World} {B : Nat} {l : List Tg} (h : KoQ w B l) (hk : ∀ x ∈ l, ∀ p, x.ka = some p → w'.heap[p.block]? = w.heap[p.block]?) : KoQ w' B l := ⟨fun x hx => oi_blk (h.oi x hx) (hk x hx), h.dj⟩
theorem KoQ.low {w : World} {B B' : Nat} {l : List Tg} (h : KoQ w B l) (hB : B' ≤ B) : KoQ w B' l := ⟨fun x hx => oi_low (h.oi x hx) hB, h.dj⟩
theorem KoQ.later {w w' : World} {B : Nat} {l : List Tg} (h : KoQ w B l) (hb : Below w.heap.size w w') : KoQ w' B l := h.move fun x hx p hp => hb.block _ (oi_typ (h.oi x hx) hp).2.2
theorem KoQ.kept {w w' : World} {B : Nat} {l : List Tg} (h : KoQ w B l) (hk : ∀ (k : Nat) (cur : Array Value), w.heap[k]? = some (.cells cur 2 (0, 0)) → w'.heap[k]? = w.heap[k]?) : KoQ w' B l := h.move fun x hx p hp => by
 obtain ⟨⟨cur, hc⟩, -⟩ := oi_typ (h.oi x hx) hp
 exact hk _ cur hc
theorem KoQ.grown {w w' : World} {B B' : Nat} {v : Value} {l l' : List Tg} (h : KoQ w B l) (ho : OT w B' v l') (hg : w.grownBy w' v.ownBlock) : KoQ w' B l := h.kept fun k cur hc => hg.block k (lt_of_block hc) (fun e => by
 obtain ⟨c2, k2⟩ := ho.typed e.symm
 rw [hc] at k2
 cases k2)
theorem KoQ.out {w wr wr' : World} {B H g : Nat} {v tv : Value} {l : List Tg} {st : List Tc × List Int} (h : KoQ wr B l) (hm : RpM w wr B H v tv l st) (hg : wr.grownBy wr' (some g)) (hN : H ≤ g) : KoQ wr' B l := h.move fun x hx p hp => hg.block _ (oi_typ (h.oi x hx) hp).2.2 (fun e => by have := (hm.nd x hx).kh p hp; cases e; omega)
theorem KoQ.told {w wt w5 : World} {B H : Nat} {v tv : Value} {l : List Tg} {st : List Tc × List Int} (h : KoQ wt B l) (hm : RpM w wt B H v tv l st) (hg : wt.grownBy w5 tv.ownBlock) : KoQ w5 B l := h.move fun x hx p hp => hg.block _ (oi_typ (h.oi x hx) hp).2.2 (fun e => (hm.nd x hx).dj p hp e.symm)
theorem KoQ.snoc {w : World} {B : Nat} {l : List Tg} {y : Tg} (h : KoQ w B l) (hy : OI w B (.slice y.ka y.ct.ks.length y.kc) y.ct.ks) (hd : ∀ x ∈ l, ∀ p q, x.ka = some p → y.ka = some q → p.block ≠ q.block) : KoQ w B (l ++ [y]) := by
 refine ⟨fun x hx => ?_, fun i j x z p q hi hj hne hp hq => ?_⟩
 ·rcases List.mem_append.1 hx with hx | hx
  ·exact h.oi x hx
  ·cases List.mem_singleton.1 hx
   exact hy
 ·have key : ∀ (k : Nat) (u : Tg), (l ++ [y])[k]? = some u → (l[k]? = some u ∨ (k = l.length ∧ u = y)) := fun k u hk => by
   rcases Nat.lt_trichotomy k l.length with h1 | h1 | h1
   ·rw [List.getElem?_append_left h1] at hk
    exact .inl hk
   ·subst h1
    simp at hk
    exact .inr ⟨rfl, hk.symm⟩
   ·rw [List.getElem?_append_right (by omega)] at hk
    rw [List.getElem?_eq_none (by simp; omega)] at hk
    cases hk
  rcases key i x hi with h1 | ⟨h1, rfl⟩ <;> rcases key j z hj with h2 | ⟨h2, rfl⟩
  ·exact h.dj i j x z p q h1 h2 hne hp hq
  ·exact hd x (List.mem_of_getElem? h1) p q hp hq
  ·exact fun e => hd z (List.mem_of_getElem? h2) q p hq hp e.symm
  ·omega

set_option maxHeartbeats 1000000 in
theorem l5Seg_any (s : Sc) (a da : Option Addr) (c dc : Nat) (ds : List Dc) (w : World) (hr : Rd w a s.ws) (hd : RdD w da ds) (hD : dclR ds = true) :
  Calls Try.prog 35 #[.slice da ds.length dc, .agg #[.int .i64 s.v, .int .i64 s.lo, .int .i64 s.wd, .int .i64 s.bw, .slice a s.ws.length c]] w fun e w' => e = .returned (.bool (sgOk ds s)) ∧ Below w.heap.size w w' := by
 have hb0 : Below w.heap.size w (w.alloc (Obj.cells #[.int .i64 s.v, .int .i64 s.lo, .int .i64 s.wd, .int .i64 s.bw, .slice a s.ws.length c] 34)) := (Below.refl _ _).alloc (Nat.le_refl _) _
 have hl1 := hd.1
 have hl2 := hr.1
 by_cases hv : s.v = -1
 ·rw [sgOk_const hv]
  have HOK := kide (fun u (hu : Below w.heap.size w u) => specOk_any s.bw a c s.ws u (hr.later hu))
  obtain ⟨v, lo, wd, bw, ws⟩ := s
  simp only [] at hv hb0 HOK hl2 ⊢
  subst hv
  have B0 := kide hb0
  clear hr hd hb0
  by_cases h1 : lo = 0
  ·subst h1
   generalize rightB bw ws = r at *
   cases r with
   | true =>
    go_enter Try.func35, Try.ntmps35
    go_wp2_with fail
    refine Calls.mono (HOK.out _ B0.out) ?_
    rintro e w1 ⟨rfl, hb1⟩
    have k3 := kcell hb1 w.heap.size 3 (by simp)
    have k2 := kcell hb1 w.heap.size 2 (by simp)
    have B1 := kide (B0.out.trans (hb1.mono B0.out.size))
    simp at k2 k3
    clear hb1
    go_wp2_with fail
    go_ret
    exact ⟨ret_bool (by rw [Bool.eq_iff_iff]; simp; exact eq_comm), B1.out⟩
   | false =>
    go_enter Try.func35, Try.ntmps35
    go_wp2_with fail
    refine Calls.mono (HOK.out _ B0.out) ?_
    rintro e w1 ⟨rfl, hb1⟩
    go_wp2_with fail
    go_ret
    exact ⟨ret_bool (by simp), B0.out.trans (hb1.mono B0.out.size)⟩
  ·have hww : (lo == 0) = false := by simp [h1]
   have hR : (decide (lo = 0) && decide (wd = bw) && rightB bw ws) = false := by simp [h1]
   rw [hR]
   clear hR h1
   go_enter Try.func35, Try.ntmps35
   go_wp2_with fail
   go_ret
   exact ⟨rfl, B0.out⟩
 ·have HNB := kide (fun u => l3NoBits_any s.bw a s.ws.length c u hl2)
  have HI0 := kide (fun u => l1In_any s.v 0 ((ds.length : Int) - 1) u)
  by_cases hin : 0 ≤ s.v ∧ s.v ≤ (ds.length : Int) - 1
  ·rw [decide_eq_true hin] at HI0
   by_cases hbn : s.bw = 0 ∧ s.ws.length = 0
   ·obtain ⟨k, hk⟩ : ∃ k : Nat, s.v = (k : Int) := ⟨s.v.toNat, by omega⟩
    have hkl : k < ds.length := by omega
    obtain ⟨⟨t, y⟩, gd⟩ : ∃ d, ds[k]? = some d := ⟨ds[k], List.getElem?_eq_getElem hkl⟩
    rw [sgOk_in hk gd hbn.1 hbn.2]
    obtain ⟨hy1, hy2⟩ := dclR_wd hD gd
    obtain ⟨-, -, h | ⟨b1, o1, rfl, hc1⟩⟩ := hd
    ·subst h; simp at hkl
    obtain ⟨-, q1⟩ := hc1 k _ gd
    have lb1 : b1 < w.heap.size := block_lt_of_cell q1
    have hnb : (decide (s.bw = 0) && decide (s.ws.length = 0)) = true := by simp [hbn.1]; exact List.eq_nil_of_length_eq_zero hbn.2
    rw [hnb] at HNB
    obtain ⟨v, lo, wd, bw, ws⟩ := s
    simp only [] at hv hb0 hl2 hk hy1 hy2 q1 HNB HI0 ⊢
    subst hk
    have B0 := kide hb0
    have hvv : ((k : Int) == -1) = false := by simp
    have hki : (k : Int) < (ds.length : Int) := by omega
    have HL := kide (fun u => l1In_any lo 0 (y - 1) u)
    clear hr hb0 hv hc1 gd hD hnb hin hbn
    by_cases hlo : 0 ≤ lo ∧ lo ≤ y - 1
    ·have HWD := kide (fun u => l1In_any wd 1 (y - lo) u)
     rw [decide_eq_true hlo] at HL
     have hR : (decide (1 ≤ wd) && decide (0 ≤ lo) && decide (lo + wd ≤ y)) = decide (1 ≤ wd ∧ wd ≤ y - lo) := by rw [Bool.eq_iff_iff]; simp; omega
     rw [hR]
     obtain ⟨hlo1, hlo2⟩ := hlo
     clear hR
     generalize decide (1 ≤ wd ∧ wd ≤ y - lo) = r at *
     go_enter Try.func35, Try.ntmps35
     go_wp2_with fail
     refine Calls.mono (HI0.out _) ?_
     rintro e wx ⟨rfl, rfl⟩
     go_wp2_with fail
     refine Calls.mono (HNB.out _) ?_
     rintro e w1 ⟨rfl, hb1⟩
     have k0 := kcell hb1 w.heap.size 0 (by simp)
     have k1 := kcell hb1 w.heap.size 1 (by simp)
     have k2 := kcell hb1 w.heap.size 2 (by simp)
     have k5 := (kcell hb1 b1 (o1 + k * 2 + 1) (by simp; omega)).trans ((kcell B0.out b1 (o1 + k * 2 + 1) lb1).trans q1)
     have B1 := kide (B0.out.trans (hb1.mono B0.out.size))
     simp at k0 k1 k2
     clear hb1 q1
     go_wp2_with fail
     refine Calls.mono (HL.out _) ?_
     rintro e wx ⟨rfl, rfl⟩
     go_wp2_with fail
     refine Calls.mono (HWD.out _) ?_
     rintro e wx ⟨rfl, rfl⟩
     go_wp2_with fail
     go_ret
     exact ⟨rfl, B1.out⟩
    ·rw [decide_eq_false hlo] at HL
     have hR : (decide (1 ≤ wd) && decide (0 ≤ lo) && decide (lo + wd ≤ y)) = false := by simp; omega
     rw [hR]
     clear hR hlo
     go_enter Try.func35, Try.ntmps35
     go_wp2_with fail
     refine Calls.mono (HI0.out _) ?_
     rintro e wx ⟨rfl, rfl⟩
     go_wp2_with fail
     refine Calls.mono (HNB.out _) ?_
     rintro e w1 ⟨rfl, hb1⟩
     have k0 := kcell hb1 w.heap.size 0 (by simp)
     have k1 := kcell hb1 w.heap.size 1 (by simp)
     have k2 := kcell hb1 w.heap.size 2 (by simp)
     have k5 := (kcell hb1 b1 (o1 + k * 2 + 1) (by simp; omega)).trans ((kcell B0.out b1 (o1 + k * 2 + 1) lb1).trans q1)
     have B1 := kide (B0.out.trans (hb1.mono B0.out.size))
     simp at k0 k1 k2
     clear hb1 q1
     go_wp2_with fail
     refine Calls.mono (HL.out _) ?_
     rintro e wx ⟨rfl, rfl⟩
     go_wp2_with fail
     go_ret
     exact ⟨rfl, B1.out⟩
   ·rw [sgOk_out hv (by
     by_cases h : s.bw = 0
     ·exact .inr (.inr (.inr fun h' => hbn ⟨h, h'⟩))
     ·exact .inr (.inr (.inl h)))]
    have hnb : (decide (s.bw = 0) && decide (s.ws.length = 0)) = false := by
     rw [Bool.eq_false_iff]
     intro h
     rw [Bool.and_eq_true, decide_eq_true_eq, decide_eq_true_eq] at h
     exact hbn h
    rw [hnb] at HNB
    obtain ⟨v, lo, wd, bw, ws⟩ := s
    simp only [] at hv hb0 hl2 HNB HI0 hin ⊢
    have B0 := kide hb0
    have hvv : (v == -1) = false := by simp [hv]
    clear hr hd hb0 hv hnb hbn
    go_enter Try.func35, Try.ntmps35
    go_wp2_with fail
    refine Calls.mono (HI0.out _) ?_
    rintro e wx ⟨rfl, rfl⟩
    go_wp2_with fail
    refine Calls.mono (HNB.out _) ?_
    rintro e w1 ⟨rfl, hb1⟩
    go_wp2_with fail
    go_ret
    exact ⟨rfl, B0.out.trans (hb1.mono B0.out.size)⟩
  ·rw [sgOk_out hv (by omega)]
   rw [decide_eq_false hin] at HI0
   obtain ⟨v, lo, wd, bw, ws⟩ := s
   simp only [] at hv hb0 hl2 HI0 ⊢
   have B0 := kide hb0
   have hvv : (v == -1) = false := by simp [hv]
   clear hr hd hb0 hv hin
   go_enter Try.func35, Try.ntmps35
   go_wp2_with fail
   refine Calls.mono (HI0.out _) ?_
   rintro e wx ⟨rfl, rfl⟩
   go_wp2_with fail
   go_ret
   exact ⟨rfl, B0.out⟩

end Go.Proofs.Ytffcklobignlfaa
