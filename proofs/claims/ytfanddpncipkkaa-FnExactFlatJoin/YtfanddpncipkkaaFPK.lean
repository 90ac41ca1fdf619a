/- Each segment gets words of its own. -/
import Derived.Test.YtfanddpncipkkaaFPH
import Derived.Handy
namespace Go.Proofs.Ytfanddpncipkkaa
set_option linter.unusedVariables false
set_option linter.unusedSimpArgs false
open Go.RowKit

/-- The words of no two lie in one block. -/
def Dj (l : List Sg) : Prop := ∀ (i j : Nat) (x y : Sg), i < j → l[i]? = some x → l[j]? = some y → ∀ p q, x.a = some p → y.a = some q → p.block ≠ q.block
theorem Dj.nil : Dj [] := fun i j x y _ h => by simp at h
theorem Dj.snoc {N : Nat} {l : List Sg} {x : Sg} (h : Dj l) (hl : ∀ y ∈ l, ∀ p, y.a = some p → p.block < N) (hx : ∀ p, x.a = some p → N ≤ p.block) : Dj (l ++ [x]) := fun i j y z hij hi hj p q hp hq => by
  have hjl := (List.getElem?_eq_some_iff.1 hj).1
  simp at hjl
  by_cases e : j = l.length
  · subst e
    rw [List.getElem?_append_left (by omega)] at hi
    simp at hj
    subst hj
    have := hl y (List.mem_of_getElem? hi) p hp
    have := hx q hq
    omega
  · rw [List.getElem?_append_left (by omega)] at hi hj
    exact h i j y z hij hi hj p q hp hq

theorem os5_mid {w : World} {B g n c M : Nat} {k t : List Sg} {y : Sg} (h : OS5 w B (.slice (some ⟨g, 0, none⟩) n c) (k ++ y :: t)) (hM : k.length = M) :
    w.cell? ⟨g, M * 5, none⟩ = some (.int .i64 y.ct.v) ∧ w.cell? ⟨g, M * 5 + 1, none⟩ = some (.int .i64 y.ct.lo) ∧ w.cell? ⟨g, M * 5 + 2, none⟩ = some (.int .i64 y.ct.wd) ∧ w.cell? ⟨g, M * 5 + 3, none⟩ = some (.int .i64 y.ct.bw) ∧ w.cell? ⟨g, M * 5 + 4, none⟩ = some (.slice y.a y.ct.ws.length y.c) := by
  have key : ∀ (j : Nat) (u : Value), (sgc [y])[j]? = some u → w.cell? ⟨g, M * 5 + j, none⟩ = some u := fun j u hj => by
    have hl : (sgc k).length = M * 5 := by rw [sgc_len, hM]
    have hj5 : j < (sgc [y]).length := (List.getElem?_eq_some_iff.1 hj).1
    have hc := World.ownsRow.cells h (g := g) rfl (M * 5 + j) u (by rw [sgc_append, List.getElem?_append_right (by omega), hl, Nat.add_sub_cancel_left, show y :: t = [y] ++ t from rfl, sgc_append, List.getElem?_append_left hj5]; exact hj)
    rw [Addr.add_lit] at hc
    simpa using hc
  exact ⟨key 0 _ rfl, key 1 _ rfl, key 2 _ rfl, key 3 _ rfl, key 4 _ rfl⟩
theorem os5_put2i {w : World} {B g n c M : Nat} {k t : List Sg} {y z : Sg} (h : OS5 w B (.slice (some ⟨g, 0, none⟩) n c) (k ++ y :: t)) (hM : k.length = M) (hz : z.ct = y.ct) : OS5 (put2 w g (M * 5) z) B (.slice (some ⟨g, 0, none⟩) n c) (k ++ z :: t) ∧ w.grownBy (put2 w g (M * 5) z) (some g) := by
  obtain ⟨a, c', e⟩ := h.form
  cases e
  have s1 := World.ownsRow.stored h (M * 5 + 3) (.int .i64 z.ct.bw)
  have s2 := World.ownsRow.stored s1.1 (M * 5 + 4) (.slice z.a z.ct.ws.length z.c)
  refine ⟨?_, grown_same s1.2 s2.2⟩
  have hl : (sgc k).length = M * 5 := by rw [sgc_len, hM]
  have e : sgc (k ++ z :: t) = ((sgc (k ++ y :: t)).set (M * 5 + 3) (.int .i64 z.ct.bw)).set (M * 5 + 4) (.slice z.a z.ct.ws.length z.c) := by
    rw [sgc_append, sgc_append]
    simp [sgc, List.set_append, hl, hz]
  have h9 := s2.1
  unfold OS5
  rw [e, show (k ++ z :: t).length = (k ++ y :: t).length by simp]
  exact h9
theorem nw_gr {w w' : World} {lo : Nat} {a : Option Addr} {xs : List Nat} {r : Option Nat} (h : Nw w lo a xs) (hg : w.grownBy w' r) (hr : ∀ j, r = some j → j < lo) : Nw w' lo a xs := by
  have key : ∀ b, lo ≤ b → b < w.heap.size → w'.heap[b]? = w.heap[b]? := fun b h1 h2 => hg.block b h2 (fun e => by have := hr b e.symm; omega)
  rcases h with ⟨h1, h2⟩ | ⟨g, cur, h1, h2, h3, h4⟩
  · exact .inl ⟨h1, fun x hx => by
      obtain ⟨k1, k2, cur, k3⟩ := h2 x hx
      exact ⟨k1, k2, cur, by rw [key _ k1 (lt_of_block k3)]; exact k3⟩⟩
  · exact .inr ⟨g, cur, h1, h2, by rw [key _ h2 (lt_of_block h3)]; exact h3, h4⟩

/-- What is at hand when k have got theirs: k new ones and the rest as it was. -/
structure Fh (w : World) (B : Nat) (v : Value) (l : List Sg) (k : Nat) (m : List Sg) (wr : World) : Prop where
  row : OS5 wr B v (m ++ l.drop k)
  ct : m.map Sg.ct = (l.take k).map Sg.ct
  len : m.length = k
  nw : ∀ x ∈ m, Nw wr w.heap.size x.a x.ct.ws
  dj : Dj m
  gr : w.grownBy wr v.ownBlock

def RetFr (v : Value) (ok : Bool) (B : Nat) (l : List Sg) (w : World) (e : Ending) (w' : World) : Prop := e = .returned (.tuple #[v, .bool ok]) ∧ ∃ m, Fh w B v l l.length m w'

set_option maxHeartbeats 2000000 in
set_option maxRecDepth 100000 in
theorem fresh_any (va : Option Addr) (N vc B : Nat) (ok : Bool) (l : List Sg) (w : World) (hrow : OS5 w B (.slice va N vc) l) (hN : l.length = N) (hN2 : N ≤ 2000) (hB : B ≤ w.heap.size) (hrd : ∀ x ∈ l, Rd w x.a x.ct.ws) (hno : ∀ x ∈ l, x.a = none → x.c = 0) (hne : ∀ x ∈ l, ∀ p, x.a = some p → (Value.slice va N vc).ownBlock ≠ some p.block) :
    Calls Try.prog 31 #[.slice va N vc, .bool ok] w (RetFr (.slice va N vc) ok B l w) := by
  have HROW := kide hrow
  have HN := kide hN
  have HRD := kide hrd
  have HNO := kide hno
  have HNE := kide hne
  clear hrow hN hrd hno hne
  go_enter Try.func31, Try.ntmps31
  go_wp2_with fail
  have H0 : Hid (Fh w B (.slice va N vc) l 0 [] w) := ⟨HROW.out, rfl, rfl, fun x hx => by (cases hx), Dj.nil, ⟨rfl, rfl, rfl, Nat.le_refl _, fun _ _ _ => rfl⟩⟩
  go_loopw [10] (fun i wr => ∃ (k : Nat) (m : List Sg), k ≤ N ∧ i = .int .i64 (k : Int) ∧ Fh w B (.slice va N vc) l k m wr) (fun i _ => N - (intOf i).toNat)
  case atStart => exact ⟨0, [], Nat.zero_le _, rfl, H0.out⟩
  case round =>
    obtain ⟨k, m, hk, rfl, hf⟩ := hrel
    have HF := kide hf
    by_cases hlt : k < N
    · obtain ⟨x, hx⟩ : ∃ x, l[k]? = some x := ⟨l[k]'(by rw [HN.out]; exact hlt), List.getElem?_eq_getElem _⟩
      have hdr : l.drop k = x :: l.drop (k + 1) := by
        have h9 := List.getElem?_eq_some_iff.1 hx
        rw [← h9.2, List.drop_eq_getElem_cons h9.1]
      have hrow := hf.row
      rw [hdr] at hrow
      obtain ⟨g, rfl⟩ : ∃ g, va = some ⟨g, 0, none⟩ := by
        rcases hrow.2 with ⟨e, h9⟩ | ⟨g, cap, cur, e, -⟩
        · simp at h9
        · cases e; exact ⟨g, rfl⟩
      obtain ⟨c0, c1, c2, c3, c4⟩ := os5_mid hrow hf.len
      have hmem := List.mem_of_getElem? hx
      have hrr : Rd wr x.a x.ct.ws := rd_gr (HRD.out x hmem) hf.gr (HNE.out x hmem)
      have lg := (hrow.lt (b := g) rfl).2
      have lg0 := (HROW.out.lt (b := g) rfl).2
      have BA : Hid (Below wr.heap.size wr (wr.alloc (Obj.cells #[Value.int .i64 x.ct.v, Value.int .i64 x.ct.lo, Value.int .i64 x.ct.wd, Value.int .i64 x.ct.bw, Value.slice x.a x.ct.ws.length x.c] 47))) := (Below.refl _ _).alloc (Nat.le_refl _) _
      have HCP := kide (fun u (hu : Below wr.heap.size wr u) => copyO x.ct.bw x.a x.c x.ct.ws.length x.ct.ws u (hrr.later hu) rfl (HNO.out x hmem))
      have HROW2 := kide hrow
      have hkN : (k : Int) < (N : Int) := by omega
      have hk0 : (k : Int) ≥ 0 := by omega
      have hkw : IntKind.i64.wrap ((k : Int) + 1) = (k : Int) + 1 := by rw [IntKind.wrap_i64]; omega
      have HDR := kide hdr
      have HX := kide hx
      clear hx hdr hf hrow hmem hrr
      go_wp2_with fail
      refine Calls.mono (HCP.out _ BA.out) ?_
      rintro e V ⟨a2, c2', rfl, ho2, hb2⟩
      have b2 := BA.out.trans (hb2.mono BA.out.size)
      have hrV := HROW2.out.later b2
      obtain ⟨k0, k1, k2, k3, k4⟩ := os5_mid hrV HF.out.len
      obtain ⟨cur9, hcur9⟩ := hrV.typed (b := g) rfl
      have z3 := frozen_of_row V g (k * 5 + 3) cur9 _ hcur9
      have z4 := frozen_of_row V g (k * 5 + 4) cur9 _ hcur9
      obtain ⟨Y, hYc, hYa, hYd⟩ : ∃ Y : Sg, Y.ct = x.ct ∧ Y.a = a2 ∧ Y.c = c2' := ⟨⟨x.ct, a2, c2'⟩, rfl, rfl, rfl⟩
      subst hYa hYd
      have hU : (V.setCell ⟨g, k * 5 + 3, none⟩ (Value.int .i64 x.ct.bw)).setCell ⟨g, k * 5 + 4, none⟩ (Value.slice Y.a x.ct.ws.length Y.c) = put2 V g (k * 5) Y := by unfold put2; rw [hYc]
      obtain ⟨P1, P2⟩ := os5_put2i hrV HF.out.len hYc
      have hg1 : w.grownBy V (some g) := ⟨b2.os.trans HF.out.gr.os, b2.tape.trans HF.out.gr.tape, b2.output.trans HF.out.gr.output, Nat.le_trans HF.out.gr.size b2.size, fun j hj hn => (b2.block j (Nat.lt_of_lt_of_le hj HF.out.gr.size)).trans (HF.out.gr.block j hj hn)⟩
      have hlow : w.heap.size ≤ (wr.alloc (Obj.cells #[Value.int .i64 x.ct.v, Value.int .i64 x.ct.lo, Value.int .i64 x.ct.wd, Value.int .i64 x.ct.bw, Value.slice x.a x.ct.ws.length x.c] 47)).heap.size := Nat.le_trans HF.out.gr.size BA.out.size
      have hnY : Nw V (wr.alloc (Obj.cells #[Value.int .i64 x.ct.v, Value.int .i64 x.ct.lo, Value.int .i64 x.ct.wd, Value.int .i64 x.ct.bw, Value.slice x.a x.ct.ws.length x.c] 47)).heap.size Y.a x.ct.ws := by
        obtain ⟨a9, c9, e9, h9⟩ := ho2.shape
        cases e9
        exact h9
      have NX : Hid (Fh w B (.slice (some ⟨g, 0, none⟩) N vc) l (k + 1) (m ++ [Y]) (put2 V g (k * 5) Y)) := by
        refine ⟨by rw [List.append_assoc]; exact P1, ?_, by rw [List.length_append, HF.out.len]; rfl, ?_, ?_, grown_same hg1 P2⟩
        · rw [List.map_append, HF.out.ct, List.take_add_one, HX.out, Option.toList_some, List.map_append, show [Y].map Sg.ct = [x].map Sg.ct by simp [hYc]]
        · intro y hy
          refine nw_gr ?_ P2 (fun j hj => by cases hj; exact lg0)
          rcases List.mem_append.1 hy with hy | hy
          · exact (HF.out.nw y hy).later b2
          · rw [List.mem_singleton.1 hy, hYc]
            exact hnY.mono hlow
        · refine HF.out.dj.snoc (N := wr.heap.size) (fun y hy p hp => (nw_lt (HF.out.nw y hy) hp).2) (fun p hp => ?_)
          have := (nw_lt hnY hp).1
          have := BA.out.size
          omega
      clear ho2 hb2 b2 hrV P1 P2 hg1 hlow hnY hcur9 hYc
      go_wp2_with fail
      go_roundw
      case rel => exact ⟨k + 1, m ++ [Y], by omega, rfl, NX.out⟩
      case measure => simp only [intOf]; omega
    · obtain rfl : k = N := by omega
      clear hf
      go_wp2_with fail
      refine bodyPost_ret (v := .tuple #[.slice va k vc, .bool ok]) (by simp [results, Try.results31, go_sem]) rfl ⟨rfl, m, ?_⟩
      rw [HN.out]
      exact HF.out
end Go.Proofs.Ytfanddpncipkkaa
