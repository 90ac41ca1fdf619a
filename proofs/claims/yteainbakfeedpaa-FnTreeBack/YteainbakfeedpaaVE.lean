/- What the program's scanner does where a node begins. -/
import Derived.Test.YteainbakfeedpaaVD
import Derived.Test.YteainbakfeedpaaSBT
namespace Go.Proofs.Yteainbakfeedpaa
set_option linter.unusedVariables false
set_option linter.unusedSimpArgs false
open Go.RowKit

theorem aEnd_run (s : ByteArray) (f p : Nat) : aEnd s f p = runE atomB s f p := by
  induction f generalizing p with
  | zero => rfl
  | succ f ih => rw [aEnd, runE, ih]

theorem clone_any (s : ByteArray) (w : World) (hs : s.size ≤ 1048576) :
    Calls Try.prog 76 #[.string s] w fun e w' => e = .returned (.string s) ∧ Below w.heap.size w w' := by
  have HC := hidI (fun u => Try.stringslite_Clone s u (by omega))
  go_enter Try.func76, Try.ntmps76
  go_wp2_with fail
  refine Calls.mono (HC.out _) ?_
  rintro e w1 ⟨rfl, hb⟩
  go_wp2_with fail
  go_ret
  exact ⟨rfl, hb⟩

/-- What the numbers of a reader keep to. -/
structure Inv (cs : List Ct) (op : List Nat) : Prop where
  len : cs.length ≤ 2000
  opl : op.length ≤ 101
  opn : ∀ u ∈ op, u < cs.length
  kid : ∀ n ∈ cs, n.2.length ≤ cs.length

/-- The nodes behind a node that begins. -/
def RetG (B S : Nat) (s : ByteArray) (cs : List Ct) (op : List Nat) (r : Nat) (w : World) (e : Ending) (w' : World) : Prop :=
  ∃ (vN vO : Value) (ns : List Nd), e = .returned (.int .i64 (r : Int)) ∧ Sc w' B S s vN vO ns op ∧ ns.map Nd.ct = cs ∧ Below B w w'

theorem Below_grown {B : Nat} {w w1 : World} {e size n : Nat} {v : Value} {xs : List Value} (h : w.grownBy w1 v.ownBlock) (ho : w.ownsRow B e size v n xs) (hB : B ≤ w.heap.size) : Below B w w1 :=
  ⟨h.os, h.tape, h.output, h.size, fun b hb => h.block b (by omega) (fun e => by have := (owns_typed ho e.symm).1; omega)⟩

theorem Sc.setBlk {w : World} {S : Nat} {a b c u : Value} (j : Nat) (h : w.heap[S]? = some (.cells #[a, b, c] 55 (0, 0))) : (w.setCell ⟨S, j, none⟩ u).heap[S]? = some (.cells (#[a, b, c].setIfInBounds j u) 55 (0, 0)) := heap_setCell_same w S j _ _ _ h

theorem Sc.pushN {w w1 : World} {B S g cap : Nat} {s t : ByteArray} {vN vO : Value} {ns : List Nd} {op : List Nat} (h : Sc w B S s vN vO ns op) (hl : ns.length < 2000) (hg : w.grownBy w1 vN.ownBlock)
    (ho : w1.ownsRow B 59 2 (.slice (some ⟨g, 0, none⟩) (ns.length + 1) cap) (ns.length + 1) (nc ns ++ [.string t, .slice none 0 0])) (ht : t.size ≤ 1048576) :
    Sc (w1.setCell ⟨S, 1, none⟩ (.slice (some ⟨g, 0, none⟩) (ns.length + 1) cap)) B S s (.slice (some ⟨g, 0, none⟩) (ns.length + 1) cap) vO (ns ++ [⟨t, none, 0, []⟩]) op ∧ Below B w (w1.setCell ⟨S, 1, none⟩ (.slice (some ⟨g, 0, none⟩) (ns.length + 1) cap)) := by
  have hb1 : w1.heap[S]? = some (.cells #[.string s, vN, vO] 55 (0, 0)) := by
    rw [hg.block S h.lt (fun e => owns_ne h.nodes.row h.blk (by decide) e.symm)]
    exact h.blk
  have hn1 := h.nodes.push hl hg ho ht
  have hr1 : RowI w1 B vO (oi op) := owns_keep h.row hg (fun k hk e => by
    obtain ⟨-, -, cs, fr, hb⟩ := owns_typed h.nodes.row e.symm
    exact owns_ne h.row hb (by decide) hk)
  have hbel := Below_grown hg h.nodes.row h.size
  refine ⟨⟨h.le, Nat.le_trans h.size (by simpa using hg.size), ?_, hn1.other grown_set hb1 (by decide) (by decide), owns_keep hr1 grown_set (fun k hk e => by cases e; exact owns_ne hr1 hb1 (by decide) hk), ?_⟩, hbel.setCell (p := ⟨S, 1, none⟩) h.le _⟩
  · rw [Sc.setBlk 1 hb1]; rfl
  · intro i n k hi hk
    rw [List.getElem?_append] at hi
    split at hi
    · exact h.apart i n k hi hk
    · have := (List.getElem?_eq_some_iff.1 hi).1
      simp at this
      rw [this] at hi
      simp at hi
      subst hi
      cases hk

theorem Sc.addK {w w1 : World} {B S g gN N capN cap u : Nat} {s : ByteArray} {vO : Value} {ns : List Nd} {op : List Nat} {n : Nd} {p : Int} (h : Sc w B S s (.slice (some ⟨gN, 0, none⟩) N capN) vO ns op) (hu : ns[u]? = some n) (hg : w.grownBy w1 n.v.ownBlock)
    (ho : RowI w1 B (.slice (some ⟨g, 0, none⟩) (n.ks.length + 1) cap) (n.ks ++ [p])) (hat : n.v.ownBlock = some g ∨ w.heap.size ≤ g) (hp : in64 p) (hl : n.ks.length < 2000) :
    Sc (w1.setCell ⟨gN, u * 2 + 1, none⟩ (.slice (some ⟨g, 0, none⟩) (n.ks.length + 1) cap)) B S s (.slice (some ⟨gN, 0, none⟩) N capN) vO (ns.set u ⟨n.txt, some ⟨g, 0, none⟩, cap, n.ks ++ [p]⟩) op ∧ Below B w (w1.setCell ⟨gN, u * 2 + 1, none⟩ (.slice (some ⟨g, 0, none⟩) (n.ks.length + 1) cap)) := by
  have hul := (List.getElem?_eq_some_iff.1 hu).1
  obtain ⟨hBN, hgN, csN, frN, hbN⟩ := owns_typed h.nodes.row (k := gN) rfl
  have hSN : S ≠ gN := fun e => by rw [← e, h.blk] at hbN; cases hbN
  have hb1 : w1.heap[S]? = some (.cells #[.string s, .slice (some ⟨gN, 0, none⟩) N capN, vO] 55 (0, 0)) := by
    rw [hg.block S h.lt (fun e => owns_ne (h.nodes.kid u n hu) h.blk (by decide) e.symm)]
    exact h.blk
  have hr1 : RowI w1 B vO (oi op) := owns_keep h.row hg (fun k hk e => h.apart u n k hu e.symm hk)
  have hbel := Below_grown hg (h.nodes.kid u n hu) h.size
  have hbN1 : w1.heap[gN]? = some (.cells csN 59 frN) := by
    rw [hg.block gN hgN (fun e => owns_ne (h.nodes.kid u n hu) hbN (by decide) e.symm)]
    exact hbN
  refine ⟨⟨h.le, Nat.le_trans h.size (by simpa using hg.size), ?_, h.nodes.addKid hu hg ho hat hp hl, owns_keep hr1 grown_set (fun k hk e => by cases e; exact owns_ne hr1 hbN1 (by decide) hk), ?_⟩, hbel.setCell (p := ⟨gN, u * 2 + 1, none⟩) hBN _⟩
  · rw [heap_setCell_other _ _ _ _ (by exact hSN)]; exact hb1
  · intro i m k hi hk
    by_cases e : u = i
    · subst e
      rw [List.getElem?_set_self hul] at hi
      cases hi
      cases hk
      rcases hat with hat | hat
      · exact h.apart u n g hu hat
      · intro hk'
        have h9 : g < w.heap.size := (owns_typed h.row hk').2.1
        omega
    · rw [List.getElem?_set_ne e] at hi
      exact h.apart i m k hi hk

theorem Sc.pushO {w w1 : World} {B S g cap u : Nat} {s : ByteArray} {vN vO : Value} {ns : List Nd} {op : List Nat} (h : Sc w B S s vN vO ns op) (hg : w.grownBy w1 vO.ownBlock)
    (ho : RowI w1 B (.slice (some ⟨g, 0, none⟩) ((oi op).length + 1) cap) (oi op ++ [(u : Int)])) (hat : vO.ownBlock = some g ∨ w.heap.size ≤ g) :
    Sc (w1.setCell ⟨S, 2, none⟩ (.slice (some ⟨g, 0, none⟩) ((oi op).length + 1) cap)) B S s vN (.slice (some ⟨g, 0, none⟩) ((oi op).length + 1) cap) ns (u :: op) ∧ Below B w (w1.setCell ⟨S, 2, none⟩ (.slice (some ⟨g, 0, none⟩) ((oi op).length + 1) cap)) := by
  have hb1 : w1.heap[S]? = some (.cells #[.string s, vN, vO] 55 (0, 0)) := by
    rw [hg.block S h.lt (fun e => owns_ne h.row h.blk (by decide) e.symm)]
    exact h.blk
  have hn1 : ONs w1 B vN ns := h.nodes.keep hg (fun k hk e => by
      obtain ⟨-, -, cs, fr, hb⟩ := owns_typed h.row e.symm
      exact owns_ne h.nodes.row hb (by decide) hk) (fun i n k hi hk e => h.apart i n k hi hk e.symm)
  have hbel := Below_grown hg h.row h.size
  refine ⟨⟨h.le, Nat.le_trans h.size (by simpa using hg.size), ?_, hn1.other grown_set hb1 (by decide) (by decide), ?_, ?_⟩, hbel.setCell (p := ⟨S, 2, none⟩) h.le _⟩
  · rw [Sc.setBlk 2 hb1]; rfl
  · rw [oi_cons]
    exact owns_keep ho grown_set (fun k hk e => by cases e; exact owns_ne ho hb1 (by decide) hk)
  · intro i n k hi hk e
    cases e
    rcases hat with hat | hat
    · exact h.apart i n _ hi hk hat
    · have h9 : g < w.heap.size := (owns_typed (h.nodes.kid i n hi) hk).2.1
      omega

theorem Sc.popO {w : World} {B S u : Nat} {s : ByteArray} {vN vO : Value} {ns : List Nd} {op : List Nat} (h : Sc w B S s vN vO ns (u :: op)) :
    ∃ g c, vO = .slice (some ⟨g, 0, none⟩) (op.length + 1) c ∧ op.length + 1 ≤ c ∧ c ≤ maxLen ∧ Sc (w.setCell ⟨S, 2, none⟩ (.slice (some ⟨g, 0, none⟩) op.length c)) B S s vN (.slice (some ⟨g, 0, none⟩) op.length c) ns op ∧ Below B w (w.setCell ⟨S, 2, none⟩ (.slice (some ⟨g, 0, none⟩) op.length c)) := by
  have hr := h.row
  rcases hr.2 with ⟨-, h'⟩ | ⟨g, c, cur, rfl, hB, hh, h1, h2, h3, h4⟩
  · rw [oi_len] at h'; simp at h'
  · rw [oi_len, List.length_cons] at h1
    refine ⟨g, c, by rw [oi_len]; rfl, h1, h2, ⟨h.le, by simpa using h.size, ?_, h.nodes.other grown_set h.blk (by decide) (by decide), ?_, ?_⟩, (Below.refl B w).setCell (p := ⟨S, 2, none⟩) h.le _⟩
    · rw [Sc.setBlk 2 h.blk]; rfl
    · have hne : g ≠ S := fun e => by rw [e, h.blk] at hh; cases hh
      refine ⟨by simp [ints, oi_len], .inr ⟨g, c, cur, by rw [oi_len], hB, ?_, by rw [oi_len]; omega, h2, h3, ?_⟩⟩
      · rw [heap_setCell_other _ _ _ _ (by exact hne)]; exact hh
      · have hl0 : (oi (u :: op)).length * 1 = op.length + 1 := by rw [oi_len]; simp
        have hl1 : (oi op).length * 1 = op.length := by rw [oi_len]; simp
        rw [hl0, oi_cons] at h4
        rw [hl1]
        have := congrArg (List.take op.length) h4
        rw [List.take_take, Nat.min_eq_left (by omega)] at this
        rw [this]
        have hlen : (ints (oi op)).length = op.length := by simp [ints, oi_len]
        simp only [ints, List.map_append]
        exact List.take_left' hlen
    · intro i n k hi hk e
      cases e
      exact h.apart i n _ hi hk rfl

end Go.Proofs.Yteainbakfeedpaa
