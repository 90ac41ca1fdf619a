/- An answer that is one word: kept, marked, held; sizes of segments. -/
import Derived.Test.YtpmpipcpifmncaaFJ
import Derived.Test.YtpmpipcpifmncaaFI
import Derived.Test.YtpmpipcpifmncaaFF
import Derived.Test.YtpmpipcpifmncaaMOX
namespace Go.Proofs.Ytpmpipcpifmncaa
set_option linter.unusedVariables false
set_option linter.unusedSimpArgs false
open Go.RowKit

/-- A word in memory of its own, beside the box bx. -/
def Fb (w : World) (lo hi bx : Nat) (a : Option Addr) (ys : List Nat) : Prop := (ys = [] ∧ a = none) ∨ ∃ g, a = some ⟨g, 0, none⟩ ∧ lo ≤ g ∧ g < hi ∧ g ≠ bx ∧ Own w g ys
theorem Fb.of {w : World} {lo : Nat} {a : Option Addr} {ys : List Nat} (h : Fresh w lo a ys) : Fb w lo w.heap.size w.heap.size a ys := by
  rcases h with h | ⟨g, h1, h2, h3⟩
  · exact .inl h
  · exact .inr ⟨g, h1, h2, h3.lt, by have := h3.lt; omega, h3⟩
theorem Fb.later {w w' : World} {lo hi bx : Nat} {a : Option Addr} {ys : List Nat} (h : Fb w lo hi bx a ys) (hb : Below w.heap.size w w') : Fb w' lo hi bx a ys := by
  rcases h with h | ⟨g, h1, h2, h3, h4, h5⟩
  · exact .inl h
  · exact .inr ⟨g, h1, h2, h3, h4, h5.later2 hb⟩
theorem Fb.keep {w w' : World} {lo hi bx B1 B2 : Nat} {a : Option Addr} {ys : List Nat} (h : Fb w lo hi bx a ys) (ho : Out B1 B2 w w') (hd : hi ≤ B1 ∨ B2 ≤ lo) : Fb w' lo hi bx a ys := by
  rcases h with h | ⟨g, h1, h2, h3, h4, h5⟩
  · exact .inl h
  · refine .inr ⟨g, h1, h2, h3, h4, ?_⟩
    unfold Own
    rw [ho.2.2.2.2 g h5.lt (by omega)]
    exact h5
theorem Fb.rd {w : World} {lo hi bx : Nat} {a : Option Addr} {ys : List Nat} (h : Fb w lo hi bx a ys) (hl : ys.length ≤ 1048576) (hx : ∀ x ∈ ys, x < 18446744073709551616) : Rd w a ys := by
  rcases h with ⟨h1, h2⟩ | ⟨g, h1, h2, h3, h4, h5⟩
  · exact ⟨hl, hx, .inl h1⟩
  · rw [h1]; exact h5.rd hl hx
theorem bz_out {w w' : World} {b B1 B2 : Nat} {cs : Array Value} {t : TypeId} (h : Bz w b cs t) (ho : Out B1 B2 w w') (hd : b < B1 ∨ B2 ≤ b) : Bz w' b cs t := by
  unfold Bz
  rw [ho.2.2.2.2 b h.lt (by omega)]
  exact h
theorem markBits_fb (W : Int) (lo hi bx c : Nat) (a : Option Addr) (ys : List Nat) (w : World) (hl : ys.length ≤ 1048576) (h : Fb w lo hi bx a ys) (hlh : lo ≤ hi) :
    Calls Try.prog 21 #[.agg #[.int .i64 W, .slice a ys.length c], .int .i64 1] w fun e w' => e = .returned (.int .i64 ((1 + ys.length : Nat) : Int)) ∧ Fb w' lo hi bx a (marks 1 ys.length) ∧ (∀ cs t, Bz w bx cs t → Bz w' bx cs t) ∧ Out lo hi w w' := by
  rcases h with ⟨h1, h2⟩ | ⟨g, h1, h2, h3, h4, h5⟩
  · subst h1; subst h2
    refine (markBits_nil W none c 1 w).mono ?_
    rintro e w' ⟨rfl, hb⟩
    exact ⟨rfl, .inl ⟨rfl, rfl⟩, fun cs t hz => hz.later hb, Out.of hb⟩
  · subst h1
    refine (markBits_own W g c 1 ys w hl (by omega) h5).mono ?_
    rintro e w' ⟨rfl, ho, hg⟩
    exact ⟨rfl, .inr ⟨g, rfl, h2, h3, h4, ho⟩, fun cs t hz => hz.grown hg (fun e => h4 e.symm), Out.grown hg h2 h3⟩
theorem size_sg (va : Option Addr) (vn vc : Nat) (L : Int) (w : World) (hL : 0 ≤ L) (hL2 : L ≤ 1048576) (hvn : vn ≤ 9223372036854775807)
    (hy : vn ≤ 1048576 → ∃ hs : List Sh, hs.length = vn ∧ RdSh w va hs ∧ ∀ h ∈ hs, SegOf w h) :
    ∃ Z : Int, Hid (∀ u, Below w.heap.size w u → Calls Try.prog 8 #[.slice va vn vc, .int .i64 L] u fun e w' => e = .returned (.int .i64 Z) ∧ Below u.heap.size u w') ∧ (Z < 0 ∨ 0 ≤ Z ∧ ∃ vs : List Sg, vs.length = vn ∧ RdS w va vs) := by
  by_cases h2 : (vn : Int) ≤ L
  · obtain ⟨hs, rfl, hh, hk⟩ := hy (by omega)
    refine ⟨szSl hs (L - hs.length), fun u hu => szSegS_in va vc hs L u (hh.later hu) hL hL2 h2, ?_⟩
    by_cases h3 : szSl hs (L - hs.length) < 0
    · exact .inl h3
    · exact .inr ⟨by omega, RdS_of hh hk (L := L - hs.length) (by omega) (by omega) (by omega)⟩
  · exact ⟨-1, fun u hu => (szSegS_out va vn vc L u hL hL2 hvn h2).mono (fun e w' h => ⟨h.1, by rw [h.2]; exact Below.refl _ _⟩), .inl (by omega)⟩

/-- What the answer is bounded by. -/
theorem flev_ok (ds : List Dc) (vs : List Wr) (fs : List Sc) : (flevR ds vs fs).2.1.length ≤ 1048576 ∧ ∀ x ∈ (flevR ds vs fs).2.1, x < 18446744073709551616 := by
  unfold flevR
  split
  · rename_i h
    obtain ⟨hv, hf⟩ := h
    obtain ⟨hD, -, -⟩ := valR_iff.1 hv
    obtain ⟨hall, hs1, hs2, hl2⟩ := formR_sum hD hf
    have hl := flatL_len vs fs (fun s hs => by have := hall s hs; omega)
    refine ⟨?_, pack_lt _⟩
    show (pack (flatL vs fs)).length ≤ _
    rw [pack_len]
    omega
  · exact ⟨by simp [noR], fun x hx => by simp [noR] at hx⟩

end Go.Proofs.Ytpmpipcpifmncaa
