/- Slices of right cuts, plainly: how many there are. -/
import Derived.Test.YtnfagdfaphihhaaOE
import Derived.Test.YtnfagdfaphihhaaLD
namespace Go.Proofs.Ytnfagdfaphihhaa
set_option linter.unusedVariables false
set_option linter.unusedSimpArgs false
open Go.RowKit

theorem slR_sum : ∀ (ds : List Dc) (cs : List (List Int)) (v : Nat), cs.length = ds.length → ((slR ds cs v).length : Int) = (ds.length : Int) + sumLen cs
  | [], [], v, _ => by simp [slR, sumLen]
  | [], c :: cs, v, h => by simp at h
  | d :: ds, [], v, h => by simp at h
  | d :: ds, c :: cs, v, h => by
    have := slR_sum ds cs (v + 1) (by simpa using h)
    rw [slR, List.length_append, slV_len, sumLen]
    simp
    omega

theorem cutL_at : ∀ {ds : List Dc} {cs : List (List Int)} {k : Nat} {d : Dc} {c : List Int}, cutL ds cs = true → ds[k]? = some d → cs[k]? = some c → risR d.2 0 c = true
  | d :: ds, c :: cs, 0, _, _, h, h1, h2 => by
    simp at h1 h2
    subst h1; subst h2
    rw [cutL, Bool.and_eq_true] at h
    exact h.1
  | d :: ds, c :: cs, k + 1, _, _, h, h1, h2 => by
    rw [cutL, Bool.and_eq_true] at h
    exact cutL_at h.2 (by simpa using h1) (by simpa using h2)
  | [], _, _, _, _, _, h1, _ => by simp at h1
  | _ :: _, [], _, _, _, h, _, _ => by simp [cutL] at h

end Go.Proofs.Ytnfagdfaphihhaa
