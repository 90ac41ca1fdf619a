/- The drawn tree of the law: any tree that can be read. -/
import Derived.Test.YteainbakfeedpaaYF
import Derived.Deep.RegionLawGrows
namespace Go.Proofs.Yteainbakfeedpaa
set_option linter.unusedVariables false
set_option linter.unusedSimpArgs false
open Go.RowKit

def RetDt (w : World) (e : Ending) (w' : World) : Prop :=
  ∃ (a' : Option Addr) (c' : Nat) (ns : List Nd), e = .returned (.agg #[.slice a' ns.length c']) ∧ RdN w' a' ns ∧ Below w.heap.size w w'

def vsl : Value → Bool
  | .slice _ _ _ => true
  | _ => false
theorem ne_of_cell {w : World} {b b' o : Nat} {v : Value} {p : Option Addr} {q r : Nat} {t : TypeId} {fr : Nat × Nat} (h : w.cell? ⟨b', o, none⟩ = some v) (hb : w.heap[b]? = some (.cells #[.slice p q r] t fr)) (hv : vsl v = false) : b' ≠ b := fun e => by
  subst e
  have h2 := cell_of_row w b' o _ _ _ hb
  rw [h] at h2
  cases o with
  | zero => simp at h2; subst h2; cases hv
  | succ o => simp at h2
theorem RdN.box {w : World} {a : Option Addr} {ns : List Nd} {b : Nat} {x : Value} {p : Option Addr} {q r : Nat} {t : TypeId} {fr : Nat × Nat} (h : RdN w a ns) (hb : w.heap[b]? = some (.cells #[.slice p q r] t fr)) : RdN (w.setCell ⟨b, 0, none⟩ x) a ns := by
  have far : ∀ {b' o : Nat} {v : Value}, b' ≠ b → w.cell? ⟨b', o, none⟩ = some v → (w.setCell ⟨b, 0, none⟩ x).cell? ⟨b', o, none⟩ = some v := fun hne hc => by
    rw [World.cell?_setCell_far _ _ _ _ (fun e => hne e.symm)]; exact hc
  refine ⟨h.1, ?_⟩
  rcases h.2 with h | ⟨b', o, rfl, hc⟩
  · exact .inl h
  · refine .inr ⟨b', o, rfl, fun i n hi => ?_⟩
    obtain ⟨f0, f1, ⟨l1, l2, l3⟩, f3⟩ := hc i n hi
    have hne := ne_of_cell f0 hb rfl
    refine ⟨far hne f0, far hne f1, ⟨l1, l2, ?_⟩, f3⟩
    rcases l3 with l3 | ⟨b2, o2, e2, hk⟩
    · exact .inl l3
    · exact .inr ⟨b2, o2, e2, fun j hj => far (ne_of_cell (hk j hj) hb rfl) (hk j hj)⟩

/-- 'append(nodes, node)', a node with a kid's row. -/
theorem wpList_appK (w : World) {ops : Array Oper} {rest : List Oper} {o : Oper} {a : Act} {Q : Exit → Act → World → Prop} (hgd : o.guard = none) (s x : Operand)
    (ho : o.op = .call { callee := .builtin .append, args := #[s, x], argTypes := #[24, 24] })
    (base : Nat) (v : Value) (ns : List Nd) (t : ByteArray) (ka : Option Addr) (kn kc : Nat) (hs : a.eval s = v) (hown : ONs w base v ns) (b c : Nat) (hx : a.eval x = .slice (some ⟨b, 0, none⟩) 1 c)
    (h0 : w.heap[b]? = some (.cells #[.string t, .slice ka kn kc] 59 (0, 0))) (hbase : base ≤ w.heap.size)
    (h : ∀ g cap w', w'.ownsRow base 59 2 (.slice (some ⟨g, 0, none⟩) (ns.length + 1) cap) (ns.length + 1) (nc ns ++ [.string t, .slice ka kn kc]) → w.grownBy w' v.ownBlock → wpList Try.prog ops Q rest (a.put o.dst (.slice (some ⟨g, 0, none⟩) (ns.length + 1) cap)) w') :
    wpList Try.prog ops Q (o :: rest) a w := by
  obtain ⟨i0, hi, hz0, hz1, hz2⟩ := info_parts Try.infoNode
  have hl := hown.len
  refine wpList_append_lies w hgd s x 24 ho base 59 i0 _ 2 40 Try.underlying24 hi hz0 hz1 hz2 rfl (by decide) v ns.length (nc ns) hs hown.row ⟨b, 0, none⟩ 1 c [.string t, .slice ka kn kc] hx rfl (World.news_of_block h0) ?_ (by decide) ?_ ?_ hbase _ rfl ?_
  · intro u hu
    simp at hu
    rcases hu with rfl | rfl <;> rfl
  · unfold maxLen; omega
  · omega
  · intro g cap w' h1 h2 h3 _
    exact h g cap w' h1 h2

theorem ONs.pushK {w w1 : World} {B g cap : Nat} {v : Value} {ns : List Nd} {n : Nd} (h : ONs w B v ns) (hl : ns.length < 2000) (hg : w.grownBy w1 v.ownBlock) (hk : RowI w B n.v n.ks) (hf : NdFit n)
    (hap : ∀ (i : Nat) (m : Nd) (k : Nat), ns[i]? = some m → m.v.ownBlock = some k → n.v.ownBlock = some k → False)
    (ho : w1.ownsRow B 59 2 (.slice (some ⟨g, 0, none⟩) (ns.length + 1) cap) (ns.length + 1) (nc ns ++ [.string n.txt, n.v])) :
    ONs w1 B (.slice (some ⟨g, 0, none⟩) (ns.length + 1) cap) (ns ++ [n]) := by
  have key : ∀ (i : Nat) (m : Nd), (ns ++ [n])[i]? = some m → ns[i]? = some m ∨ (i = ns.length ∧ m = n) := by
    intro i m hi
    rw [List.getElem?_append] at hi
    split at hi
    · exact .inl hi
    · right
      have hi1 := (List.getElem?_eq_some_iff.1 hi).1
      simp at hi1
      have hi2 : i - ns.length = 0 := hi1
      rw [hi2] at hi
      simp at hi
      exact ⟨by omega, hi.symm⟩
  have keep : ∀ {v' : Value} {ks : List Int}, RowI w B v' ks → RowI w1 B v' ks := fun hr => owns_keep hr hg fun k hk e => by
    obtain ⟨-, -, cs, fr, hb⟩ := owns_typed h.row e.symm
    exact owns_ne hr hb (by decide) hk
  refine ⟨by simp; omega, ?_, ?_, ?_, ?_⟩
  · rw [List.length_append, nc_append]
    exact ho
  · intro i m hi
    rcases key i m hi with hi | ⟨-, rfl⟩
    · exact keep (h.kid i m hi)
    · exact keep hk
  · intro i j m m2 k hi hj h1 h2
    rcases key i m hi with hi' | ⟨e1, e1'⟩
    · rcases key j m2 hj with hj' | ⟨e2, e2'⟩
      · exact h.apart i j m m2 k hi' hj' h1 h2
      · rw [e2'] at h2
        exact (hap i m k hi' h1 h2).elim
    · rw [e1'] at h1
      rcases key j m2 hj with hj' | ⟨e2, e2'⟩
      · exact (hap j m2 k hj' h2 h1).elim
      · omega
  · intro i m hi
    rcases key i m hi with hi | ⟨-, rfl⟩
    · exact h.fit i m hi
    · exact hf
theorem rowI_one {w : World} {B g : Nat} {x : Int} (h : w.heap[g]? = some (.cells #[.int .i64 x] 2 (0, 0))) (hB : B ≤ g) : RowI w B (.slice (some ⟨g, 0, none⟩) 1 1) [x] :=
  ⟨rfl, .inr ⟨g, 1, #[.int .i64 x], rfl, hB, h, Nat.le_refl 1, by unfold maxLen; omega, rfl, rfl⟩⟩
theorem set_one {w : World} {b : Nat} {v u : Value} {t : TypeId} (h : w.heap[b]? = some (.cells #[v] t (0, 0))) : (w.setCell ⟨b, 0, none⟩ u).heap[b]? = some (.cells #[u] t (0, 0)) := heap_setCell_same w b 0 _ _ _ h
theorem ONs.none (w : World) (B : Nat) : ONs w B (.slice none 0 0) [] :=
  ⟨by simp, World.ownsRow_nil _ _ _ _, fun i n h => by simp at h, fun i j n m k h => by simp at h, fun i n h => by simp at h⟩

set_option maxHeartbeats 2000000 in
set_option maxRecDepth 100000 in
theorem drawTreeOk_any (HT : TreeAny) (a : Option Addr) (c : Nat) (bs : List Nat) (w : World) (h : RdB w a bs) :
    Calls Try.prog 25 #[.slice a bs.length c] w (RetDt w) := by
  have HT' := hidE HT
  clear HT
  go_enter Try.func25, Try.ntmps25
  go_wp2_with fail
  have hb0 : Below w.heap.size w (w.alloc (Obj.cells #[Value.slice none 0 0] 26)) := Ba (Below.refl _ _) _
  have hbR : (w.alloc (Obj.cells #[Value.slice none 0 0] 26)).heap[w.heap.size]? = some (.cells #[.slice none 0 0] 26 (0, 0)) := heap_alloc_new _ _
  have h0 := h.later hb0
  generalize w.alloc (Obj.cells #[Value.slice none 0 0] 26) = wA at *
  refine (rdOpen_any a c bs _ h0).mono ?_
  rintro e w1 ⟨β, rfl, hβ, hr1, hb1⟩
  have hRl := lt_of_block hbR
  have hbR1 := (hb1.block _ hRl).trans hbR
  have hB1 : Below w.heap.size w w1 := hb0.trans (hb1.mono hb0.size)
  clear h h0 hb0 hbR hb1
  go_wp2_with fail
  refine (once_any 20 (by omega) (by omega) β a c bs _ hr1).mono ?_
  rintro e w2 ⟨q, rfl, hr2, hd2⟩
  have hbR2 : w2.heap[w.heap.size]? = _ := (World.grownBy.block hd2 _ (lt_of_block hbR1) (by simp; omega)).trans hbR1
  have hB2 := hB1.trans (hd2.below (by omega) hB1.size)
  have hβ2 := hr2.lt
  clear hr1 hB1 hbR1 hd2
  cases q with
  | true =>
    have hA2 : Below w2.heap.size w2 (w2.alloc (Obj.cells #[Value.slice none 0 0] 26)) := Ba (Below.refl _ _) _
    go_wp2_with fail
    refine (below_any 3 (by omega) β a c bs _ (hr2.later hA2)).mono ?_
    rintro e w3 ⟨z, rfl, hz, hr3, hd3⟩
    have hbT3 : w3.heap[w2.heap.size]? = some (.cells #[.slice none 0 0] 26 (0, 0)) := hd3.row hβ2
    have hbR3 : w3.heap[w.heap.size]? = _ := (World.grownBy.block hd3 _ (by simp; have := lt_of_block hbR2; omega) (by simp; omega)).trans ((hA2.block _ (lt_of_block hbR2)).trans hbR2)
    have hB3 : Below w.heap.size w w3 := (hB2.trans (hA2.mono hB2.size)).trans (hd3.below (by omega) (by have := hB2.size; simp; omega))
    have hτ : w.heap.size < w2.heap.size := lt_of_block hbR2
    clear hr2 hr3 hd3 hB2 hbR2 hA2
    generalize w2.heap.size = τ at *
    have hτ3 := lt_of_block hbT3
    have hz2 : z ≤ 2 := by omega
    go_wp2_with fail
    go_loopw [6] (fun i wr => ∃ (ao : Option Addr) (cap : Nat) (ns : List Nd), i = .int .i64 (ns.length : Int) ∧ ns.length ≤ 100 + z ∧ ONs wr w3.heap.size (.slice ao ns.length cap) ns ∧ wr.heap[τ]? = some (.cells #[.slice ao ns.length cap] 26 (0, 0)) ∧ wr.heap[w.heap.size]? = some (.cells #[.slice none 0 0] 26 (0, 0)) ∧ Below w.heap.size w wr ∧ w3.heap.size ≤ wr.heap.size) (fun i _ => 100 + z - (intOf i).toNat)
    case atStart => exact ⟨none, 0, [], rfl, by simp, ONs.none _ _, hbT3, hbR3, hB3, Nat.le_refl _⟩
    case round =>
      obtain ⟨ao, cap, ns, rfl, hk, hon, hT, hR, hB, hsz⟩ := hrel
      clear hbT3 hbR3 hB3
      have t1 := cell_of_one hT
      have t4 := free_of_one hT
      have t2 := cell_of_one hR
      have t3 := free_of_one hR
      have hne : τ ≠ w.heap.size := by omega
      have hτr := lt_of_block hT
      have hRr := lt_of_block hR
      by_cases hlt : ns.length < 100 + z
      · have i0 : (ns.length : Int) < 100 + (z : Int) := by omega
        have hA1 : Below wr.heap.size wr (wr.alloc (Obj.cells #[Value.int IntKind.i64 ((ns.length : Int) + 1)] 2)) := Ba (Below.refl _ _) _
        have hA2 : Below wr.heap.size wr ((wr.alloc (Obj.cells #[Value.int IntKind.i64 ((ns.length : Int) + 1)] 2)).alloc (Obj.cells #[Value.string { data := #[] }, Value.slice (some ⟨wr.heap.size, 0, none⟩) 1 1] 59)) := Ba hA1 _
        have HON := hidE (hon.later hA2)
        have HO0 := hidE hon
        clear hon
        go_wp2_with (at_builtin; refine wpList_appK _ rfl _ _ rfl w3.heap.size _ ns ⟨#[]⟩ (some ⟨wr.heap.size, 0, none⟩) 1 1 rfl HON.out (wr.heap.size + 1) 1 rfl (heap_at _ _ _ (by simp)) (by simp; omega) ?_)
        intro g7 k7 w7 ho7 hg7
        have hK := rowI_one (B := w3.heap.size) ((Below.heap_alloc _ _ _ (by simp)).trans (heap_alloc_new wr (Obj.cells #[Value.int IntKind.i64 ((ns.length : Int) + 1)] 2))) hsz (w := (wr.alloc (Obj.cells #[Value.int IntKind.i64 ((ns.length : Int) + 1)] 2)).alloc (Obj.cells #[Value.string { data := #[] }, Value.slice (some ⟨wr.heap.size, 0, none⟩) 1 1] 59))
        have hTB := (hA2.block τ hτr).trans hT
        have hRB := (hA2.block _ hRr).trans hR
        have hBB := hB.trans (hA2.mono hB.size)
        have hsB := hA2.size
        clear hA1 hA2
        generalize (wr.alloc (Obj.cells #[Value.int IntKind.i64 ((ns.length : Int) + 1)] 2)).alloc (Obj.cells #[Value.string { data := #[] }, Value.slice (some ⟨wr.heap.size, 0, none⟩) 1 1] 59) = wB at *
        have hb7 : Below w.heap.size wB w7 := (Below.refl _ _).grown hg7 (by omega) (fun k e => by have := (owns_typed HON.out.row e).1; omega)
        have hT7 : w7.heap[τ]? = _ := (hg7.block τ (by omega) (fun e => owns_ne HON.out.row hTB (by decide) e.symm)).trans hTB
        have hR7 : w7.heap[w.heap.size]? = _ := (hg7.block w.heap.size (by omega) (fun e => owns_ne HON.out.row hRB (by decide) e.symm)).trans hRB
        have hs7 := World.grownBy.size hg7
        have ho8 := HON.out.pushK (n := ⟨⟨#[]⟩, some ⟨wr.heap.size, 0, none⟩, 1, [(ns.length : Int) + 1]⟩) (by omega) hg7 hK ⟨by show 0 ≤ 1048576; omega, by show 1 ≤ 2000; omega, fun k hk => by rw [List.mem_singleton.1 hk]; constructor <;> omega⟩ (fun i m k hi h1 h2 => by
          have h3 := (owns_typed (HO0.out.kid i m hi) h1).2.1
          have h4 : wr.heap.size = k := Option.some.inj h2
          omega) ho7
        have ho9 := ho8.other (w' := w7.setCell ⟨τ, 0, none⟩ (.slice (some ⟨g7, 0, none⟩) (ns.length + 1) k7)) grown_set hT7 (by decide) (by decide)
        have hT9 := set_one (u := .slice (some ⟨g7, 0, none⟩) (ns.length + 1) k7) hT7
        have hR9 := (heap_setCell_other w7 ⟨τ, 0, none⟩ w.heap.size (.slice (some ⟨g7, 0, none⟩) (ns.length + 1) k7) (fun e => hne e.symm)).trans hR7
        have hB9 := (hBB.trans (hb7)).setCell (p := ⟨τ, 0, none⟩) (Nat.le_of_lt hτ) (.slice (some ⟨g7, 0, none⟩) (ns.length + 1) k7)
        have HH := hidE (And.intro ho9 (And.intro hT9 (And.intro hR9 hB9)))
        have v1 := cell_of_one hT7
        have v4 := free_of_one hT7
        clear ho8 ho9 hT9 hR9 hB9 hT7 hR7 hg7 ho7 hb7 hK hTB hRB hBB t1 t2 t3 t4 hT hR
        go_wp2_with fail
        go_roundw
        case rel =>
          obtain ⟨f1, f2, f3, f4⟩ := HH.out
          exact ⟨some ⟨g7, 0, none⟩, k7, ns ++ [⟨⟨#[]⟩, some ⟨wr.heap.size, 0, none⟩, 1, [(ns.length : Int) + 1]⟩], by simp, by simp; omega, by rw [List.length_append]; exact f1, by rw [List.length_append]; exact f2, f3, f4, by simp; omega⟩
        case measure => simp [intOf]; omega
      · have i0 : ¬ (ns.length : Int) < 100 + (z : Int) := by omega
        have hA6 : Below wr.heap.size wr (wr.alloc (Obj.cells #[Value.string { data := #[97] }, Value.slice none 0 0] 59)) := Ba (Below.refl _ _) _
        have HON := hidE (hon.later hA6)
        have hl2 := hon.len
        clear hon
        go_wp2_with (at_builtin; refine wpList_appN _ rfl _ _ rfl w3.heap.size _ ns ⟨#[97]⟩ rfl HON.out wr.heap.size 1 rfl (heap_alloc_new _ _) (by simp; omega) ?_)
        intro g7 k7 w7 ho7 hg7
        have hTB := (hA6.block τ hτr).trans hT
        have hRB := (hA6.block _ hRr).trans hR
        have hBB := hB.trans (hA6.mono hB.size)
        have hsB := hA6.size
        clear hA6
        generalize wr.alloc (Obj.cells #[Value.string { data := #[97] }, Value.slice none 0 0] 59) = wB at *
        have hb7 : Below w.heap.size wB w7 := (Below.refl _ _).grown hg7 (by omega) (fun k e => by have := (owns_typed HON.out.row e).1; omega)
        have hT7 : w7.heap[τ]? = _ := (hg7.block τ (by omega) (fun e => owns_ne HON.out.row hTB (by decide) e.symm)).trans hTB
        have hR7 : w7.heap[w.heap.size]? = _ := (hg7.block w.heap.size (by omega) (fun e => owns_ne HON.out.row hRB (by decide) e.symm)).trans hRB
        have ho8 := HON.out.push (t := ⟨#[97]⟩) (by omega) hg7 ho7 (by decide)
        have ho9 := (ho8.o3.other (i := 0) (x := .slice (some ⟨g7, 0, none⟩) (ns.length + 1) k7) hT7 (by decide) (by decide)).set_low (k := w.heap.size) (i := 0) (x := .slice (some ⟨g7, 0, none⟩) (ns.length + 1) k7) (by omega)
        have hrd := (ho9.rd' (by simp; omega) ho8.fits).2
        have hB9 := ((hBB.trans hb7).setCell (p := ⟨τ, 0, none⟩) (Nat.le_of_lt hτ) (.slice (some ⟨g7, 0, none⟩) (ns.length + 1) k7)).setCell (p := ⟨w.heap.size, 0, none⟩) (Nat.le_refl _) (.slice (some ⟨g7, 0, none⟩) (ns.length + 1) k7)
        have HH := hidE (And.intro hrd hB9)
        have v1 := cell_of_one hT7
        have v4 := free_of_one hT7
        have v2 := cell_of_one hR7
        have v3 := free_of_one hR7
        clear ho8 ho9 hrd hB9 hT7 hR7 hg7 ho7 hb7 hTB hRB hBB t1 t2 t3 t4 hT hR
        go_wp2_with fail
        exact bodyPost_ret (v := .agg #[.slice (some ⟨g7, 0, none⟩) (ns.length + 1) k7]) (by simp [results, Try.results25, go_sem, v2]) rfl ⟨some ⟨g7, 0, none⟩, k7, ns ++ [⟨⟨#[97]⟩, none, 0, []⟩], by rw [List.length_append]; rfl, HH.out.1, HH.out.2⟩
  | false =>
    have HTR := hidE (HT'.out β a c bs w2 hr2)
    clear hr2
    go_wp2_with fail
    refine Calls.mono HTR.out ?_
    rintro e w3 ⟨a', c', ns, rfl, hrd, hr3, hd3⟩
    have hbR3 : w3.heap[w.heap.size]? = _ := (World.grownBy.block hd3 _ (lt_of_block hbR2) (by simp; omega)).trans hbR2
    have hB3 := hB2.trans (hd3.below (by omega) hB2.size)
    have t2 := cell_of_one hbR3
    have t3 := free_of_one hbR3
    have HRD := hidE (hrd.box (x := .slice a' ns.length c') hbR3)
    have HB3 := hidE hB3
    clear hrd hr3 hd3 hB3 hB2 hbR2
    go_wp2_with fail
    exact bodyPost_ret (v := .agg #[.slice a' ns.length c']) (by simp [results, Try.results25, go_sem, t2]) rfl ⟨a', c', ns, rfl, HRD.out, HB3.out.setCell (Nat.le_refl _) _⟩

end Go.Proofs.Yteainbakfeedpaa
