/- Several texts in one. -/
import Derived.Test.YthoiajpbpoglfaaHTF
import Derived.Test.YthoiajpbpoglfaaZKAI

/- The free words keep to the contract of an iterator. The search on lists. -/
namespace Go.Proofs.Ythoiajpbpoglfaa
set_option linter.unusedVariables false
set_option linter.unusedSimpArgs false
open Go.RowKit Go.Shelf Go.WideMaps Go.Maps Go.MapKept Go.ChangeMaps

theorem freeG_stops (F : Fence) (n : Nat) (h7 : F.fn 86) (hro : F.round = none) (hn : 1 ≤ n) (Bp Bn P0 H N M b o vc : Nat) (x : Int) (hx : 1 ≤ x ∧ x ≤ 4096) (h0M : 0 < M) (hM : M = 2 ^ (min x 10).toNat) (q : Nat) (hq : q < N) (hN : N ≤ 200)
    (Z g cp : Nat) (oa : Option Addr) (m oc : Nat) (xs bd : List Int) (mr : Option Nat) (cr : Int) (σ : Nat → Int) (hxs : xs.length = m) (hin : ∀ y ∈ xs, 0 ≤ y ∧ y < (N : Int) ∧ y ≠ (q : Int))
    (w : World) (hBp : w.cell? ⟨Bp, 0, none⟩ = some (.pointer (some ⟨P0, 0, none⟩))) (hBn : w.cell? ⟨Bn, 0, none⟩ = some (.int .i64 (q : Int)))
    (hp0 : w.cell? ⟨P0, 0, none⟩ = some (.slice (some ⟨b, o, none⟩) N vc)) (hp1 : w.cell? ⟨P0, 1, none⟩ = some (.slice (some ⟨H, 0, none⟩) N N)) (hc : w.cell? ⟨b, o + q, none⟩ = some (.int .i64 x))
    (hh0 : w.cell? ⟨H, q * 3, none⟩ = some (.slice oa m oc)) (hh1 : w.cell? ⟨H, q * 3 + 1, none⟩ = some (.map mr)) (hh2 : w.cell? ⟨H, q * 3 + 2, none⟩ = some (.int .i64 cr))
    (hp3 : w.cell? ⟨P0, 3, none⟩ = some (.slice (some ⟨g, 0, none⟩) N cp)) (hxr : RdI w oa xs) (hws : ∀ j, j < N → j ≠ q → w.cell? ⟨g, j, none⟩ = some (.int .i64 (σ j))) (hws' : q = 0 → ∃ v, w.cell? ⟨g, 0, none⟩ = some v)
    (hne : Bp ≠ P0 ∧ Bp ≠ g ∧ Bn ≠ P0 ∧ Bn ≠ g ∧ H ≠ P0 ∧ H ≠ g ∧ b ≠ P0 ∧ b ≠ g ∧ P0 ≠ g ∧ ∀ xb xo sp, oa = some ⟨xb, xo, sp⟩ → xb ≠ P0 ∧ xb ≠ g)
    (hlu : ∀ u, KpF P0 g q Z N w u → ∀ k : Nat, k < 1024 → (Instr.lookup 81 (.map mr) (.int .i64 (k : Int)) true).run Try.prog u = .ok (.tuple #[.agg #[], .bool (decide ((k : Int) ∈ bd))]) u) :
    SeqStopsK F n Try.prog 86 #[.pointer (some ⟨Bp, 0, none⟩), .pointer (some ⟨Bn, 0, none⟩)] (fun y : Fin M => #[Value.int .i64 ((y : Nat) : Int)]) (KpF P0 g q Z N) (fun ys => ys = frT M h0M xs bd σ M) (fun pre => ∃ k, k ≤ M ∧ pre = frT M h0M xs bd σ k) M w := fun l J Jx W hW hJ hJx hY h0 => by
  have kc : ∀ {a : Nat} {i : Nat} {v : Value}, w.cell? ⟨a, i, none⟩ = some v → W.cell? ⟨a, i, none⟩ = some v := fun {a i v} h => (hW.cell (p := ⟨a, i, none⟩) (block_lt_of_cell h)).trans h
  exact freeG1_in F n h7 hro hn l Bp Bn P0 H N M b o vc x hx h0M hM q hq hN Z g cp oa m oc xs bd mr cr σ hxs hin J Jx W hJ hY (kc hBp) (kc hBn) (kc hp0) (kc hp1) (kc hc) (kc hh0) (kc hh1) (kc hh2) (kc hp3) (hxr.later hW) (fun j h1 h2 => kc (hws j h1 h2))
    (fun e => by obtain ⟨v, h⟩ := hws' e; exact ⟨v, kc h⟩) hne (fun u hu k hk => hlu u ((KpF.of hW).trans hu) k hk) h0

theorem look_told {u : World} {mr : Option Nat} {bd : List Int} (h : (mr = none ∧ bd = []) ∨ ∃ g m, ∃ D : DataW Unit, mr = some g ∧ u.ownsMap Try.prog 2 unitElem g m D ∧ Si D bd) (k : Nat) (hk : k < 1024) :
    (Instr.lookup 81 (.map mr) (.int .i64 (k : Int)) true).run Try.prog u = .ok (.tuple #[.agg #[], .bool (decide ((k : Int) ∈ bd))]) u := by
  have h64 : in64 (k : Int) := by unfold in64; omega
  rcases h with ⟨rfl, rfl⟩ | ⟨g, m, D, rfl, ho, hs⟩
  · rw [look_nilmap]
    simp
  · obtain ⟨v, ps, hrun, hv⟩ := ho.look_ok (t := 81) (e := 126) i64Keyed Try.underlying81 (Try.zeroUnit u) (zd := .agg []) (zp := []) unitElem_mk (keyOf_i64 h64)
    obtain ⟨rfl, -⟩ := unitElem_inv hv
    rw [hrun]
    have e : Maps.has D (.int .i64 (k : Int)) = decide ((k : Int) ∈ bd) := by
      rw [Bool.eq_iff_iff, decide_eq_true_eq]
      exact hs.has k h64
    rw [e]

end Go.Proofs.Ythoiajpbpoglfaa

/- The search for words of a graph's narrow nodes. No program in sight. -/
namespace Go.Proofs.Ythoiajpbpoglfaa
set_option linter.unusedVariables false
set_option linter.unusedSimpArgs false
open Go.RowKit

/-- Words tried one after another: rec is the search behind this node. -/
def tryF (rec : (Nat → Int) → Nat → Nat × (Nat → Int) × Nat) (v : Nat) : List Int → (Nat → Int) → Nat → Nat × (Nat → Int) × Nat
  | [], σ, m => (2, upd σ v (-1), m)
  | x :: xs, σ, m => if (rec (upd σ v x) m).1 = 2 then tryF rec v xs (rec (upd σ v x) m).2.1 (rec (upd σ v x) m).2.2 else rec (upd σ v x) m
/-- The search: 0 all have a word, 2 none is there, 3 too many visits; the words; the visits. -/
def visF (fw : (Nat → Int) → Nat → List Int) (most : Nat) : List Nat → (Nat → Int) → Nat → Nat × (Nat → Int) × Nat
  | [], σ, m => (0, σ, m)
  | v :: t, σ, m => if m = most then (3, σ, m) else tryF (visF fw most t) v (fw σ v) σ (m + 1)

theorem upd_upd {α : Type} (f : Nat → α) (i : Nat) (x y : α) : upd (upd f i x) i y = upd f i y := by
  funext j
  unfold upd
  split <;> rfl

theorem tryF_code {rec : (Nat → Int) → Nat → Nat × (Nat → Int) × Nat} {v : Nat} (hr : ∀ σ m, (rec σ m).1 = 0 ∨ (rec σ m).1 = 2 ∨ (rec σ m).1 = 3) : ∀ (l : List Int) σ m, (tryF rec v l σ m).1 = 0 ∨ (tryF rec v l σ m).1 = 2 ∨ (tryF rec v l σ m).1 = 3
  | [], σ, m => .inr (.inl rfl)
  | x :: xs, σ, m => by
    unfold tryF
    split
    · exact tryF_code hr xs _ _
    · exact hr _ _
theorem visF_code (fw : (Nat → Int) → Nat → List Int) (most : Nat) : ∀ (l : List Nat) σ m, (visF fw most l σ m).1 = 0 ∨ (visF fw most l σ m).1 = 2 ∨ (visF fw most l σ m).1 = 3
  | [], σ, m => .inl rfl
  | v :: t, σ, m => by
    unfold visF
    split
    · exact .inr (.inr rfl)
    · exact tryF_code (visF_code fw most t) _ _ _

/-- Where none is found the words are as they were. -/
theorem tryF_none {rec : (Nat → Int) → Nat → Nat × (Nat → Int) × Nat} {v : Nat} (I : (Nat → Int) → Prop) (hI : ∀ σ x, I σ → I (upd σ v x)) (hr : ∀ σ m, I σ → (rec σ m).1 = 2 → (rec σ m).2.1 = σ) : ∀ (l : List Int) (σ : Nat → Int) (m : Nat), I σ → (tryF rec v l σ m).1 = 2 → (tryF rec v l σ m).2.1 = upd σ v (-1)
  | [], σ, m, _, _ => rfl
  | x :: xs, σ, m, hi, h => by
    unfold tryF at h ⊢
    split at h
    · rename_i h1
      rw [if_pos h1, hr _ _ (hI σ x hi) h1] at *
      have := tryF_none I hI hr xs (upd σ v x) _ (hI σ x hi) h
      rw [upd_upd] at this
      exact this
    · rename_i h1
      exact absurd h h1
theorem visF_none (fw : (Nat → Int) → Nat → List Int) (most : Nat) : ∀ (l : List Nat) (σ : Nat → Int) (m : Nat), l.Nodup → (∀ v ∈ l, σ v = -1) → (visF fw most l σ m).1 = 2 → (visF fw most l σ m).2.1 = σ
  | [], σ, m, _, _, h => rfl
  | v :: t, σ, m, hn, hm, h => by
    unfold visF at h ⊢
    split at h
    · cases h
    · rename_i h1
      rw [if_neg h1]
      have hnt := (List.nodup_cons.1 hn)
      have h2 := tryF_none (rec := visF fw most t) (v := v) (fun σ => ∀ u ∈ t, σ u = -1) (fun σ x hi u hu => by rw [upd_ne _ _ (fun e => hnt.1 (by rw [← e]; exact hu))]; exact hi u hu) (fun σ m hi h => visF_none fw most t σ m hnt.2 hi h) (fw σ v) σ (m + 1) (fun u hu => hm u (List.mem_cons_of_mem _ hu)) h
      rw [h2]
      funext j
      by_cases e : j = v
      · subst e; rw [upd_same, hm j (by simp)]
      · rw [upd_ne _ _ e]

/-- The visits never pass the bound. -/
theorem tryF_le {rec : (Nat → Int) → Nat → Nat × (Nat → Int) × Nat} {v most : Nat} (hr : ∀ σ m, m ≤ most → m ≤ (rec σ m).2.2 ∧ (rec σ m).2.2 ≤ most) : ∀ (l : List Int) (σ : Nat → Int) (m : Nat), m ≤ most → m ≤ (tryF rec v l σ m).2.2 ∧ (tryF rec v l σ m).2.2 ≤ most
  | [], σ, m, h => ⟨Nat.le_refl _, h⟩
  | x :: xs, σ, m, h => by
    have h1 := hr (upd σ v x) m h
    unfold tryF
    split
    · have h2 := tryF_le (v := v) hr xs (rec (upd σ v x) m).2.1 _ h1.2
      exact ⟨Nat.le_trans h1.1 h2.1, h2.2⟩
    · exact h1
theorem visF_le (fw : (Nat → Int) → Nat → List Int) (most : Nat) : ∀ (l : List Nat) (σ : Nat → Int) (m : Nat), m ≤ most → m ≤ (visF fw most l σ m).2.2 ∧ (visF fw most l σ m).2.2 ≤ most
  | [], σ, m, h => ⟨Nat.le_refl _, h⟩
  | v :: t, σ, m, h => by
    unfold visF
    split
    · exact ⟨Nat.le_refl _, h⟩
    · rename_i h1
      have h2 := tryF_le (rec := visF fw most t) (v := v) (visF_le fw most t) (fw σ v) σ (m + 1) (by omega)
      exact ⟨by omega, h2.2⟩
/-- Too many: the bound is reached. -/
theorem tryF_many {rec : (Nat → Int) → Nat → Nat × (Nat → Int) × Nat} {v most : Nat} (hr : ∀ σ m, (rec σ m).1 = 3 → (rec σ m).2.2 = most) : ∀ (l : List Int) (σ : Nat → Int) (m : Nat), (tryF rec v l σ m).1 = 3 → (tryF rec v l σ m).2.2 = most
  | [], σ, m, h => by cases h
  | x :: xs, σ, m, h => by
    unfold tryF at h ⊢
    split at h
    · rename_i h1
      rw [if_pos h1]
      exact tryF_many hr xs _ _ h
    · rename_i h1
      rw [if_neg h1]
      exact hr _ _ h
theorem visF_many (fw : (Nat → Int) → Nat → List Int) (most : Nat) : ∀ (l : List Nat) (σ : Nat → Int) (m : Nat), (visF fw most l σ m).1 = 3 → (visF fw most l σ m).2.2 = most
  | [], σ, m, h => by cases h
  | v :: t, σ, m, h => by
    unfold visF at h ⊢
    split at h
    · rename_i h1
      rw [if_pos h1]
      exact h1
    · rename_i h1
      rw [if_neg h1]
      exact tryF_many (visF_many fw most t) _ _ _ h
/-- Words of nodes that are not visited stay. -/
theorem tryF_far {rec : (Nat → Int) → Nat → Nat × (Nat → Int) × Nat} {v u : Nat} (hu : u ≠ v) (hr : ∀ σ m, (rec σ m).2.1 u = σ u) : ∀ (l : List Int) (σ : Nat → Int) (m : Nat), (tryF rec v l σ m).2.1 u = σ u
  | [], σ, m => upd_ne _ _ hu
  | x :: xs, σ, m => by
    unfold tryF
    split
    · rw [tryF_far hu hr xs, hr, upd_ne _ _ hu]
    · rw [hr, upd_ne _ _ hu]
theorem visF_far (fw : (Nat → Int) → Nat → List Int) (most : Nat) {u : Nat} : ∀ (l : List Nat) (σ : Nat → Int) (m : Nat), u ∉ l → (visF fw most l σ m).2.1 u = σ u
  | [], σ, m, _ => rfl
  | v :: t, σ, m, h => by
    unfold visF
    split
    · rfl
    · exact tryF_far (fun e => h (by simp [e])) (fun σ m => visF_far fw most t σ m (fun e => h (by simp [e]))) _ _ _

end Go.Proofs.Ythoiajpbpoglfaa

/- A painter in general, as it lies. -/
namespace Go.Proofs.Ythoiajpbpoglfaa
set_option linter.unusedVariables false
set_option linter.unusedSimpArgs false
open Go.RowKit Go.WideMaps Go.Maps Go.MapKept Go.ChangeMaps

section
variable {w w' : World} {B H n K P : Nat} {ov mv : Nat → Value} {cr : Nat → Int} {xo bd : Nat → List Int}

/-- What lies below a block has not turned: the hedges, their rows and their maps among it. -/
theorem Hg.low (h : Hg w B H n K ov mv cr) (hk : ∀ k, k < P → k < w.heap.size → w'.heap[k]? = w.heap[k]?) (hH : H < P) (zo : ∀ i, i < n → ∀ b, (ov i).ownBlock = some b → b < P) (zm : ∀ i, i < n → ∀ g, mv i = .map (some g) → g < P) : Hg w' B H n K ov mv cr where
  cs := by obtain ⟨cc, hh, r⟩ := h.cs; exact ⟨cc, (hk H hH (lt_of_block hh)).trans hh, r⟩
  le := h.le
  own := fun i hi => by obtain ⟨xs, ho, hl⟩ := h.own i hi; exact ⟨xs, owr_move ho (fun b hb' => by obtain ⟨⟨cur, hc⟩, -⟩ := owr_typed ho hb'; exact hk b (zo i hi b hb') (lt_of_block hc)), hl⟩
  dj := h.dj
  mp := fun i hi => by
    rcases h.mp i hi with e | ⟨g, m, D, e, ho, hm, hg⟩
    · exact .inl e
    · exact .inr ⟨g, m, D, e, own_below ho (fun hl => hk g (zm i hi g e) hl), hm, hg⟩
theorem Ht.low (h : Ht w B H n K ov mv cr xo bd) (hk : ∀ k, k < P → k < w.heap.size → w'.heap[k]? = w.heap[k]?) (hH : H < P) (zo : ∀ i, i < n → ∀ b, (ov i).ownBlock = some b → b < P) (zm : ∀ i, i < n → ∀ g, mv i = .map (some g) → g < P) : Ht w' B H n K ov mv cr xo bd where
  hg := h.hg.low hk hH zo zm
  ot := fun i hi => ⟨owr_move (h.ot i hi).1 (fun b hb' => by obtain ⟨⟨cur, hc⟩, -⟩ := owr_typed (h.ot i hi).1 hb'; exact hk b (zo i hi b hb') (lt_of_block hc)), (h.ot i hi).2⟩
  mt := fun i hi => by
    rcases h.mt i hi with e | ⟨g, m, D, e, ho, hm, hg, hs⟩
    · exact .inl e
    · exact .inr ⟨g, m, D, e, own_below ho (fun hl => hk g (zm i hi g e) hl), hm, hg, hs⟩
  mj := h.mj
end

/-- A painter: its hedges lie below it, its rows from it on. -/
structure Pt (w0 w : World) (P0 H K : Nat) (va : Option Addr) (n vc : Nat) (nv wv : Value) (nr ls : List Int) (vis most : Int) (ov mv : Nat → Value) (cr : Nat → Int) (xo bd : Nat → List Int) : Prop where
  px : Bz w P0 #[.slice va n vc, .slice (some ⟨H, 0, none⟩) n n, nv, wv, .int .i64 vis, .int .i64 most] 69
  ht : Ht w H H n K ov mv cr xo bd
  hP : H < P0
  row : OI w P0 wv ls
  nar : OI w P0 nv nr
  dj : ∀ b, wv.ownBlock = some b → nv.ownBlock ≠ some b
  zo : ∀ i, i < n → ∀ b, (ov i).ownBlock = some b → b < P0
  zm : ∀ i, i < n → ∀ g, mv i = .map (some g) → g < P0
  bel : Below w0.heap.size w0 w
  lo : w0.heap.size ≤ H

section
variable {w0 u v : World} {P0 H K n vc : Nat} {va : Option Addr} {nv wv : Value} {nr ls : List Int} {vis most : Int} {ov mv : Nat → Value} {cr : Nat → Int} {xo bd : Nat → List Int}

theorem Pt.later (h : Pt w0 u P0 H K va n vc nv wv nr ls vis most ov mv cr xo bd) (hb : Below u.heap.size u v) : Pt w0 v P0 H K va n vc nv wv nr ls vis most ov mv cr xo bd :=
  ⟨h.px.later hb, h.ht.later hb, h.hP, h.row.later hb, h.nar.later hb, h.dj, h.zo, h.zm, h.bel.trans (hb.mono h.bel.size), h.lo⟩

/-- A block of numbers from the painter on has turned, and a cell of the painter: the hedges stay. -/
theorem Pt.hedges (h : Pt w0 u P0 H K va n vc nv wv nr ls vis most ov mv cr xo bd) {row : Option Nat} (hg : u.grownBy v row) (hr : ∀ b, row = some b → P0 ≤ b) (o : Nat) (x : Value) : Ht (v.setCell ⟨P0, o, none⟩ x) H H n K ov mv cr xo bd :=
  h.ht.low (P := P0) (fun k hk hl => by
    rw [heap_setCell_other _ _ _ _ (fun e => by simp at e; omega)]
    exact hg.block k hl (fun e => by have := hr k e.symm; omega)) h.hP h.zo h.zm

theorem Pt.px_grown (h : Pt w0 u P0 H K va n vc nv wv nr ls vis most ov mv cr xo bd) {z : Value} {zs : List Int} (ho : OI u P0 z zs) (hg : u.grownBy v z.ownBlock) : Bz v P0 #[.slice va n vc, .slice (some ⟨H, 0, none⟩) n n, nv, wv, .int .i64 vis, .int .i64 most] 69 :=
  bz_grown h.px hg (bz_typed h.px (fun k e => ho.typedG e) (by decide))

/-- One row of numbers has grown and the painter has it; another row of numbers beside it stays. -/
theorem OI.stayP {y z : Value} {ys : List Int} (h : OI u P0 y ys) (hg : u.grownBy v z.ownBlock) (hd : ∀ b, z.ownBlock = some b → y.ownBlock ≠ some b) : OI v P0 y ys :=
  h.move fun b hb => hg.block b (h.lt hb).2 (fun e => hd b e.symm hb)
theorem OI.setP {y : Value} {ys : List Int} {cs : Array Value} (h : OI v P0 y ys) (hp : Bz v P0 cs 69) (o : Nat) (x : Value) : OI (v.setCell ⟨P0, o, none⟩ x) P0 y ys :=
  h.move fun b hb => by
    obtain ⟨cur, hh⟩ := h.typedG hb
    exact (gsc v ⟨P0, o, none⟩ x).block b (lt_of_block hh) (fun e => by
      cases e
      have c := (show v.heap[P0]? = _ from hp).symm.trans hh
      simp at c)

theorem Pt.pushW (h : Pt w0 u P0 H K va n vc nv wv nr ls vis most ov mv cr xo bd) {v' : Value} {y : Int} (ho : OI v P0 v' (ls ++ [y])) (hg : u.grownBy v wv.ownBlock) (hat : v'.ownBlock = wv.ownBlock ∨ v'.ownBlock = some u.heap.size) :
    Pt w0 (v.setCell ⟨P0, 3, none⟩ v') P0 H K va n vc nv v' nr (ls ++ [y]) vis most ov mv cr xo bd ∧ Bz v P0 #[.slice va n vc, .slice (some ⟨H, 0, none⟩) n n, nv, wv, .int .i64 vis, .int .i64 most] 69 := by
  have p1 := h.px_grown h.row hg
  have hw0 : w0.heap.size ≤ P0 := Nat.le_trans h.lo (Nat.le_of_lt h.hP)
  refine ⟨⟨p1.set 3 v', h.hedges hg (fun b e => (h.row.lt e).1) _ _, h.hP, ho.setP p1 _ _, (h.nar.stayP hg (fun b e => h.dj b e)).setP p1 _ _, fun b hb e => ?_, h.zo, h.zm, (h.bel.grown hg h.bel.size (fun b hb => Nat.le_trans hw0 (h.row.lt hb).1)).setCell hw0 _, h.lo⟩, p1⟩
  rcases hat with e2 | e2
  · rw [e2] at hb; exact h.dj b hb e
  · rw [hb] at e2
    cases e2
    exact absurd (h.nar.lt e).2 (Nat.lt_irrefl _)

theorem Pt.pushN (h : Pt w0 u P0 H K va n vc nv wv nr ls vis most ov mv cr xo bd) {v' : Value} {y : Int} (ho : OI v P0 v' (nr ++ [y])) (hg : u.grownBy v nv.ownBlock) (hat : v'.ownBlock = nv.ownBlock ∨ v'.ownBlock = some u.heap.size) :
    Pt w0 (v.setCell ⟨P0, 2, none⟩ v') P0 H K va n vc v' wv (nr ++ [y]) ls vis most ov mv cr xo bd ∧ Bz v P0 #[.slice va n vc, .slice (some ⟨H, 0, none⟩) n n, nv, wv, .int .i64 vis, .int .i64 most] 69 := by
  have p1 := h.px_grown h.nar hg
  have hw0 : w0.heap.size ≤ P0 := Nat.le_trans h.lo (Nat.le_of_lt h.hP)
  refine ⟨⟨p1.set 2 v', h.hedges hg (fun b e => (h.nar.lt e).1) _ _, h.hP, (h.row.stayP hg (fun b e e2 => h.dj b e2 e)).setP p1 _ _, ho.setP p1 _ _, fun b hb e => ?_, h.zo, h.zm, (h.bel.grown hg h.bel.size (fun b hb => Nat.le_trans hw0 (h.nar.lt hb).1)).setCell hw0 _, h.lo⟩, p1⟩
  rcases hat with e2 | e2
  · rw [e2] at e; exact h.dj b hb e
  · rw [e] at e2
    cases e2
    exact absurd (h.row.lt hb).2 (Nat.lt_irrefl _)

/-- A word is given. -/
theorem Pt.put {g m cp i : Nat} (h : Pt w0 u P0 H K va n vc nv (.slice (some ⟨g, 0, none⟩) m cp) nr ls vis most ov mv cr xo bd) (hi : i < ls.length) (y : Int) :
    Pt w0 (u.setCell ⟨g, i, none⟩ (.int .i64 y)) P0 H K va n vc nv (.slice (some ⟨g, 0, none⟩) m cp) nr (ls.set i y) vis most ov mv cr xo bd := by
  have hg := gsc u ⟨g, i, none⟩ (.int .i64 y)
  have hgP : P0 ≤ g := (h.row.lt rfl).1
  have hw0 : w0.heap.size ≤ P0 := Nat.le_trans h.lo (Nat.le_of_lt h.hP)
  refine ⟨bz_grown h.px hg (bz_typed h.px (fun k e => by cases e; exact h.row.typedG rfl) (by decide)), h.ht.low (P := P0) (fun k hk hl => hg.block k hl (fun e => by have e9 : k = g := Option.some.inj e; omega)) h.hP h.zo h.zm, h.hP, h.row.setO hi y, ?_, h.dj, h.zo, h.zm, h.bel.setCell (show w0.heap.size ≤ g by omega) _, h.lo⟩
  exact h.nar.move fun b hb => hg.block b (h.nar.lt hb).2 (fun e => by cases e; exact h.dj g rfl hb)

/-- A visit is counted. -/
theorem Pt.visit (h : Pt w0 u P0 H K va n vc nv wv nr ls vis most ov mv cr xo bd) (y : Int) : Pt w0 (u.setCell ⟨P0, 4, none⟩ (.int .i64 y)) P0 H K va n vc nv wv nr ls y most ov mv cr xo bd := by
  have hw0 : w0.heap.size ≤ P0 := Nat.le_trans h.lo (Nat.le_of_lt h.hP)
  exact ⟨h.px.set 4 _, h.hedges (row := none) ⟨rfl, rfl, rfl, Nat.le_refl _, fun _ _ _ => rfl⟩ (fun b e => by cases e) _ _, h.hP, h.row.setP h.px _ _, h.nar.setP h.px _ _, h.dj, h.zo, h.zm, h.bel.setCell hw0 _, h.lo⟩
end

end Go.Proofs.Ythoiajpbpoglfaa
