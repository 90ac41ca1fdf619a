/- Nodes as keys of a map; a table of nodes: a row of its own and a map of what is in it. -/
import Derived.Test.YtljcfokiocbgoaaTSD
import Derived.Test.YtljcfokiocbgoaaBK
import Derived.Test.YtljcfokiocbgoaaZUL
import Derived.Test.YtljcfokiocbgoaaWIX
import Derived.Maps.OwnSet
import Derived.DeepKeys4
namespace Go.Proofs.Ytljcfokiocbgoaa
set_option linter.unusedVariables false
set_option linter.unusedSimpArgs false
open Go.RowKit Go.WideMaps Go.Maps Go.MapKept Go.ChangeMaps

theorem nlaid : laidOutB Try.prog = true := by kernel_rfl
theorem nrow : (89 : TypeId) < Try.prog.types.size := of_decide_eq_true (by kernel_rfl)
theorem nwide : (match Try.prog.underlying 89 with | some (.array _ _) | some (.struct _) => true | _ => false) = true := by kernel_rfl
set_option maxRecDepth 100000 in
theorem nodeLaw : KeyLaw Try.prog 89 := deep_law_laid nlaid (m := 3) (by omega) nrow (by kernel_rfl) nwide
theorem nodeKeyed : Keyed Try.prog 89 := Keyed.of_law nodeLaw
theorem npos {a b : Nat} (h : a < b) : ∃ m, b = m + 1 := ⟨b - 1, by omega⟩
theorem nsize : ∃ m, Try.prog.types.size = m + 1 := npos nrow
theorem nkey : Try.prog.keyType 89 = true := by kernel_rfl
theorem nc64 : Try.prog.cellsOf 2 = 1 := by kernel_rfl
theorem ncs : Try.prog.cellsOf 9 = 1 := by kernel_rfl
theorem ncells : Try.prog.cellsOf 89 = 6 := by kernel_rfl

theorem keyOf_node (x y z u : Int) (s t : ByteArray) (hx : (Lit.int .i64 x).wf = true) (hy : (Lit.int .i64 y).wf = true) (hz : (Lit.int .i64 z).wf = true) (hu' : (Lit.int .i64 u).wf = true) (hs : s.size ≤ maxLen) (ht : t.size ≤ maxLen) :
    ∃ l, keyOf Try.prog 89 (.agg #[.int .i64 x, .int .i64 y, .int .i64 z, .int .i64 u, .string s, .string t]) = some l := by
  have hu := Try.underlying89
  have h1 := Try.underlying2
  have h2 := Try.underlying9
  have hf : (Value.agg #[.int .i64 x, .int .i64 y, .int .i64 z, .int .i64 u, .string s, .string t]).formed Try.prog 89 = true := by simp [Value.formed, hu, ncells]
  obtain ⟨m, hm⟩ := nsize
  unfold keyOf
  simp only [hu, nkey, hf, Bool.and_self, if_true]
  rw [hm]
  simp [Program.keyLits, hu, ncells, h1, h2, nc64, ncs, hx, hy, hz, hu', hs, ht, Value.cells]

/-- A node that a key can be made of. -/
def okN (x : Tc) : Prop := okT x ∧ okV x.bw x.ws ∧ ∀ j ∈ x.ks, 0 ≤ j ∧ j < 1048576
def ksN (ks : List Int) : List Nat := ks.map Int.toNat
theorem ksN_inj {ks ms : List Int} (h1 : ∀ j ∈ ks, 0 ≤ j) (h2 : ∀ j ∈ ms, 0 ≤ j) (h : ksN ks = ksN ms) : ks = ms := by
  have key : ∀ l : List Int, (∀ j ∈ l, 0 ≤ j) → (ksN l).map (fun k : Nat => (k : Int)) = l := fun l hl => by
    unfold ksN
    rw [List.map_map]
    conv => rhs; rw [← List.map_id l]
    refine List.map_congr_left fun j hj => ?_
    have := hl j hj
    simp
    omega
  rw [← key ks h1, ← key ms h2, h]
def kvN (x : Tc) : Value := .agg #[.int .i64 x.op, .int .i64 x.vr, .int .i64 x.a, .int .i64 x.b, .string (txt (writeR x.bw x.ws)), .string (keyS (ksN x.ks))]
theorem keyS_injN {xs ys : List Nat} (hx : ∀ x ∈ xs, x < 18446744073709551616) (hy : ∀ x ∈ ys, x < 18446744073709551616) (h : keyS xs = keyS ys) : xs = ys := by
  refine keyB_eq hx hy ?_
  unfold keyS at h
  injection h with h
  have h2 : (keyB xs xs.length).map UInt8.ofNat = (keyB ys ys.length).map UInt8.ofNat := by simpa using h
  have h3 : ∀ (zs : List Nat) (j : Nat), ((keyB zs j).map UInt8.ofNat).map UInt8.toNat = keyB zs j := fun zs j => by
    rw [List.map_map]
    conv => rhs; rw [← List.map_id (keyB zs j)]
    refine List.map_congr_left fun b hb => ?_
    have := keyB_lt zs j b hb
    simp [UInt8.toNat_ofNat']
    omega
  rw [← h3 xs, ← h3 ys, h2]
theorem keyS_sizeN (xs : List Nat) : (keyS xs).size = 8 * xs.length := by
  show (keyS xs).data.size = _
  simp [keyS, keyB_len]
theorem txt_sizeN (l : List Nat) : (txt l).size = l.length := by
  show (txt l).data.size = _
  simp [txt]
theorem keyOf_okN {x : Tc} (h : okN x) : ∃ l, keyOf Try.prog 89 (kvN x) = some l := by
  obtain ⟨⟨k1, k2, k3, k4, k5, k6, k7, k8, k9⟩, hv, -⟩ := h
  refine keyOf_node _ _ _ _ _ _ (WalkArith.wf_i64 k1) (WalkArith.wf_i64 k2) (WalkArith.wf_i64 k3) (WalkArith.wf_i64 k4) ?_ ?_
  · rw [txt_sizeN]
    have := writeR_size x.bw x.ws (hv.1.imp id (fun h => h.1))
    unfold maxLen
    omega
  · rw [keyS_sizeN]
    unfold ksN maxLen
    rw [List.length_map]
    omega
theorem kvN_inj {x y : Tc} (hx : okN x) (hy : okN y) {l : Lit} (h : keyOf Try.prog 89 (kvN x) = some l) (h' : keyOf Try.prog 89 (kvN y) = some l) : x = y := by
  have e := nodeLaw.inj h h'
  simp [kvN] at e
  obtain ⟨e1, e2, e3, e4, e5, e6⟩ := e
  obtain ⟨e7, e8⟩ := text_inj hx.2.1 hy.2.1 e5
  have b1 : ∀ z : Tc, okN z → ∀ k ∈ ksN z.ks, k < 18446744073709551616 := fun z hz k hk => by
    obtain ⟨j, hj, rfl⟩ := List.mem_map.1 hk
    have := hz.2.2 j hj
    omega
  have e9 := keyS_injN (b1 x hx) (b1 y hy) e6
  have e10 := ksN_inj (fun j hj => (hx.2.2 j hj).1) (fun j hj => (hy.2.2 j hj).1) e9
  cases x; cases y
  simp only at e1 e2 e3 e4 e7 e8 e10
  subst e1; subst e2; subst e3; subst e4; subst e7; subst e8; subst e10
  rfl

/-- What the map tells of the nodes l. -/
structure Ak (D : DataW Unit) (l : List Tc) : Prop where
  tidy : Maps.Tidy D
  ok : ∀ s ∈ l, okN s
  has : ∀ s kl, okN s → keyOf Try.prog 89 (kvN s) = some kl → (Maps.has D kl = true ↔ s ∈ l)
  val : ∀ s kl i, okN s → keyOf Try.prog 89 (kvN s) = some kl → fndT l s = some i → D.atKey kl (.lit (.int .i64 0)) = .lit (.int .i64 (i : Int))
theorem Ak.start : Ak (.map [] : DataW Unit) [] where
  tidy := Maps.tidy_empty
  ok := by simp
  has := fun s kl _ _ => by simp [Maps.has_eq]
  val := fun s kl i _ _ h => by simp [fndT] at h
theorem Ak.step {D : DataW Unit} {l : List Tc} (h : Ak D l) {s : Tc} {kl : Lit} (hs : okN s) (hk : keyOf Try.prog 89 (kvN s) = some kl) (hn : s ∉ l) : Ak (D.put kl (.lit (.int .i64 (l.length : Int)))) (l ++ [s]) where
  tidy := h.tidy.put (nodeKeyed.key hk) _
  ok := fun t ht => by
    rcases List.mem_append.1 ht with ht | ht
    · exact h.ok t ht
    · simp at ht; subst ht; exact hs
  has := fun t kt ht hkt => by
    by_cases e : t = s
    · subst e
      have : kt = kl := Option.some.inj (hkt.symm.trans hk)
      subst this
      rw [Maps.has_put_same h.tidy.isMap (nodeKeyed.key hk)]; simp
    · have hne : kt ≠ kl := fun e' => e (by subst e'; exact kvN_inj ht hs hkt hk)
      rw [Maps.has_put_other hne, h.has t kt ht hkt]; simp [e]
  val := fun t kt i ht hkt hf => by
    by_cases e : t = s
    · subst e
      have : kt = kl := Option.some.inj (hkt.symm.trans hk)
      subst this
      rw [Maps.atKey_put_same h.tidy.isMap (nodeKeyed.key hk)]
      have h1 := (fndT_some hf).1
      have h2 := (List.getElem?_eq_some_iff.1 h1).1
      by_cases hi : i < l.length
      · rw [List.getElem?_append_left hi] at h1
        exact absurd (List.mem_of_getElem? h1) hn
      · simp at h2
        rw [show i = l.length by omega]
    · have hne : kt ≠ kl := fun e' => e (by subst e'; exact kvN_inj ht hs hkt hk)
      rw [Maps.atKey_put_other hne]
      refine h.val t kt i ht hkt ?_
      obtain ⟨h1, h2⟩ := fndT_some hf
      have hil := (List.getElem?_eq_some_iff.1 h1).1
      simp at hil
      by_cases hi : i < l.length
      · refine fndT_of (by rw [List.getElem?_append_left hi] at h1; exact h1) fun j hj => ?_
        have := h2 j hj
        rw [List.getElem?_append_left (by omega)] at this
        exact this
      · have e9 : i = l.length := by omega
        subst e9
        simp at h1
        exact absurd h1.symm e

theorem own_belowN {P : Program} {k : TypeId} {R : Value → Option (DataW Unit × List MemPlace)} {w w' : World} {b n : Nat} {D : DataW Unit} (h : w.ownsMap P k R b n D) (hk : b < w.heap.size → w'.heap[b]? = w.heap[b]?) : w'.ownsMap P k R b n D := by
  obtain ⟨es, clock, hb, r⟩ := h
  exact ⟨es, clock, (hk (lt_of_block hb)).trans hb, r⟩
theorem own_isMapN {P : Program} {k : TypeId} {R : Value → Option (DataW Unit × List MemPlace)} {w : World} {b n : Nat} {D : DataW Unit} (h : w.ownsMap P k R b n D) : ∃ es clock, w.heap[b]? = some (.map es clock) := by
  obtain ⟨es, clock, hb, r⟩ := h
  exact ⟨es, clock, hb⟩

/-- A table of nodes in the block s: all of it lies from the block B on. -/
structure Ar (w : World) (B s g : Nat) (v : Value) (D : DataW Unit) (l : List Tg) : Prop where
  ts : Ts w B v l
  box : Bz w s #[v, .map (some g)] 72
  mp : w.ownsMap Try.prog 89 (plainElem Try.prog 2) g l.length D
  ak : Ak D (l.map Tg.ct)
  le : B ≤ s ∧ B ≤ g
theorem Ar.later {w w' : World} {B s g : Nat} {v : Value} {D : DataW Unit} {l : List Tg} (h : Ar w B s g v D l) (hb : Below w.heap.size w w') : Ar w' B s g v D l :=
  ⟨h.ts.later hb, h.box.later hb, own_belowN h.mp (fun hg => hb.block g hg), h.ak, h.le⟩

/-- But for the table's blocks all that was is as it was. -/
def FrA (s g : Nat) (v : Value) (w w' : World) : Prop := w'.os = w.os ∧ w'.tape = w.tape ∧ w'.output = w.output ∧ w.heap.size ≤ w'.heap.size ∧ ∀ k, k < w.heap.size → k ≠ s → k ≠ g → v.ownBlock ≠ some k → w'.heap[k]? = w.heap[k]?
theorem FrA.of {s g : Nat} {v : Value} {w w' : World} (h : Below w.heap.size w w') : FrA s g v w w' := ⟨h.os, h.tape, h.output, h.size, fun k hk _ _ _ => h.block k hk⟩

/-- What add answers. -/
def RetAd (B s g N : Nat) (v : Value) (l : List Tg) (md : Tc) (w : World) (e : Ending) (w' : World) : Prop :=
  ∃ (v' : Value) (D' : DataW Unit) (l' : List Tg) (i : Nat), e = .returned (.int .i64 (i : Int)) ∧ Ar w' B s g v' D' l' ∧ FrA s g v w w' ∧ (v'.ownBlock = v.ownBlock ∨ ∀ b, v'.ownBlock = some b → w.heap.size ≤ b) ∧ (∀ x ∈ l', x ∈ l ∨ ∀ p, x.ka = some p → N ≤ p.block) ∧ (match fndT (l.map Tg.ct) md with | some j => i = j ∧ l' = l | none => i = l.length ∧ l'.map Tg.ct = l.map Tg.ct ++ [md])

end Go.Proofs.Ytljcfokiocbgoaa
