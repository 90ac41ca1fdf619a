/- Several texts in one. -/
import Derived.Test.YtnpjgoklpaigjaaGreatDoorGAS
import Derived.Test.YtnpjgoklpaigjaaGreatDoorBK
import Derived.Test.YtnpjgoklpaigjaaGreatDoorGAG
import Derived.Test.YtnpjgoklpaigjaaGreatDoorWIX
import Derived.Maps.OwnSet
import Derived.DeepKeys4
import Derived.Test.YtnpjgoklpaigjaaGreatDoorGAB
import Derived.Test.YtnpjgoklpaigjaaGreatDoorRX
namespace Go.Proofs.YtnpjgoklpaigjaaGreatDoor
open Go.RowKit
set_option linter.unusedVariables false
set_option linter.unusedSimpArgs false
open Go.RowKit Go.WideMaps Go.Maps Go.MapKept Go.ChangeMaps
theorem nlaid : laidOutB Tryz.prog = true := by kernel_rfl
theorem nrow : (114 : TypeId) < Tryz.prog.types.size := of_decide_eq_true (by kernel_rfl)
theorem nwide : (match Tryz.prog.underlying 114 with | some (.array _ _) | some (.struct _) => true | _ => false) = true := by kernel_rfl
set_option maxRecDepth 100000 in
theorem nodeLaw : KeyLaw Tryz.prog 114 := deep_law_laid nlaid (m := 3) (by omega) nrow (by kernel_rfl) nwide
theorem nodeKeyed : Keyed Tryz.prog 114 := Keyed.of_law nodeLaw
theorem npos {a b : Nat} (h : a < b) : ∃ m, b = m + 1 := ⟨b - 1, by omega⟩
theorem nsize : ∃ m, Tryz.prog.types.size = m + 1 := npos nrow
theorem nkey : Tryz.prog.keyType 114 = true := by kernel_rfl
theorem nc64 : Tryz.prog.cellsOf 2 = 1 := by kernel_rfl
theorem ncs : Tryz.prog.cellsOf 9 = 1 := by kernel_rfl
theorem ncells : Tryz.prog.cellsOf 114 = 6 := by kernel_rfl
theorem keyOf_node (x y z u : Int) (s t : ByteArray) (hx : (Lit.int .i64 x).wf = true) (hy : (Lit.int .i64 y).wf = true) (hz : (Lit.int .i64 z).wf = true) (hu' : (Lit.int .i64 u).wf = true) (hs : s.size ≤ maxLen) (ht : t.size ≤ maxLen) :
  ∃ l, keyOf Tryz.prog 114 (.agg #[.int .i64 x, .int .i64 y, .int .i64 z, .int .i64 u, .string s, .string t]) = some l := by
 have hu := Tryz.underlying114
 have h1 := Tryz.underlying2
 have h2 := Tryz.underlying9
 have hf : (Value.agg #[.int .i64 x, .int .i64 y, .int .i64 z, .int .i64 u, .string s, .string t]).formed Tryz.prog 114 = true := by simp [Value.formed, hu, ncells]
 obtain ⟨m, hm⟩ := nsize
 unfold keyOf
 simp only [hu, nkey, hf, Bool.and_self, if_true]
 rw [hm]
 simp [Program.keyLits, hu, ncells, h1, h2, nc64, ncs, hx, hy, hz, hu', hs, ht, Value.cells]
def okN (x : Tc) : Prop := okT x ∧ okV x.bw x.ws ∧ ∀ j ∈ x.ks, 0 ≤ j ∧ j < 1048576
def ksN (ks : List Int) : List Nat := ks.map Int.toNat
theorem ksN_inj {ks ms : List Int} (h1 : ∀ j ∈ ks, 0 ≤ j) (h2 : ∀ j ∈ ms, 0 ≤ j) (h : ksN ks = ksN ms) : ks = ms := by
 have key : ∀ l : List Int, (∀ j ∈ l, 0 ≤ j) → (ksN l).map (fun k : Nat => (k : Int)) = l := fun l hl => by
  unfold ksN
  rw [List.map_map]
  conv => rhs; rw [← List.map_id l]
  refine List.map_congr_left fun j hj => ?_
  have := hl j hj
  simp
  omega
 rw [← key ks h1, ← key ms h2, h]
def kvN (x : Tc) : Value := .agg #[.int .i64 x.op, .int .i64 x.vr, .int .i64 x.a, .int .i64 x.b, .string (txt (writeR x.bw x.ws)), .string (keyS (ksN x.ks))]
theorem keyS_injN {xs ys : List Nat} (hx : ∀ x ∈ xs, x < 18446744073709551616) (hy : ∀ x ∈ ys, x < 18446744073709551616) (h : keyS xs = keyS ys) : xs = ys := by
 refine keyB_eq hx hy ?_
 unfold keyS at h
 injection h with h
 have h2 : (keyB xs xs.length).map UInt8.ofNat = (keyB ys ys.length).map UInt8.ofNat := by simpa using h
 have h3 : ∀ (zs : List Nat) (j : Nat), ((keyB zs j).map UInt8.ofNat).map UInt8.toNat = keyB zs j := fun zs j => by
  rw [List.map_map]
  conv => rhs; rw [← List.map_id (keyB zs j)]
  refine List.map_congr_left fun b hb => ?_
  have := keyB_lt zs j b hb
  simp [UInt8.toNat_ofNat']
  omega
 rw [← h3 xs, ← h3 ys, h2]
theorem keyS_sizeN (xs : List Nat) : (keyS xs).size = 8 * xs.length := by
 show (keyS xs).data.size = _
 simp [keyS, keyB_len]
theorem txt_sizeN (l : List Nat) : (txt l).size = l.length := by
 show (txt l).data.size = _
 simp [txt]
theorem keyOf_okN {x : Tc} (h : okN x) : ∃ l, keyOf Tryz.prog 114 (kvN x) = some l := by
 obtain ⟨⟨k1, k2, k3, k4, k5, k6, k7, k8, k9⟩, hv, -⟩ := h
 refine keyOf_node _ _ _ _ _ _ (WalkArith.wf_i64 k1) (WalkArith.wf_i64 k2) (WalkArith.wf_i64 k3) (WalkArith.wf_i64 k4) ?_ ?_
 ·rw [txt_sizeN]
  have := writeR_size x.bw x.ws (hv.1.imp id (fun h => h.1))
  unfold maxLen
  omega
 ·rw [keyS_sizeN]
  unfold ksN maxLen
  rw [List.length_map]
  omega
theorem kvN_inj {x y : Tc} (hx : okN x) (hy : okN y) {l : Lit} (h : keyOf Tryz.prog 114 (kvN x) = some l) (h' : keyOf Tryz.prog 114 (kvN y) = some l) : x = y := by
 have e := nodeLaw.inj h h'
 simp [kvN] at e
 obtain ⟨e1, e2, e3, e4, e5, e6⟩ := e
 obtain ⟨e7, e8⟩ := text_inj hx.2.1 hy.2.1 e5
 have b1 : ∀ z : Tc, okN z → ∀ k ∈ ksN z.ks, k < 18446744073709551616 := fun z hz k hk => by
  obtain ⟨j, hj, rfl⟩ := List.mem_map.1 hk
  have := hz.2.2 j hj
  omega
 have e9 := keyS_injN (b1 x hx) (b1 y hy) e6
 have e10 := ksN_inj (fun j hj => (hx.2.2 j hj).1) (fun j hj => (hy.2.2 j hj).1) e9
 cases x; cases y
 simp only at e1 e2 e3 e4 e7 e8 e10
 subst e1; subst e2; subst e3; subst e4; subst e7; subst e8; subst e10
 rfl

structure Ak (D : DataW Unit) (l : List Tc) : Prop where
 tidy : Maps.Tidy D
 ok : ∀ s ∈ l, okN s
 has : ∀ s kl, okN s → keyOf Tryz.prog 114 (kvN s) = some kl → (Maps.has D kl = true ↔ s ∈ l)
 val : ∀ s kl i, okN s → keyOf Tryz.prog 114 (kvN s) = some kl → fndT l s = some i → D.atKey kl (.lit (.int .i64 0)) = .lit (.int .i64 (i : Int))
theorem Ak.start : Ak (.map [] : DataW Unit) [] where
 tidy := Maps.tidy_empty
 ok := by simp
 has := fun s kl _ _ => by simp [Maps.has_eq]
 val := fun s kl i _ _ h => by simp [fndT] at h
theorem Ak.step {D : DataW Unit} {l : List Tc} (h : Ak D l) {s : Tc} {kl : Lit} (hs : okN s) (hk : keyOf Tryz.prog 114 (kvN s) = some kl) (hn : s ∉ l) : Ak (D.put kl (.lit (.int .i64 (l.length : Int)))) (l ++ [s]) where
 tidy := h.tidy.put (nodeKeyed.key hk) _
 ok := fun t ht => by
  rcases List.mem_append.1 ht with ht | ht
  ·exact h.ok t ht
  ·simp at ht; subst ht; exact hs
 has := fun t kt ht hkt => by
  by_cases e : t = s
  ·subst e
   have : kt = kl := Option.some.inj (hkt.symm.trans hk)
   subst this
   rw [Maps.has_put_same h.tidy.isMap (nodeKeyed.key hk)]; simp
  ·have hne : kt ≠ kl := fun e' => e (by subst e'; exact kvN_inj ht hs hkt hk)
   rw [Maps.has_put_other hne, h.has t kt ht hkt]; simp [e]
 val := fun t kt i ht hkt hf => by
  by_cases e : t = s
  ·subst e
   have : kt = kl := Option.some.inj (hkt.symm.trans hk)
   subst this
   rw [Maps.atKey_put_same h.tidy.isMap (nodeKeyed.key hk)]
   have h1 := (fndT_some hf).1
   have h2 := (List.getElem?_eq_some_iff.1 h1).1
   by_cases hi : i < l.length
   ·rw [List.getElem?_append_left hi] at h1
    exact absurd (List.mem_of_getElem? h1) hn
   ·simp at h2
    rw [show i = l.length by omega]
  ·have hne : kt ≠ kl := fun e' => e (by subst e'; exact kvN_inj ht hs hkt hk)
   rw [Maps.atKey_put_other hne]
   refine h.val t kt i ht hkt ?_
   obtain ⟨h1, h2⟩ := fndT_some hf
   have hil := (List.getElem?_eq_some_iff.1 h1).1
   simp at hil
   by_cases hi : i < l.length
   ·refine fndT_of (by rw [List.getElem?_append_left hi] at h1; exact h1) fun j hj => ?_
    have := h2 j hj
    rw [List.getElem?_append_left (by omega)] at this
    exact this
   ·have e9 : i = l.length := by omega
    subst e9
    simp at h1
    exact absurd h1.symm e
theorem own_belowN {P : Program} {k : TypeId} {R : Value → Option (DataW Unit × List MemPlace)} {w w' : World} {b n : Nat} {D : DataW Unit} (h : w.ownsMap P k R b n D) (hk : b < w.heap.size → w'.heap[b]? = w.heap[b]?) : w'.ownsMap P k R b n D := by
 obtain ⟨es, clock, hb, r⟩ := h
 exact ⟨es, clock, (hk (lt_of_block hb)).trans hb, r⟩
theorem own_isMapN {P : Program} {k : TypeId} {R : Value → Option (DataW Unit × List MemPlace)} {w : World} {b n : Nat} {D : DataW Unit} (h : w.ownsMap P k R b n D) : ∃ es clock, w.heap[b]? = some (.map es clock) := by
 obtain ⟨es, clock, hb, r⟩ := h
 exact ⟨es, clock, hb⟩

structure Ar (w : World) (B s g : Nat) (v : Value) (D : DataW Unit) (l : List Tg) : Prop where
 ts : Ts w B v l
 box : Bz w s #[v, .map (some g)] 88
 mp : w.ownsMap Tryz.prog 114 (plainElem Tryz.prog 2) g l.length D
 ak : Ak D (l.map Tg.ct)
 le : B ≤ s ∧ B ≤ g
theorem Ar.later {w w' : World} {B s g : Nat} {v : Value} {D : DataW Unit} {l : List Tg} (h : Ar w B s g v D l) (hb : Below w.heap.size w w') : Ar w' B s g v D l :=
 ⟨h.ts.later hb, h.box.later hb, own_belowN h.mp (fun hg => hb.block g hg), h.ak, h.le⟩
def FrA (s g : Nat) (v : Value) (w w' : World) : Prop := w'.os = w.os ∧ w'.tape = w.tape ∧ w'.output = w.output ∧ w.heap.size ≤ w'.heap.size ∧ ∀ k, k < w.heap.size → k ≠ s → k ≠ g → v.ownBlock ≠ some k → w'.heap[k]? = w.heap[k]?
theorem FrA.of {s g : Nat} {v : Value} {w w' : World} (h : Below w.heap.size w w') : FrA s g v w w' := ⟨h.os, h.tape, h.output, h.size, fun k hk _ _ _ => h.block k hk⟩
def RetAd (B s g N : Nat) (v : Value) (l : List Tg) (md : Tc) (w : World) (e : Ending) (w' : World) : Prop :=
 ∃ (v' : Value) (D' : DataW Unit) (l' : List Tg) (i : Nat), e = .returned (.int .i64 (i : Int)) ∧ Ar w' B s g v' D' l' ∧ FrA s g v w w' ∧ (v'.ownBlock = v.ownBlock ∨ ∀ b, v'.ownBlock = some b → w.heap.size ≤ b) ∧ (∀ x ∈ l', x ∈ l ∨ ∀ p, x.ka = some p → N ≤ p.block) ∧ (match fndT (l.map Tg.ct) md with | some j => i = j ∧ l' = l | none => i = l.length ∧ l'.map Tg.ct = l.map Tg.ct ++ [md])

open Go.RowKit Go.WideMaps Go.Maps Go.MapKept Go.ChangeMaps
theorem fndT_mem {l : List Tc} {x : Tc} (h : x ∈ l) : ∃ j, fndT l x = some j := by
 cases e : fndT l x with
 | some j => exact ⟨j, rfl⟩
 | none => exact absurd h (fndT_none e)
theorem zero64N (w : World) : (zeroValue 2).run Tryz.prog w = .ok (.int .i64 0) w := by kernel_rfl
theorem look_nodeC {u : World} {g n : Nat} {D : DataW Unit} {key : Value} {kl : Lit} (h : u.ownsMap Tryz.prog 114 (plainElem Tryz.prog 2) g n D) (hk : keyOf Tryz.prog 114 key = some kl) : ∃ c, D.atKey kl (.lit (.int .i64 0)) = .lit (.int .i64 c) ∧ (Lit.int .i64 c).wf = true := by
 obtain ⟨v, ps, hr, hv⟩ := h.look_ok nodeKeyed Tryz.underlying86 (zero64N u) (plainElem_int Tryz.underlying2 (by decide)) hk
 obtain ⟨c, rfl, hc, hw⟩ := plainElem_int_inv Tryz.underlying2 hv
 simp only [Prod.mk.injEq] at hc
 exact ⟨c, hc.1, hw⟩
theorem look_node {u : World} {g n : Nat} {D : DataW Unit} {key : Value} {kl : Lit} {c : Int} (h : u.ownsMap Tryz.prog 114 (plainElem Tryz.prog 2) g n D) (hk : keyOf Tryz.prog 114 key = some kl) (hc : D.atKey kl (.lit (.int .i64 0)) = .lit (.int .i64 c)) :
  (Instr.lookup 86 (.map (some g)) key true).run Tryz.prog u = .ok (.tuple #[.int .i64 c, .bool (Maps.has D kl)]) u := by
 obtain ⟨v, ps, hr, hv⟩ := h.look_ok nodeKeyed Tryz.underlying86 (zero64N u) (plainElem_int Tryz.underlying2 (by decide)) hk
 obtain ⟨c', rfl, hc', hw⟩ := plainElem_int_inv Tryz.underlying2 hv
 simp only [Prod.mk.injEq] at hc'
 rw [hc] at hc'
 have e : c = c' := by simpa using hc'.1
 rw [e]
 exact hr
theorem step_mapN (w : World) {ops : Array Oper} {o : Oper} {a : Act} {K : Act → World → Prop} {Q : Exit → Act → World → Prop} {E : Prop} (hgd : o.guard = none) (m x v : Operand) (hop : o.op = Op.mapUpdate 86 m x v)
  (g n : Nat) (D : DataW Unit) (hm : a.eval m = .map (some g)) (hown : w.ownsMap Tryz.prog 114 (plainElem Tryz.prog 2) g n D) (hn : n < maxLen) (key : Value) (kl : Lit) (c : Int) (hx : a.eval x = key) (hv : a.eval v = .int .i64 c) (hc : (Lit.int .i64 c).wf = true) (hkey : keyOf Tryz.prog 114 key = some kl)
  (h : ∀ w', w'.ownsMap Tryz.prog 114 (plainElem Tryz.prog 2) g (n + 1) (D.put kl (.lit (.int .i64 c))) → w.mapTurned w' g → K (a.put o.dst undef) w') :
  if Region.wanted o (yielded ops a.tmps) = true then Oper.wp Tryz.prog o a w K Q else E := by
 have hw : Region.wanted o (yielded ops a.tmps) = true := by simp [Region.wanted, hgd]
 rw [if_pos hw]
 obtain ⟨w', hrun, r1, r2⟩ := hown.store nodeKeyed Tryz.underlying86 hn hkey (plainElem_int Tryz.underlying2 hc)
 unfold Oper.wp
 simp [execOp, hop, hm, hx, hv, hrun, Result.andThen]
 exact h w' r1 r2
theorem turned_cellsN {w w' : World} {g b : Nat} {cs : Array Value} {t : TypeId} {fz : Nat × Nat} (h : w.mapTurned w' g) (hb : w.heap[b]? = some (.cells cs t fz)) : w'.heap[b]? = w.heap[b]? := by
 obtain ⟨es, clock, es', clock', hg, rfl⟩ := h
 refine heap_setBlock_other hg _ (fun e => ?_)
 subst e
 rw [hg] at hb
 cases hb
theorem Bz.turnedN {w w' : World} {g b : Nat} {cs : Array Value} {t : TypeId} (hb : Bz w b cs t) (h : w.mapTurned w' g) : Bz w' b cs t := (turned_cellsN h hb).trans hb
theorem Ts.turnedN {w w' : World} {B g : Nat} {v : Value} {l : List Tg} (h : Ts w B v l) (ht : w.mapTurned w' g) : Ts w' B v l :=
 ⟨h.row.move fun b hb => by obtain ⟨cur, hc⟩ := h.row.typed hb; exact turned_cellsN ht hc, fun x hx => (h.wn x hx).kept fun k cur hc => turned_cellsN ht hc, fun x hx => (h.kn x hx).kept fun k cur hc => turned_cellsN ht hc, h.wd, h.kd⟩
theorem Ni.turnedN {w w' : World} {lo g : Nat} {a : Option Addr} {xs : List Int} (h : Ni w lo a xs) (ht : w.mapTurned w' g) : Ni w' lo a xs := h.kept fun k cur hc => turned_cellsN ht hc
theorem Rd.turnedN {w w' : World} {g : Nat} {a : Option Addr} {xs : List Nat} (h : Rd w a xs) (ht : w.mapTurned w' g) : Rd w' a xs := by
 obtain ⟨h1, h2, h3⟩ := h
 refine ⟨h1, h2, ?_⟩
 rcases h3 with h3 | ⟨b, o, e, hc⟩
 ·exact .inl h3
 ·refine .inr ⟨b, o, e, fun i hi => ?_⟩
  have h9 := hc i hi
  obtain ⟨es, clock, es', clock', hg, rfl⟩ := ht
  by_cases e' : b = g
  ·subst e'
   simp [World.cell?, hg] at h9
  ·rw [← h9]
   simp only [World.cell?]
   rw [heap_setBlock_other hg _ (fun h => e' h)]
theorem FrA.trans {s g : Nat} {v : Value} {w w1 w2 : World} (h : FrA s g v w w1) (h2 : FrA s g v w1 w2) : FrA s g v w w2 :=
 ⟨h2.1.trans h.1, h2.2.1.trans h.2.1, h2.2.2.1.trans h.2.2.1, Nat.le_trans h.2.2.2.1 h2.2.2.2.1, fun k hk a b c => (h2.2.2.2.2 k (Nat.lt_of_lt_of_le hk h.2.2.2.1) a b c).trans (h.2.2.2.2 k hk a b c)⟩
theorem FrA.grown {s g : Nat} {v : Value} {w w' : World} (h : w.grownBy w' v.ownBlock) : FrA s g v w w' := ⟨h.os, h.tape, h.output, h.size, fun k hk _ _ c => h.block k hk (fun e => c e.symm)⟩
theorem FrA.turned {s g : Nat} {v : Value} {w w' : World} (h : w.mapTurned w' g) : FrA s g v w w' := by
 have h := h.grown
 exact ⟨h.os, h.tape, h.output, h.size, fun k hk _ b _ => h.block k hk (fun e => b (by cases e; rfl))⟩
theorem FrA.set {s g i : Nat} {v u : Value} {w : World} : FrA s g v w (w.setCell ⟨s, i, none⟩ u) := by
 have h : Below 0 w (w.setCell ⟨s, i, none⟩ u) := (Below.refl 0 w).setCell (Nat.zero_le _) _
 exact ⟨h.os, h.tape, h.output, h.size, fun k _ a _ _ => heap_setCell_other _ _ _ _ (fun e => a (by simpa using e))⟩
theorem nsvN {w : World} {s B : Nat} {cs : Array Value} {v : Value} {l : List Tg} {t : TypeId} (h : Bz w s cs t) (ht : t ≠ 67) (ho : OT w B v l) (e : some s = v.ownBlock) : False := by
 obtain ⟨cur, hc⟩ := ho.typed e.symm
 unfold Bz at h
 rw [h] at hc
 cases hc
 exact ht rfl
theorem nmvN {w : World} {g n B : Nat} {D : DataW Unit} {v : Value} {l : List Tg} (h : w.ownsMap Tryz.prog 114 (plainElem Tryz.prog 2) g n D) (ho : OT w B v l) (e : some g = v.ownBlock) : False := by
 obtain ⟨cur, hc⟩ := ho.typed e.symm
 obtain ⟨es, ck, hm⟩ := own_isMapN h
 rw [hm] at hc
 cases hc

open Go.RowKit Go.WideMaps Go.Maps Go.MapKept Go.ChangeMaps
theorem Ni.rdk {w : World} {N : Nat} {ka : Option Addr} {ks : List Int} (h : Ni w N ka ks) (hl : ks.length ≤ 1048576) (hk : ∀ j ∈ ks, 0 ≤ j ∧ j < 1048576) : RdKi w ka (ksN ks) := by
 refine ⟨by simpa [ksN] using hl, fun x hx => ?_, ?_⟩
 ·obtain ⟨j, hj, rfl⟩ := List.mem_map.1 hx
  have := hk j hj
  omega
 ·rcases h with ⟨h1, -⟩ | ⟨g, cur, h1, -, h3, h4⟩
  ·exact .inl (by rw [h1]; rfl)
  ·refine .inr ⟨g, 0, h1, fun i hi => ?_⟩
   simp [ksN] at hi
   rw [Nat.zero_add, cell_of_row w g i cur _ _ h3, h4 i hi]
   have e1 : ks.getD i 0 = ks[i] := by simp [List.getD, hi]
   have e2 : (ksN ks).getD i 0 = ks[i].toNat := by simp [ksN, List.getD, hi]
   rw [e1, e2]
   have := hk ks[i] (List.getElem_mem hi)
   congr 2
   omega
theorem DjN.snocG {f : Tg → Option Addr} {l : List Tg} {x : Tg} (h : DjN f l) (hl : ∀ y ∈ l, ∀ p q, f y = some p → f x = some q → p.block ≠ q.block) : DjN f (l ++ [x]) := fun i j y z hij hi hj p q hp hq => by
 have hjl := (List.getElem?_eq_some_iff.1 hj).1
 simp at hjl
 by_cases e : j = l.length
 ·subst e
  simp at hj
  subst hj
  rw [List.getElem?_append_left (by omega)] at hi
  exact hl y (List.mem_of_getElem? hi) p q hp hq
 ·rw [List.getElem?_append_left (by omega)] at hi hj
  exact h i j y z hij hi hj p q hp hq
theorem Ts.appG {w w1 w2 : World} {B M N : Nat} {v v' : Value} {l : List Tg} {y : Tg} (h : Ts w B v l) (hb : Below w.heap.size w w1) (hM : B ≤ M) (hB : B ≤ N) (hN : ∀ x ∈ l, ∀ p, x.wa = some p → p.block < N) (hap : ∀ x ∈ l, ∀ p q, x.ka = some p → y.ka = some q → p.block ≠ q.block) (hy : Nw w1 N y.wa y.ct.ws) (hk : Ni w1 M y.ka y.ct.ks) (hg : w1.grownBy w2 v.ownBlock) (ho : OT w2 B v' (l ++ [y])) : Ts w2 B v' (l ++ [y]) where
 row := ho
 wn := fun x hx => by
  rcases List.mem_append.1 hx with hx | hx
  ·exact nw_rowT ((h.wn x hx).later hb) (h.row.later hb) hg
  ·simp at hx
   subst hx
   exact (nw_rowT hy (h.row.later hb) hg).mono hB
 kn := fun x hx => by
  rcases List.mem_append.1 hx with hx | hx
  ·exact ni_rowT ((h.kn x hx).later hb) (h.row.later hb) hg
  ·simp at hx
   subst hx
   exact (ni_rowT hk (h.row.later hb) hg).mono hM
 wd := h.wd.snoc hN fun p hp => (nw_lt hy hp).1
 kd := h.kd.snocG hap
set_option maxHeartbeats 4000000 in
set_option maxRecDepth 100000 in
theorem arenaAddG_any (B s g M N : Nat) (v : Value) (D : DataW Unit) (l : List Tg) (nd : Tc) (wa nka ka : Option Addr) (wc nkn nkc kc : Nat) (ks : List Int) (w : World) (ha : Ar w B s g v D l) (hr : Rd w wa nd.ws) (hw0 : wa = none → wc = 0) (hk : Ni w M ka ks) (hN : ∀ x ∈ l, ∀ p, x.wa = some p → p.block < N) (hap : ∀ x ∈ l, ∀ p q, x.ka = some p → ka = some q → p.block ≠ q.block) (hBM : B ≤ M) (hBN : B ≤ N) (hNw : N ≤ w.heap.size) (hx : okN ⟨nd.op, nd.vr, nd.a, nd.b, nd.bw, nd.ws, ks⟩) (hl : l.length ≤ 100000) :
  Calls Tryz.prog 42 #[.pointer (some ⟨s, 0, none⟩), .agg #[.int .i64 nd.op, .int .i64 nd.vr, .int .i64 nd.a, .int .i64 nd.b, .int .i64 nd.bw, .slice wa nd.ws.length wc, .slice nka nkn nkc], .slice ka ks.length kc] w (RetAd B s g M v l ⟨nd.op, nd.vr, nd.a, nd.b, nd.bw, nd.ws, ks⟩ w) := by
 obtain ⟨kl, hkl⟩ := keyOf_okN hx
 obtain ⟨c, hc, hcw⟩ := look_nodeC ha.mp hkl
 have HCC := kide hc
 have hhas := ha.ak.has _ kl hx hkl
 have hval := fun i => ha.ak.val _ kl i hx hkl
 have hstp := ha.ak.step hx hkl
 have HWB := kide (fun u (hu : Below w.heap.size w u) => implWrite_any nd.bw wa wc nd.ws u (hr.later hu))
 have HKB := kide (fun u (hu : Below w.heap.size w u) => listKeyI_any ka kc ks.length (ksN ks) u ((hk.later hu).rdk hx.1.2.2.2.2.2.2.2.1 hx.2.2) (by simp [ksN]))
 unfold kvN at hkl
 obtain ⟨md, hmd⟩ : ∃ md, (⟨nd.op, nd.vr, nd.a, nd.b, nd.bw, nd.ws, ks⟩ : Tc) = md := ⟨_, rfl⟩
 have HMD := kide hmd
 simp only [] at hkl
 rw [hmd] at hhas hval hstp ⊢
 obtain ⟨op, vr, aa, bb, bw, ws, ks0⟩ := nd
 simp only [] at *
 obtain ⟨T1, hT1⟩ : ∃ T, txt (writeR bw ws) = T := ⟨_, rfl⟩
 obtain ⟨T2, hT2⟩ : ∃ T, keyS (ksN ks) = T := ⟨_, rfl⟩
 rw [hT1] at HWB hkl
 rw [hT2] at HKB hkl
 obtain ⟨nw, hnw⟩ : ∃ n, ws.length = n := ⟨_, rfl⟩
 obtain ⟨nk, hnk⟩ : ∃ n, ks.length = n := ⟨_, rfl⟩
 rw [hnw] at HWB ⊢
 rw [hnk] at HKB ⊢
 have HNW := kide hnw
 have HNK := kide hnk
 have HKL := kide hkl
 have HHAS := kide hhas
 have HVAL := kide hval
 have HSTP := kide hstp
 have HA := kide ha
 have HVB := kide (fun b (e : v.ownBlock = some b) => (ha.ts.row.lt e).2)
 have HR := kide hr
 have HKN := kide hk
 have HKP := kide (fun p (e : ka = some p) => (ni_lt hk e).1)
 have HNN := kide hN
 have HAP := kide hap
 have HBM := kide hBM
 have hlw := hr.1
 rw [hnw] at hlw
 have HBN := kide hBN
 have HNW2 := kide hNw
 have X0 := kide (Bz.new w #[.int .i64 op, .int .i64 vr, .int .i64 aa, .int .i64 bb, .int .i64 bw, .slice wa nw wc, .slice nka nkn nkc] 67)
 have BW : Hid (Below w.heap.size w (w.alloc (Obj.cells #[.int .i64 op, .int .i64 vr, .int .i64 aa, .int .i64 bb, .int .i64 bw, .slice wa nw wc, .slice nka nkn nkc] 67))) := blA _ _
 clear hmd ha hr hk hN hap hBM hBN hNw hx hkl hc hcw hhas hval hstp hT1 hT2 hnw hnk
 go_enter Tryz.func42, Tryz.ntmps42
 go_wp2_with fail
 generalize w.alloc (Obj.cells #[.int .i64 op, .int .i64 vr, .int .i64 aa, .int .i64 bb, .int .i64 bw, .slice wa nw wc, .slice nka nkn nkc] 67) = W at *
 obtain ⟨b0, hb0⟩ : ∃ b0, w.heap.size = b0 := ⟨_, rfl⟩
 rw [hb0] at X0
 simp only [hb0]
 have HB0 := kide hb0
 clear hb0
 have hlt0 := X0.out.lt
 have g0 : W.cell? ⟨b0, 0, none⟩ = some (Value.int .i64 op) := X0.out.cell 0
 have g1 : W.cell? ⟨b0, 1, none⟩ = some (Value.int .i64 vr) := X0.out.cell 1
 have g2 : W.cell? ⟨b0, 2, none⟩ = some (Value.int .i64 aa) := X0.out.cell 2
 have g3 : W.cell? ⟨b0, 3, none⟩ = some (Value.int .i64 bb) := X0.out.cell 3
 have g4 : W.cell? ⟨b0, 4, none⟩ = some (Value.int .i64 bw) := X0.out.cell 4
 have g5 : W.cell? ⟨b0, 5, none⟩ = some (Value.slice wa nw wc) := X0.out.cell 5
 apply share2 (F := fun u kb => Below W.heap.size W u ∧ Bz u kb #[.int .i64 op, .int .i64 vr, .int .i64 aa, .int .i64 bb, .string T1, .string T2] 114 ∧ W.heap.size ≤ kb)
 ·intro key
  refine wp_region_x (SA := fun _ => False) (SB := fun uu => Below W.heap.size W uu) (k := 999) (by kernel_rfl) ?_
  have hu0 : Hid (Below W.heap.size W W.drew) := (Below.refl _ _).drew
  generalize W.drew = u0 at *
  try go_simp
  refine tkP (i := 0) (v := Value.pointer (some ⟨b0, 0, none⟩)) rfl hu0.out ?_
  try go_simp
  refine tkS (i := 1) (v := Value.int .i64 op) rfl hu0.out (fun uu hu => by have e1 := (kcell hu b0 0 hlt0).trans g0; go_simp) ?_
  try go_simp
  refine tkP (i := 2) (v := Value.pointer (some ⟨b0, 1, none⟩)) rfl hu0.out ?_
  try go_simp
  refine tkS (i := 3) (v := Value.int .i64 vr) rfl hu0.out (fun uu hu => by have e1 := (kcell hu b0 1 hlt0).trans g1; go_simp) ?_
  try go_simp
  refine tkP (i := 4) (v := Value.pointer (some ⟨b0, 2, none⟩)) rfl hu0.out ?_
  try go_simp
  refine tkS (i := 5) (v := Value.int .i64 aa) rfl hu0.out (fun uu hu => by have e1 := (kcell hu b0 2 hlt0).trans g2; go_simp) ?_
  try go_simp
  refine tkP (i := 6) (v := Value.pointer (some ⟨b0, 3, none⟩)) rfl hu0.out ?_
  try go_simp
  refine tkS (i := 7) (v := Value.int .i64 bb) rfl hu0.out (fun uu hu => by have e1 := (kcell hu b0 3 hlt0).trans g3; go_simp) ?_
  try go_simp
  refine tkP (i := 8) (v := Value.pointer (some ⟨b0, 4, none⟩)) rfl hu0.out ?_
  try go_simp
  refine tkS (i := 9) (v := Value.agg #[.int .i64 bw, .slice wa nw wc]) rfl hu0.out (fun uu hu => by have e1 := (kcell hu b0 4 hlt0).trans g4; have e2 := (kcell hu b0 5 hlt0).trans g5; go_simp) ?_
  try go_simp
  refine tkP (i := 11) (v := Value.slice ka nk kc) rfl hu0.out ?_
  try go_simp
  refine rdX (rs := [10, 14]) (AllX.cons rfl (fun K hK => ?_) (AllX.cons rfl (fun K hK => ?_) AllX.nil))
  ·go_simp
   refine Calls.mono (HWB.out _ (BW.out.trans (hu0.out.mono BW.out.size))) ?_
   rintro e u1 ⟨rfl, hb⟩
   have hu1 : Hid (Below W.heap.size W u1) := hu0.out.trans (hb.mono hu0.out.size)
   refine hK _ _ (Sx.behind (by kernel_rfl) hu1.out) ?_
   clear hK K hb
   try go_simp
   refine rdX (rs := [12, 14]) (AllX.cons rfl (fun K hK => ?_) (AllX.cons rfl (fun K hK => ?_) AllX.nil))
   ·go_simp
    refine Calls.mono (HKB.out _ (BW.out.trans (hu1.out.mono BW.out.size))) ?_
    rintro e u2 ⟨rfl, hb⟩
    have hu2 : Hid (Below W.heap.size W u2) := hu1.out.trans (hb.mono hu1.out.size)
    refine hK _ _ (Sx.behind (by kernel_rfl) hu2.out) ?_
    clear hK K hb
    try go_simp
    refine tkP (i := 13) (v := Value.agg #[.int .i64 op, .int .i64 vr, .int .i64 aa, .int .i64 bb, .string T1, .string T2]) rfl hu2.out ?_
    try go_simp
    refine rdX (rs := [14]) (AllX.cons rfl (fun K hK => ?_) AllX.nil)
    go_simp
    refine hK _ _ (Sx.behind (by kernel_rfl) (hu2.out.alloc hu2.out.size _)) ?_
    clear hK K
    have hu3 : Hid (Below W.heap.size W (u2.alloc (Obj.cells #[.int .i64 0, .int .i64 0, .int .i64 0, .int .i64 0, .string { data := #[] }, .string { data := #[] }] 114))) := hu2.out.alloc hu2.out.size _
    have bkb_3 : Hid (Bz (u2.alloc (Obj.cells #[.int .i64 0, .int .i64 0, .int .i64 0, .int .i64 0, .string { data := #[] }, .string { data := #[] }] 114)) u2.heap.size #[.int .i64 0, .int .i64 0, .int .i64 0, .int .i64 0, .string { data := #[] }, .string { data := #[] }] 114) := Bz.new _ _ _
    have w3 : Below u2.heap.size u2 (u2.alloc (Obj.cells #[.int .i64 0, .int .i64 0, .int .i64 0, .int .i64 0, .string { data := #[] }, .string { data := #[] }] 114)) := blA _ _
    have lkb : W.heap.size ≤ u2.heap.size := hu2.out.size
    clear w3
    generalize hqkb : u2.heap.size = kb at *
    generalize u2.alloc (Obj.cells #[.int .i64 0, .int .i64 0, .int .i64 0, .int .i64 0, .string { data := #[] }, .string { data := #[] }] 114) = u3 at *
    clear hqkb
    try go_simp
    refine rdX (rs := [15]) (AllX.cons rfl (fun K hK => ?_) AllX.nil)
    have e0 := bkb_3.out.cell 0
    have f0 := bkb_3.out.froz 0
    have e1 := bkb_3.out.cell 1
    have f1 := bkb_3.out.froz 1
    have e2 := bkb_3.out.cell 2
    have f2 := bkb_3.out.froz 2
    have e3 := bkb_3.out.cell 3
    have f3 := bkb_3.out.froz 3
    have e4 := bkb_3.out.cell 4
    have f4 := bkb_3.out.froz 4
    have e5 := bkb_3.out.cell 5
    have f5 := bkb_3.out.froz 5
    simp at e0 e1 e2 e3 e4 e5
    go_simp
    have bkb_4 : Hid (Bz ((((((u3.setCell ⟨kb, 0, none⟩ (Value.int .i64 op)).setCell ⟨kb, 1, none⟩ (Value.int .i64 vr)).setCell ⟨kb, 2, none⟩ (Value.int .i64 aa)).setCell ⟨kb, 3, none⟩ (Value.int .i64 bb)).setCell ⟨kb, 4, none⟩ (Value.string T1)).setCell ⟨kb, 5, none⟩ (Value.string T2)) kb #[.int .i64 op, .int .i64 vr, .int .i64 aa, .int .i64 bb, .string T1, .string T2] 114) := ((((((bkb_3.out.set 0 _).set 1 _).set 2 _).set 3 _).set 4 _).set 5 _)
    have hu4 : Hid (Below W.heap.size W ((((((u3.setCell ⟨kb, 0, none⟩ (Value.int .i64 op)).setCell ⟨kb, 1, none⟩ (Value.int .i64 vr)).setCell ⟨kb, 2, none⟩ (Value.int .i64 aa)).setCell ⟨kb, 3, none⟩ (Value.int .i64 bb)).setCell ⟨kb, 4, none⟩ (Value.string T1)).setCell ⟨kb, 5, none⟩ (Value.string T2))) := ((((((hu3.out.setCell (show _ ≤ kb from lkb) _).setCell (show _ ≤ kb from lkb) _).setCell (show _ ≤ kb from lkb) _).setCell (show _ ≤ kb from lkb) _).setCell (show _ ≤ kb from lkb) _).setCell (show _ ≤ kb from lkb) _)
    refine hK _ _ (Sx.behind (by kernel_rfl) hu4.out) ?_
    clear hK K e0 f0 e1 f1 e2 f2 e3 f3 e4 f4 e5 f5
    generalize ((((((u3.setCell ⟨kb, 0, none⟩ (Value.int .i64 op)).setCell ⟨kb, 1, none⟩ (Value.int .i64 vr)).setCell ⟨kb, 2, none⟩ (Value.int .i64 aa)).setCell ⟨kb, 3, none⟩ (Value.int .i64 bb)).setCell ⟨kb, 4, none⟩ (Value.string T1)).setCell ⟨kb, 5, none⟩ (Value.string T2)) = u4 at *
    try go_simp
    refine wpAnyX_done (by kernel_rfl) ?_ _
    exact key u4 kb ⟨hu4.out, bkb_4.out, lkb⟩
   ·go_simp
    refine hK _ _ (Sx.behind (by kernel_rfl) (hu1.out.alloc hu1.out.size _)) ?_
    clear hK K
    have hu2 : Hid (Below W.heap.size W (u1.alloc (Obj.cells #[.int .i64 0, .int .i64 0, .int .i64 0, .int .i64 0, .string { data := #[] }, .string { data := #[] }] 114))) := hu1.out.alloc hu1.out.size _
    have bkb_2 : Hid (Bz (u1.alloc (Obj.cells #[.int .i64 0, .int .i64 0, .int .i64 0, .int .i64 0, .string { data := #[] }, .string { data := #[] }] 114)) u1.heap.size #[.int .i64 0, .int .i64 0, .int .i64 0, .int .i64 0, .string { data := #[] }, .string { data := #[] }] 114) := Bz.new _ _ _
    have w2 : Below u1.heap.size u1 (u1.alloc (Obj.cells #[.int .i64 0, .int .i64 0, .int .i64 0, .int .i64 0, .string { data := #[] }, .string { data := #[] }] 114)) := blA _ _
    have lkb : W.heap.size ≤ u1.heap.size := hu1.out.size
    clear w2
    generalize hqkb : u1.heap.size = kb at *
    generalize u1.alloc (Obj.cells #[.int .i64 0, .int .i64 0, .int .i64 0, .int .i64 0, .string { data := #[] }, .string { data := #[] }] 114) = u2 at *
    clear hqkb
    try go_simp
    refine rdX (rs := [12]) (AllX.cons rfl (fun K hK => ?_) AllX.nil)
    go_simp
    refine Calls.mono (HKB.out _ (BW.out.trans (hu2.out.mono BW.out.size))) ?_
    rintro e u3 ⟨rfl, hb⟩
    have hu3 : Hid (Below W.heap.size W u3) := hu2.out.trans (hb.mono hu2.out.size)
    have bkb_3 : Hid (Bz u3 kb #[.int .i64 0, .int .i64 0, .int .i64 0, .int .i64 0, .string { data := #[] }, .string { data := #[] }] 114) := Bz.later bkb_2.out hb
    refine hK _ _ (Sx.behind (by kernel_rfl) hu3.out) ?_
    clear hK K hb
    try go_simp
    refine tkP (i := 13) (v := Value.agg #[.int .i64 op, .int .i64 vr, .int .i64 aa, .int .i64 bb, .string T1, .string T2]) rfl hu3.out ?_
    try go_simp
    refine rdX (rs := [15]) (AllX.cons rfl (fun K hK => ?_) AllX.nil)
    have e0 := bkb_3.out.cell 0
    have f0 := bkb_3.out.froz 0
    have e1 := bkb_3.out.cell 1
    have f1 := bkb_3.out.froz 1
    have e2 := bkb_3.out.cell 2
    have f2 := bkb_3.out.froz 2
    have e3 := bkb_3.out.cell 3
    have f3 := bkb_3.out.froz 3
    have e4 := bkb_3.out.cell 4
    have f4 := bkb_3.out.froz 4
    have e5 := bkb_3.out.cell 5
    have f5 := bkb_3.out.froz 5
    simp at e0 e1 e2 e3 e4 e5
    go_simp
    have bkb_4 : Hid (Bz ((((((u3.setCell ⟨kb, 0, none⟩ (Value.int .i64 op)).setCell ⟨kb, 1, none⟩ (Value.int .i64 vr)).setCell ⟨kb, 2, none⟩ (Value.int .i64 aa)).setCell ⟨kb, 3, none⟩ (Value.int .i64 bb)).setCell ⟨kb, 4, none⟩ (Value.string T1)).setCell ⟨kb, 5, none⟩ (Value.string T2)) kb #[.int .i64 op, .int .i64 vr, .int .i64 aa, .int .i64 bb, .string T1, .string T2] 114) := ((((((bkb_3.out.set 0 _).set 1 _).set 2 _).set 3 _).set 4 _).set 5 _)
    have hu4 : Hid (Below W.heap.size W ((((((u3.setCell ⟨kb, 0, none⟩ (Value.int .i64 op)).setCell ⟨kb, 1, none⟩ (Value.int .i64 vr)).setCell ⟨kb, 2, none⟩ (Value.int .i64 aa)).setCell ⟨kb, 3, none⟩ (Value.int .i64 bb)).setCell ⟨kb, 4, none⟩ (Value.string T1)).setCell ⟨kb, 5, none⟩ (Value.string T2))) := ((((((hu3.out.setCell (show _ ≤ kb from lkb) _).setCell (show _ ≤ kb from lkb) _).setCell (show _ ≤ kb from lkb) _).setCell (show _ ≤ kb from lkb) _).setCell (show _ ≤ kb from lkb) _).setCell (show _ ≤ kb from lkb) _)
    refine hK _ _ (Sx.behind (by kernel_rfl) hu4.out) ?_
    clear hK K e0 f0 e1 f1 e2 f2 e3 f3 e4 f4 e5 f5
    generalize ((((((u3.setCell ⟨kb, 0, none⟩ (Value.int .i64 op)).setCell ⟨kb, 1, none⟩ (Value.int .i64 vr)).setCell ⟨kb, 2, none⟩ (Value.int .i64 aa)).setCell ⟨kb, 3, none⟩ (Value.int .i64 bb)).setCell ⟨kb, 4, none⟩ (Value.string T1)).setCell ⟨kb, 5, none⟩ (Value.string T2)) = u4 at *
    try go_simp
    refine wpAnyX_done (by kernel_rfl) ?_ _
    exact key u4 kb ⟨hu4.out, bkb_4.out, lkb⟩
  ·go_simp
   refine hK _ _ (Sx.behind (by kernel_rfl) (hu0.out.alloc hu0.out.size _)) ?_
   clear hK K
   have hu1 : Hid (Below W.heap.size W (u0.alloc (Obj.cells #[.int .i64 0, .int .i64 0, .int .i64 0, .int .i64 0, .string { data := #[] }, .string { data := #[] }] 114))) := hu0.out.alloc hu0.out.size _
   have bkb_1 : Hid (Bz (u0.alloc (Obj.cells #[.int .i64 0, .int .i64 0, .int .i64 0, .int .i64 0, .string { data := #[] }, .string { data := #[] }] 114)) u0.heap.size #[.int .i64 0, .int .i64 0, .int .i64 0, .int .i64 0, .string { data := #[] }, .string { data := #[] }] 114) := Bz.new _ _ _
   have w1 : Below u0.heap.size u0 (u0.alloc (Obj.cells #[.int .i64 0, .int .i64 0, .int .i64 0, .int .i64 0, .string { data := #[] }, .string { data := #[] }] 114)) := blA _ _
   have lkb : W.heap.size ≤ u0.heap.size := hu0.out.size
   clear w1
   generalize hqkb : u0.heap.size = kb at *
   generalize u0.alloc (Obj.cells #[.int .i64 0, .int .i64 0, .int .i64 0, .int .i64 0, .string { data := #[] }, .string { data := #[] }] 114) = u1 at *
   clear hqkb
   try go_simp
   refine rdX (rs := [10]) (AllX.cons rfl (fun K hK => ?_) AllX.nil)
   go_simp
   refine Calls.mono (HWB.out _ (BW.out.trans (hu1.out.mono BW.out.size))) ?_
   rintro e u2 ⟨rfl, hb⟩
   have hu2 : Hid (Below W.heap.size W u2) := hu1.out.trans (hb.mono hu1.out.size)
   have bkb_2 : Hid (Bz u2 kb #[.int .i64 0, .int .i64 0, .int .i64 0, .int .i64 0, .string { data := #[] }, .string { data := #[] }] 114) := Bz.later bkb_1.out hb
   refine hK _ _ (Sx.behind (by kernel_rfl) hu2.out) ?_
   clear hK K hb
   try go_simp
   refine rdX (rs := [12]) (AllX.cons rfl (fun K hK => ?_) AllX.nil)
   go_simp
   refine Calls.mono (HKB.out _ (BW.out.trans (hu2.out.mono BW.out.size))) ?_
   rintro e u3 ⟨rfl, hb⟩
   have hu3 : Hid (Below W.heap.size W u3) := hu2.out.trans (hb.mono hu2.out.size)
   have bkb_3 : Hid (Bz u3 kb #[.int .i64 0, .int .i64 0, .int .i64 0, .int .i64 0, .string { data := #[] }, .string { data := #[] }] 114) := Bz.later bkb_2.out hb
   refine hK _ _ (Sx.behind (by kernel_rfl) hu3.out) ?_
   clear hK K hb
   try go_simp
   refine tkP (i := 13) (v := Value.agg #[.int .i64 op, .int .i64 vr, .int .i64 aa, .int .i64 bb, .string T1, .string T2]) rfl hu3.out ?_
   try go_simp
   refine rdX (rs := [15]) (AllX.cons rfl (fun K hK => ?_) AllX.nil)
   have e0 := bkb_3.out.cell 0
   have f0 := bkb_3.out.froz 0
   have e1 := bkb_3.out.cell 1
   have f1 := bkb_3.out.froz 1
   have e2 := bkb_3.out.cell 2
   have f2 := bkb_3.out.froz 2
   have e3 := bkb_3.out.cell 3
   have f3 := bkb_3.out.froz 3
   have e4 := bkb_3.out.cell 4
   have f4 := bkb_3.out.froz 4
   have e5 := bkb_3.out.cell 5
   have f5 := bkb_3.out.froz 5
   simp at e0 e1 e2 e3 e4 e5
   go_simp
   have bkb_4 : Hid (Bz ((((((u3.setCell ⟨kb, 0, none⟩ (Value.int .i64 op)).setCell ⟨kb, 1, none⟩ (Value.int .i64 vr)).setCell ⟨kb, 2, none⟩ (Value.int .i64 aa)).setCell ⟨kb, 3, none⟩ (Value.int .i64 bb)).setCell ⟨kb, 4, none⟩ (Value.string T1)).setCell ⟨kb, 5, none⟩ (Value.string T2)) kb #[.int .i64 op, .int .i64 vr, .int .i64 aa, .int .i64 bb, .string T1, .string T2] 114) := ((((((bkb_3.out.set 0 _).set 1 _).set 2 _).set 3 _).set 4 _).set 5 _)
   have hu4 : Hid (Below W.heap.size W ((((((u3.setCell ⟨kb, 0, none⟩ (Value.int .i64 op)).setCell ⟨kb, 1, none⟩ (Value.int .i64 vr)).setCell ⟨kb, 2, none⟩ (Value.int .i64 aa)).setCell ⟨kb, 3, none⟩ (Value.int .i64 bb)).setCell ⟨kb, 4, none⟩ (Value.string T1)).setCell ⟨kb, 5, none⟩ (Value.string T2))) := ((((((hu3.out.setCell (show _ ≤ kb from lkb) _).setCell (show _ ≤ kb from lkb) _).setCell (show _ ≤ kb from lkb) _).setCell (show _ ≤ kb from lkb) _).setCell (show _ ≤ kb from lkb) _).setCell (show _ ≤ kb from lkb) _)
   refine hK _ _ (Sx.behind (by kernel_rfl) hu4.out) ?_
   clear hK K e0 f0 e1 f1 e2 f2 e3 f3 e4 f4 e5 f5
   generalize ((((((u3.setCell ⟨kb, 0, none⟩ (Value.int .i64 op)).setCell ⟨kb, 1, none⟩ (Value.int .i64 vr)).setCell ⟨kb, 2, none⟩ (Value.int .i64 aa)).setCell ⟨kb, 3, none⟩ (Value.int .i64 bb)).setCell ⟨kb, 4, none⟩ (Value.string T1)).setCell ⟨kb, 5, none⟩ (Value.string T2)) = u4 at *
   try go_simp
   refine wpAnyX_done (by kernel_rfl) ?_ _
   exact key u4 kb ⟨hu4.out, bkb_4.out, lkb⟩
 ·intro u kb hF
  obtain ⟨hbu, xk, lkb⟩ := hF
  have BU := kide (BW.out.trans (hbu.mono BW.out.size))
  have hlk := xk.lt
  have k0 : u.cell? ⟨kb, 0, none⟩ = some (Value.int .i64 op) := xk.cell 0
  have k1 : u.cell? ⟨kb, 1, none⟩ = some (Value.int .i64 vr) := xk.cell 1
  have k2 : u.cell? ⟨kb, 2, none⟩ = some (Value.int .i64 aa) := xk.cell 2
  have k3 : u.cell? ⟨kb, 3, none⟩ = some (Value.int .i64 bb) := xk.cell 3
  have k4 : u.cell? ⟨kb, 4, none⟩ = some (Value.string T1) := xk.cell 4
  have k5 : u.cell? ⟨kb, 5, none⟩ = some (Value.string T2) := xk.cell 5
  have hau := HA.out.later BU.out
  have hbx : Bz u s #[v, .map (some g)] 88 := hau.box
  have hls := hbx.lt
  have s0 : u.cell? ⟨s, 0, none⟩ = some v := hbx.cell 0
  have s1 : u.cell? ⟨s, 1, none⟩ = some (.map (some g)) := hbx.cell 1
  have HLK := kide (fun u' (hu : Below u.heap.size u u') => look_node (own_belowN hau.mp (fun hg => hu.block g hg)) HKL.out HCC.out)
  have HAU := kide hau
  have XB : Hid (Bz u b0 #[.int .i64 op, .int .i64 vr, .int .i64 aa, .int .i64 bb, .int .i64 bw, .slice wa nw wc, .slice nka nkn nkc] 67) := Bz.later X0.out hbu
  have XK := kide xk
  have HKU := kide (HKN.out.later BU.out)
  have HRU := kide (HR.out.later BU.out)
  have HNU : Hid (N ≤ u.heap.size) := Nat.le_trans HNW2.out BU.out.size
  generalize hHD : Maps.has D kl = H at *
  clear hbu xk hau hbx BW HWB HKB HA hHD X0 HR HKN g0 g1 g2 g3 g4 g5 hlt0
  go_wp2_with fail
  refine wp_region_x (SA := fun _ => False) (SB := fun uu => Below u.heap.size u uu) (k := 999) (by kernel_rfl) ?_
  have hz0 : Hid (Below u.heap.size u u.drew) := (Below.refl _ _).drew
  generalize u.drew = z0 at *
  try go_simp
  refine tkP (i := 0) (v := Value.pointer (some ⟨s, 0, none⟩)) rfl hz0.out ?_
  try go_simp
  refine tkP (i := 1) (v := Value.pointer (some ⟨s, 0, none⟩)) rfl hz0.out ?_
  try go_simp
  refine tkP (i := 2) (v := Value.pointer (some ⟨s, 1, none⟩)) rfl hz0.out ?_
  try go_simp
  refine tkS (i := 3) (v := Value.map (some g)) rfl hz0.out (fun uu hu => by have e1 := (kcell hu s 1 hls).trans s1; go_simp) ?_
  try go_simp
  refine tkS (i := 4) (v := Value.agg #[.int .i64 op, .int .i64 vr, .int .i64 aa, .int .i64 bb, .string T1, .string T2]) rfl hz0.out (fun uu hu => by have e0 := (kcell hu kb 0 hlk).trans k0; have e1 := (kcell hu kb 1 hlk).trans k1; have e2 := (kcell hu kb 2 hlk).trans k2; have e3 := (kcell hu kb 3 hlk).trans k3; have e4 := (kcell hu kb 4 hlk).trans k4; have e5 := (kcell hu kb 5 hlk).trans k5; go_simp) ?_
  try go_simp
  refine tkS (i := 5) (v := Value.tuple #[.int .i64 c, .bool H]) rfl hz0.out (fun uu hu => by have e1 := HLK.out uu hu; go_simp) ?_
  try go_simp
  refine tkP (i := 6) (v := Value.tuple #[.int .i64 c, .bool H]) rfl hz0.out ?_
  try go_simp
  refine tkP (i := 7) (v := Value.int .i64 c) rfl hz0.out ?_
  try go_simp
  refine tkP (i := 8) (v := Value.bool H) rfl hz0.out ?_
  try go_simp
  refine tkP (i := 9) (v := Value.int .i64 c) rfl hz0.out ?_
  try go_simp
  refine tkP (i := 10) (v := Value.bool H) rfl hz0.out ?_
  try go_simp
  refine wpAnyX_done (by kernel_rfl) ?_ _
  skip
  have HA2 := kide (HAU.out.later hz0.out)
  have XB2 := kide (XB.out.later hz0.out)
  have XK2 := kide (XK.out.later hz0.out)
  have HK2 := kide (HKU.out.later hz0.out)
  have HR2 := kide (HRU.out.later hz0.out)
  have HN2 : Hid (N ≤ z0.heap.size) := Nat.le_trans HNU.out hz0.out.size
  have B2 := kide (BU.out.trans (hz0.out.mono BU.out.size))
  clear HAU XB XK HKU HRU HNU BU hz0 HLK k0 k1 k2 k3 k4 k5 s0 s1 hlk hls lkb
  cases H with
  | true =>
   go_wp2_with fail
   obtain ⟨j, hj⟩ := fndT_mem (HHAS.out.1 (by simp))
   have hcj : c = (j : Int) := by
    have h1 := HVAL.out j hj
    rw [HCC.out] at h1
    simpa using h1
   exact bodyPost_ret (v := Value.int .i64 c) (by simp [results, Tryz.results42, go_sem]) rfl ⟨v, D, l, j, by rw [hcj], HA2.out, FrA.of B2.out, .inl rfl, fun x hx => .inl hx, by rw [hj]; exact ⟨rfl, rfl⟩⟩
  | false =>
   have HNI : Hid (¬ md ∈ List.map Tg.ct l) := fun h => by simpa using HHAS.out.2 h
   clear HVAL HHAS HCC
   obtain ⟨va, vc, rfl⟩ := HA2.out.ts.form
   have s0 : z0.cell? ⟨s, 0, none⟩ = some (Value.slice va l.length vc) := HA2.out.box.cell 0
   obtain ⟨ln, hln⟩ : ∃ n, l.length = n := ⟨_, rfl⟩
   have HLN := kide hln
   rw [hln] at HA2 HVB s0 hl ⊢
   clear hln
   go_wp2_with fail
   clear s0
   refine wp_region_x (SA := fun uu => uu.cell? ⟨s, 1, none⟩ = some (Value.map (some g)) ∧ uu.cell? ⟨kb, 0, none⟩ = some (Value.int .i64 op) ∧ uu.cell? ⟨kb, 1, none⟩ = some (Value.int .i64 vr) ∧ uu.cell? ⟨kb, 2, none⟩ = some (Value.int .i64 aa) ∧ uu.cell? ⟨kb, 3, none⟩ = some (Value.int .i64 bb) ∧ uu.cell? ⟨kb, 4, none⟩ = some (Value.string T1) ∧ uu.cell? ⟨kb, 5, none⟩ = some (Value.string T2)) (SB := fun _ => True) (k := 6) (by kernel_rfl) ?_
   have hbd : Below z0.heap.size z0 z0.drew := (Below.refl _ _).drew
   have HA_0 := kide (HA2.out.later hbd)
   have XK_0 := kide (XK2.out.later hbd)
   have XB_0 := kide (XB2.out.later hbd)
   have HK_0 := kide (HK2.out.later hbd)
   have HR_0 := kide (HR2.out.later hbd)
   have HN_0 : Hid (N ≤ z0.drew.heap.size) := Nat.le_trans HN2.out hbd.size
   have B_0 := kide (B2.out.trans (hbd.mono B2.out.size))
   clear hbd HA2 XK2 XB2 HK2 HR2 HN2 B2
   generalize z0.drew = p0 at *
   have HM_0 : Hid (World.ownsMap p0 Tryz.prog 114 (plainElem Tryz.prog 2) g ln D) := by have h9 := HA_0.out.mp; rw [HLN.out] at h9; exact h9
   have c0_0 : p0.cell? ⟨s, 1, none⟩ = some (Value.map (some g)) := HA_0.out.box.cell 1
   have c1_0 : p0.cell? ⟨kb, 0, none⟩ = some (Value.int .i64 op) := XK_0.out.cell 0
   have c2_0 : p0.cell? ⟨kb, 1, none⟩ = some (Value.int .i64 vr) := XK_0.out.cell 1
   have c3_0 : p0.cell? ⟨kb, 2, none⟩ = some (Value.int .i64 aa) := XK_0.out.cell 2
   have c4_0 : p0.cell? ⟨kb, 3, none⟩ = some (Value.int .i64 bb) := XK_0.out.cell 3
   have c5_0 : p0.cell? ⟨kb, 4, none⟩ = some (Value.string T1) := XK_0.out.cell 4
   have c6_0 : p0.cell? ⟨kb, 5, none⟩ = some (Value.string T2) := XK_0.out.cell 5
   have hs0 : Hid ((fun uu => uu.cell? ⟨s, 1, none⟩ = some (Value.map (some g)) ∧ uu.cell? ⟨kb, 0, none⟩ = some (Value.int .i64 op) ∧ uu.cell? ⟨kb, 1, none⟩ = some (Value.int .i64 vr) ∧ uu.cell? ⟨kb, 2, none⟩ = some (Value.int .i64 aa) ∧ uu.cell? ⟨kb, 3, none⟩ = some (Value.int .i64 bb) ∧ uu.cell? ⟨kb, 4, none⟩ = some (Value.string T1) ∧ uu.cell? ⟨kb, 5, none⟩ = some (Value.string T2)) p0) := ⟨c0_0, c1_0, c2_0, c3_0, c4_0, c5_0, c6_0⟩
   try go_simp
   refine tkU (i := 0) (v := Value.pointer (some ⟨s, 0, none⟩)) rfl (Sx.before (by kernel_rfl) hs0.out) ?_
   try go_simp
   refine tkU (i := 1) (v := Value.pointer (some ⟨s, 0, none⟩)) rfl (Sx.before (by kernel_rfl) hs0.out) ?_
   try go_simp
   refine tkU (i := 2) (v := Value.pointer (some ⟨s, 1, none⟩)) rfl (Sx.before (by kernel_rfl) hs0.out) ?_
   try go_simp
   refine tkY (i := 3) (v := Value.map (some g)) rfl hs0.out (fun uu hu => by obtain ⟨e0, e1, e2, e3, e4, e5, e6⟩ := hu; go_simp) ?_
   try go_simp
   refine tkY (i := 4) (v := Value.agg #[.int .i64 op, .int .i64 vr, .int .i64 aa, .int .i64 bb, .string T1, .string T2]) rfl hs0.out (fun uu hu => by obtain ⟨e0, e1, e2, e3, e4, e5, e6⟩ := hu; go_simp) ?_
   try go_simp
   refine tkU (i := 5) (v := Value.int .i64 (ln : Int)) rfl (Sx.before (by kernel_rfl) hs0.out) ?_
   try go_simp
   refine rdX (rs := [6]) (AllX.cons rfl (fun K hK => ?_) AllX.nil)
   refine step_mapN _ rfl _ _ _ rfl g ln D (by first | rfl | simp [Act.eval]) HM_0.out (by unfold maxLen; omega) _ kl (ln : Int) (by first | rfl | simp [Act.eval]) (by first | rfl | simp [Act.eval]) (WalkArith.wf_i64 ⟨by omega, by omega⟩) HKL.out ?_
   intro p1 hm1 ht1
   have HM_1 := kide hm1
   have HT_1 := kide ht1
   clear hm1 ht1
   refine hK _ _ (Sx.behind (by kernel_rfl) trivial) ?_
   clear hK K
   try go_simp
   refine wpAnyX_done (by kernel_rfl) ?_ _
   have XS_1 : Hid (Bz p1 s #[.slice va ln vc, .map (some g)] 88) := HA_0.out.box.turnedN HT_1.out
   have XB_1 := kide (XB_0.out.turnedN HT_1.out)
   have TS_1 := kide (HA_0.out.ts.turnedN HT_1.out)
   have HK_1 := kide (HK_0.out.turnedN HT_1.out)
   have HR_1 := kide (HR_0.out.turnedN HT_1.out)
   have HN_1 : Hid (N ≤ p1.heap.size) := Nat.le_trans HN_0.out HT_1.out.grown.size
   have KK_1 : Hid (FrA s g (Value.slice va ln vc) w p1) := (FrA.of B_0.out).trans (FrA.turned HT_1.out)
   have HLE := kide HA_0.out.le
   have HAK : Hid (Ak (D.put kl (.lit (.int .i64 (ln : Int)))) (List.map Tg.ct l ++ [md])) := by have h9 := HSTP.out HNI.out; rw [List.length_map, HLN.out] at h9; exact h9
   clear HT_1 XK_0 XB_0 HM_0 HA_0 HK_0 HR_0 HN_0 B_0 HSTP c0_0 c1_0 c2_0 c3_0 c4_0 c5_0 c6_0
   go_wp2_with fail
   refine wp_region_x (SA := fun uu => uu.cell? ⟨s, 0, none⟩ = some (Value.slice va ln vc) ∧ uu.cell? ⟨b0, 0, none⟩ = some (Value.int .i64 op) ∧ uu.cell? ⟨b0, 1, none⟩ = some (Value.int .i64 vr) ∧ uu.cell? ⟨b0, 2, none⟩ = some (Value.int .i64 aa) ∧ uu.cell? ⟨b0, 3, none⟩ = some (Value.int .i64 bb) ∧ uu.cell? ⟨b0, 4, none⟩ = some (Value.int .i64 bw) ∧ uu.cell? ⟨b0, 5, none⟩ = some (Value.slice wa nw wc)) (SB := fun _ => True) (k := 22) (by kernel_rfl) ?_
   have hbd : Below p1.heap.size p1 p1.drew := (Below.refl _ _).drew
   have XS0 := kide (XS_1.out.later hbd)
   have XB0 := kide (XB_1.out.later hbd)
   have TS0 := kide (TS_1.out.later hbd)
   have HK0 := kide (HK_1.out.later hbd)
   have HR0 := kide (HR_1.out.later hbd)
   have MM0 := kide (own_belowN HM_1.out (fun hg => hbd.block g hg))
   have KK0 := kide (KK_1.out.trans (FrA.of hbd))
   have HN0 : Hid (N ≤ p1.drew.heap.size) := Nat.le_trans HN_1.out hbd.size
   clear hbd XS_1 XB_1 TS_1 HK_1 HR_1 HM_1 KK_1 HN_1
   generalize p1.drew = q0 at *
   have c0_0 : q0.cell? ⟨s, 0, none⟩ = some (Value.slice va ln vc) := XS0.out.cell 0
   have c1_0 : q0.cell? ⟨b0, 0, none⟩ = some (Value.int .i64 op) := XB0.out.cell 0
   have c2_0 : q0.cell? ⟨b0, 1, none⟩ = some (Value.int .i64 vr) := XB0.out.cell 1
   have c3_0 : q0.cell? ⟨b0, 2, none⟩ = some (Value.int .i64 aa) := XB0.out.cell 2
   have c4_0 : q0.cell? ⟨b0, 3, none⟩ = some (Value.int .i64 bb) := XB0.out.cell 3
   have c5_0 : q0.cell? ⟨b0, 4, none⟩ = some (Value.int .i64 bw) := XB0.out.cell 4
   have c6_0 : q0.cell? ⟨b0, 5, none⟩ = some (Value.slice wa nw wc) := XB0.out.cell 5
   have hs0 : Hid ((fun uu => uu.cell? ⟨s, 0, none⟩ = some (Value.slice va ln vc) ∧ uu.cell? ⟨b0, 0, none⟩ = some (Value.int .i64 op) ∧ uu.cell? ⟨b0, 1, none⟩ = some (Value.int .i64 vr) ∧ uu.cell? ⟨b0, 2, none⟩ = some (Value.int .i64 aa) ∧ uu.cell? ⟨b0, 3, none⟩ = some (Value.int .i64 bb) ∧ uu.cell? ⟨b0, 4, none⟩ = some (Value.int .i64 bw) ∧ uu.cell? ⟨b0, 5, none⟩ = some (Value.slice wa nw wc)) q0) := ⟨c0_0, c1_0, c2_0, c3_0, c4_0, c5_0, c6_0⟩
   try go_simp
   refine tkU (i := 0) (v := Value.pointer (some ⟨s, 0, none⟩)) rfl (Sx.before (by kernel_rfl) hs0.out) ?_
   try go_simp
   refine tkU (i := 1) (v := Value.pointer (some ⟨s, 0, none⟩)) rfl (Sx.before (by kernel_rfl) hs0.out) ?_
   try go_simp
   refine tkU (i := 2) (v := Value.pointer (some ⟨s, 0, none⟩)) rfl (Sx.before (by kernel_rfl) hs0.out) ?_
   try go_simp
   refine tkU (i := 3) (v := Value.pointer (some ⟨s, 0, none⟩)) rfl (Sx.before (by kernel_rfl) hs0.out) ?_
   try go_simp
   refine tkY (i := 4) (v := Value.slice va ln vc) rfl hs0.out (fun uu hu => by obtain ⟨e0, e1, e2, e3, e4, e5, e6⟩ := hu; go_simp) ?_
   try go_simp
   refine tkU (i := 5) (v := Value.pointer (some ⟨b0, 0, none⟩)) rfl (Sx.before (by kernel_rfl) hs0.out) ?_
   try go_simp
   refine tkY (i := 6) (v := Value.int .i64 op) rfl hs0.out (fun uu hu => by obtain ⟨e0, e1, e2, e3, e4, e5, e6⟩ := hu; go_simp) ?_
   try go_simp
   refine tkU (i := 7) (v := Value.pointer (some ⟨b0, 1, none⟩)) rfl (Sx.before (by kernel_rfl) hs0.out) ?_
   try go_simp
   refine tkY (i := 8) (v := Value.int .i64 vr) rfl hs0.out (fun uu hu => by obtain ⟨e0, e1, e2, e3, e4, e5, e6⟩ := hu; go_simp) ?_
   try go_simp
   refine tkU (i := 9) (v := Value.pointer (some ⟨b0, 2, none⟩)) rfl (Sx.before (by kernel_rfl) hs0.out) ?_
   try go_simp
   refine tkY (i := 10) (v := Value.int .i64 aa) rfl hs0.out (fun uu hu => by obtain ⟨e0, e1, e2, e3, e4, e5, e6⟩ := hu; go_simp) ?_
   try go_simp
   refine tkU (i := 11) (v := Value.pointer (some ⟨b0, 3, none⟩)) rfl (Sx.before (by kernel_rfl) hs0.out) ?_
   try go_simp
   refine tkY (i := 12) (v := Value.int .i64 bb) rfl hs0.out (fun uu hu => by obtain ⟨e0, e1, e2, e3, e4, e5, e6⟩ := hu; go_simp) ?_
   try go_simp
   refine tkU (i := 13) (v := Value.pointer (some ⟨b0, 4, none⟩)) rfl (Sx.before (by kernel_rfl) hs0.out) ?_
   try go_simp
   refine tkY (i := 14) (v := Value.agg #[.int .i64 bw, .slice wa nw wc]) rfl hs0.out (fun uu hu => by obtain ⟨e0, e1, e2, e3, e4, e5, e6⟩ := hu; go_simp) ?_
   try go_simp
   refine tkU (i := 16) (v := Value.slice ka nk kc) rfl (Sx.before (by kernel_rfl) hs0.out) ?_
   try go_simp
   refine rdX (rs := [15]) (AllX.cons rfl (fun K hK => ?_) AllX.nil)
   go_simp
   refine Calls.mono (copyW bw wa wc nw ws _ HR0.out HNW.out hw0) ?_
   rintro e q1 ⟨a7, c7, rfl, hn7, hb7⟩
   have XS1 := kide (XS0.out.later hb7)
   have XB1 := kide (XB0.out.later hb7)
   have TS1 := kide (TS0.out.later hb7)
   have HK1 := kide (HK0.out.later hb7)
   have MM1 := kide (own_belowN MM0.out (fun hg => hb7.block g hg))
   have KK1 := kide (KK0.out.trans (FrA.of hb7))
   have NW1 : Hid (Nw q1 N a7 ws) := Nw.mono hn7 HN0.out
   have HN1 : Hid (N ≤ q1.heap.size) := Nat.le_trans HN0.out hb7.size
   clear hn7 hb7
   have c0_1 : q1.cell? ⟨s, 0, none⟩ = some (Value.slice va ln vc) := XS1.out.cell 0
   have c1_1 : q1.cell? ⟨b0, 0, none⟩ = some (Value.int .i64 op) := XB1.out.cell 0
   have c2_1 : q1.cell? ⟨b0, 1, none⟩ = some (Value.int .i64 vr) := XB1.out.cell 1
   have c3_1 : q1.cell? ⟨b0, 2, none⟩ = some (Value.int .i64 aa) := XB1.out.cell 2
   have c4_1 : q1.cell? ⟨b0, 3, none⟩ = some (Value.int .i64 bb) := XB1.out.cell 3
   have c5_1 : q1.cell? ⟨b0, 4, none⟩ = some (Value.int .i64 bw) := XB1.out.cell 4
   have c6_1 : q1.cell? ⟨b0, 5, none⟩ = some (Value.slice wa nw wc) := XB1.out.cell 5
   have hs1 : Hid ((fun uu => uu.cell? ⟨s, 0, none⟩ = some (Value.slice va ln vc) ∧ uu.cell? ⟨b0, 0, none⟩ = some (Value.int .i64 op) ∧ uu.cell? ⟨b0, 1, none⟩ = some (Value.int .i64 vr) ∧ uu.cell? ⟨b0, 2, none⟩ = some (Value.int .i64 aa) ∧ uu.cell? ⟨b0, 3, none⟩ = some (Value.int .i64 bb) ∧ uu.cell? ⟨b0, 4, none⟩ = some (Value.int .i64 bw) ∧ uu.cell? ⟨b0, 5, none⟩ = some (Value.slice wa nw wc)) q1) := ⟨c0_1, c1_1, c2_1, c3_1, c4_1, c5_1, c6_1⟩
   refine hK _ _ (Sx.before (by kernel_rfl) hs1.out) ?_
   clear hK K
   try go_simp
   refine tkU (i := 17) (v := Value.agg #[.int .i64 op, .int .i64 vr, .int .i64 aa, .int .i64 bb, .int .i64 bw, .slice a7 nw c7, .slice ka nk kc]) rfl (Sx.before (by kernel_rfl) hs1.out) ?_
   try go_simp
   refine rdX (rs := [18]) (AllX.cons rfl (fun K hK => ?_) AllX.nil)
   go_simp
   have hbx : Below q1.heap.size q1 (q1.alloc (Obj.cells #[.int .i64 op, .int .i64 vr, .int .i64 aa, .int .i64 bb, .int .i64 bw, .slice a7 nw c7, .slice ka nk kc] 67)) := blA _ _
   have XN2 := kide (Bz.new q1 #[.int .i64 op, .int .i64 vr, .int .i64 aa, .int .i64 bb, .int .i64 bw, .slice a7 nw c7, .slice ka nk kc] 67)
   have XS2 := kide (XS1.out.later hbx)
   have XB2 := kide (XB1.out.later hbx)
   have TS2 := kide (TS1.out.later hbx)
   have HK2 := kide (HK1.out.later hbx)
   have MM2 := kide (own_belowN MM1.out (fun hg => hbx.block g hg))
   have KK2 := kide (KK1.out.trans (FrA.of hbx))
   have NW2 := kide (NW1.out.later hbx)
   have HN2 : Hid (N ≤ (q1.alloc (Obj.cells #[.int .i64 op, .int .i64 vr, .int .i64 aa, .int .i64 bb, .int .i64 bw, .slice a7 nw c7, .slice ka nk kc] 67)).heap.size) := Nat.le_trans HN1.out hbx.size
   obtain ⟨gn, hgn⟩ : ∃ x, q1.heap.size = x := ⟨_, rfl⟩
   rw [hgn] at XN2
   simp only [hgn]
   clear hbx hgn
   generalize q1.alloc (Obj.cells #[.int .i64 op, .int .i64 vr, .int .i64 aa, .int .i64 bb, .int .i64 bw, .slice a7 nw c7, .slice ka nk kc] 67) = q2 at *
   have c0_2 : q2.cell? ⟨s, 0, none⟩ = some (Value.slice va ln vc) := XS2.out.cell 0
   have c1_2 : q2.cell? ⟨b0, 0, none⟩ = some (Value.int .i64 op) := XB2.out.cell 0
   have c2_2 : q2.cell? ⟨b0, 1, none⟩ = some (Value.int .i64 vr) := XB2.out.cell 1
   have c3_2 : q2.cell? ⟨b0, 2, none⟩ = some (Value.int .i64 aa) := XB2.out.cell 2
   have c4_2 : q2.cell? ⟨b0, 3, none⟩ = some (Value.int .i64 bb) := XB2.out.cell 3
   have c5_2 : q2.cell? ⟨b0, 4, none⟩ = some (Value.int .i64 bw) := XB2.out.cell 4
   have c6_2 : q2.cell? ⟨b0, 5, none⟩ = some (Value.slice wa nw wc) := XB2.out.cell 5
   have hs2 : Hid ((fun uu => uu.cell? ⟨s, 0, none⟩ = some (Value.slice va ln vc) ∧ uu.cell? ⟨b0, 0, none⟩ = some (Value.int .i64 op) ∧ uu.cell? ⟨b0, 1, none⟩ = some (Value.int .i64 vr) ∧ uu.cell? ⟨b0, 2, none⟩ = some (Value.int .i64 aa) ∧ uu.cell? ⟨b0, 3, none⟩ = some (Value.int .i64 bb) ∧ uu.cell? ⟨b0, 4, none⟩ = some (Value.int .i64 bw) ∧ uu.cell? ⟨b0, 5, none⟩ = some (Value.slice wa nw wc)) q2) := ⟨c0_2, c1_2, c2_2, c3_2, c4_2, c5_2, c6_2⟩
   refine hK _ _ (Sx.before (by kernel_rfl) hs2.out) ?_
   clear hK K
   try go_simp
   refine rdX (rs := [19]) (AllX.cons rfl (fun K hK => ?_) AllX.nil)
   have HTA : Hid (ThAt q2 gn 0 ((⟨⟨op, vr, aa, bb, bw, ws, ks⟩, a7, c7, ka, kc⟩ : Tg)).hd) := ⟨XN2.out.cell 0, XN2.out.cell 1, XN2.out.cell 2, XN2.out.cell 3, XN2.out.cell 4, (XN2.out.cell 5).trans (by rw [← HNW.out]; rfl), (XN2.out.cell 6).trans (by rw [← HNK.out]; rfl)⟩
   refine step_appT7 _ rfl _ _ rfl B (Value.slice va ln vc) l (⟨⟨op, vr, aa, bb, bw, ws, ks⟩, a7, c7, ka, kc⟩ : Tg) (by first | rfl | simp [Act.eval]) TS2.out.row gn 1 (by first | rfl | simp [Act.eval]) HTA.out (by rw [HLN.out]; omega) (Nat.le_trans HBN.out HN2.out) ?_
   intro g7 c8 q3 ho hg hat
   rw [HLN.out] at ho ⊢
   have TS3 := kide (TS2.out.appG (Below.refl _ _) HBM.out HBN.out HNN.out HAP.out NW2.out HK2.out hg ho)
   have XS3 : Hid (Bz q3 s #[.slice va ln vc, .map (some g)] 88) := (hg.block s XS2.out.lt (fun e => nsvN XS2.out (by decide) TS2.out.row e)).trans XS2.out
   have XB3 : Hid (Bz q3 b0 #[.int .i64 op, .int .i64 vr, .int .i64 aa, .int .i64 bb, .int .i64 bw, .slice wa nw wc, .slice nka nkn nkc] 67) := (hg.block b0 XB2.out.lt (fun e => by have := HVB.out _ e.symm; have := HB0.out; omega)).trans XB2.out
   have MM3 := kide (own_belowN MM2.out (fun hl => hg.block g hl (fun e => nmvN MM2.out TS2.out.row e)))
   have KK3 := kide (KK2.out.trans (FrA.grown hg))
   have HAT : Hid ((Value.slice (some ⟨g7, 0, none⟩) (ln + 1) c8).ownBlock = (Value.slice va ln vc).ownBlock ∨ ∀ b, (Value.slice (some ⟨g7, 0, none⟩) (ln + 1) c8).ownBlock = some b → w.heap.size ≤ b) := hat.imp (fun e => by rw [e]; rfl) (fun e b hb => by cases hb; rw [e]; exact KK2.out.2.2.2.1)
   clear ho hg hat HTA
   have c0_3 : q3.cell? ⟨s, 0, none⟩ = some (Value.slice va ln vc) := XS3.out.cell 0
   have c1_3 : q3.cell? ⟨b0, 0, none⟩ = some (Value.int .i64 op) := XB3.out.cell 0
   have c2_3 : q3.cell? ⟨b0, 1, none⟩ = some (Value.int .i64 vr) := XB3.out.cell 1
   have c3_3 : q3.cell? ⟨b0, 2, none⟩ = some (Value.int .i64 aa) := XB3.out.cell 2
   have c4_3 : q3.cell? ⟨b0, 3, none⟩ = some (Value.int .i64 bb) := XB3.out.cell 3
   have c5_3 : q3.cell? ⟨b0, 4, none⟩ = some (Value.int .i64 bw) := XB3.out.cell 4
   have c6_3 : q3.cell? ⟨b0, 5, none⟩ = some (Value.slice wa nw wc) := XB3.out.cell 5
   have hs3 : Hid ((fun uu => uu.cell? ⟨s, 0, none⟩ = some (Value.slice va ln vc) ∧ uu.cell? ⟨b0, 0, none⟩ = some (Value.int .i64 op) ∧ uu.cell? ⟨b0, 1, none⟩ = some (Value.int .i64 vr) ∧ uu.cell? ⟨b0, 2, none⟩ = some (Value.int .i64 aa) ∧ uu.cell? ⟨b0, 3, none⟩ = some (Value.int .i64 bb) ∧ uu.cell? ⟨b0, 4, none⟩ = some (Value.int .i64 bw) ∧ uu.cell? ⟨b0, 5, none⟩ = some (Value.slice wa nw wc)) q3) := ⟨c0_3, c1_3, c2_3, c3_3, c4_3, c5_3, c6_3⟩
   refine hK _ _ (Sx.before (by kernel_rfl) hs3.out) ?_
   clear hK K
   try go_simp
   refine tkU (i := 20) (v := Value.pointer (some ⟨s, 0, none⟩)) rfl (Sx.before (by kernel_rfl) hs3.out) ?_
   try go_simp
   refine tkU (i := 21) (v := Value.pointer (some ⟨s, 0, none⟩)) rfl (Sx.before (by kernel_rfl) hs3.out) ?_
   try go_simp
   refine rdX (rs := [22]) (AllX.cons rfl (fun K hK => ?_) AllX.nil)
   have e0 : q3.cell? ⟨s, 0, none⟩ = some (Value.slice va ln vc) := XS3.out.cell 0
   have f0 := XS3.out.froz 0
   go_simp
   have XS4 : Hid (Bz (q3.setCell ⟨s, 0, none⟩ (Value.slice (some ⟨g7, 0, none⟩) (ln + 1) c8)) s #[.slice (some ⟨g7, 0, none⟩) (ln + 1) c8, .map (some g)] 88) := XS3.out.set 0 _
   have TS4 : Hid (Ts (q3.setCell ⟨s, 0, none⟩ (Value.slice (some ⟨g7, 0, none⟩) (ln + 1) c8)) B (Value.slice (some ⟨g7, 0, none⟩) (ln + 1) c8) (l ++ [(⟨⟨op, vr, aa, bb, bw, ws, ks⟩, a7, c7, ka, kc⟩ : Tg)])) := ⟨TS3.out.row.move (fun b hb => heap_setCell_other _ _ _ _ (fun e => by simp at e; subst e; exact nsvN XS3.out (by decide) TS3.out.row hb.symm)), fun x hx => nw_set (TS3.out.wn x hx) XS3.out (by decide) 0 _, fun x hx => ni_set (TS3.out.kn x hx) XS3.out (by decide) 0 _, TS3.out.wd, TS3.out.kd⟩
   have MM4 : Hid (World.ownsMap (q3.setCell ⟨s, 0, none⟩ (Value.slice (some ⟨g7, 0, none⟩) (ln + 1) c8)) Tryz.prog 114 (plainElem Tryz.prog 2) g (ln + 1) (D.put kl (.lit (.int .i64 (ln : Int))))) := own_belowN MM3.out (fun hl => heap_setCell_other _ _ _ _ (fun e => by simp at e; subst e; obtain ⟨es, ck, hm⟩ := own_isMapN MM3.out; have := XS3.out; unfold Bz at this; rw [hm] at this; cases this))
   have KK4 := kide (KK3.out.trans (FrA.set (i := 0) (u := Value.slice (some ⟨g7, 0, none⟩) (ln + 1) c8)))
   clear e0 f0
   generalize q3.setCell ⟨s, 0, none⟩ (Value.slice (some ⟨g7, 0, none⟩) (ln + 1) c8) = q4 at *
   refine hK _ _ (Sx.behind (by kernel_rfl) trivial) ?_
   clear hK K
   try go_simp
   refine wpAnyX_done (by kernel_rfl) ?_ _
   go_wp2_with fail
   exact bodyPost_ret (v := Value.int .i64 (ln : Int)) (by simp [results, Tryz.results42, go_sem]) rfl ⟨Value.slice (some ⟨g7, 0, none⟩) (ln + 1) c8, (D.put kl (.lit (.int .i64 (ln : Int)))), l ++ [(⟨⟨op, vr, aa, bb, bw, ws, ks⟩, a7, c7, ka, kc⟩ : Tg)], ln, rfl, ⟨TS4.out, XS4.out, by rw [List.length_append, HLN.out]; exact MM4.out, by rw [List.map_append]; simp only [List.map]; rw [HMD.out]; exact HAK.out, HLE.out⟩, by rw [HLN.out]; exact KK4.out, by rw [HLN.out]; exact HAT.out, fun x hx => by (rcases List.mem_append.1 hx with hx | hx); exact .inl hx; simp at hx; subst hx; exact .inr HKP.out, by rw [fndT_not HNI.out]; exact ⟨HLN.out.symm, by rw [List.map_append]; simp only [List.map]; rw [HMD.out]⟩⟩
theorem arenaAdd_any (B s g N : Nat) (v : Value) (D : DataW Unit) (l : List Tg) (nd : Tc) (wa nka ka : Option Addr) (wc nkn nkc kc : Nat) (ks : List Int) (w : World) (ha : Ar w B s g v D l) (hr : Rd w wa nd.ws) (hw0 : wa = none → wc = 0) (hk : Ni w N ka ks) (hN : ∀ x ∈ l, (∀ p, x.wa = some p → p.block < N) ∧ ∀ p, x.ka = some p → p.block < N) (hBN : B ≤ N) (hNw : N ≤ w.heap.size) (hx : okN ⟨nd.op, nd.vr, nd.a, nd.b, nd.bw, nd.ws, ks⟩) (hl : l.length ≤ 100000) :
  Calls Tryz.prog 42 #[.pointer (some ⟨s, 0, none⟩), .agg #[.int .i64 nd.op, .int .i64 nd.vr, .int .i64 nd.a, .int .i64 nd.b, .int .i64 nd.bw, .slice wa nd.ws.length wc, .slice nka nkn nkc], .slice ka ks.length kc] w (RetAd B s g N v l ⟨nd.op, nd.vr, nd.a, nd.b, nd.bw, nd.ws, ks⟩ w) :=
 arenaAddG_any B s g N N v D l nd wa nka ka wc nkn nkc kc ks w ha hr hw0 hk (fun x hx => (hN x hx).1) (fun x hx p q hp hq => by have h1 := (hN x hx).2 p hp; have h2 := (ni_lt hk hq).1; omega) hBN hBN hNw hx hl

open Go.RowKit Go.WideMaps Go.Maps Go.MapKept Go.ChangeMaps
theorem make_nodes (w : World) : (Instr.makeMap 86 none).run Tryz.prog w = .ok (.map (some w.heap.size)) (w.alloc (.map #[] 0)) := by
 have h := Tryz.underlying86
 simp [Instr.makeMap, go_sem, h]
theorem newArena_any (w : World) : Calls Tryz.prog 39 #[] w fun e w' => ∃ s g, e = .returned (.pointer (some ⟨s, 0, none⟩)) ∧ Ar w' w.heap.size s g (.slice none 0 0) (.map []) [] ∧ Below w.heap.size w w' := by
 have hmm := make_nodes
 go_enter Tryz.func39, Tryz.ntmps39
 go_wp2_with fail
 go_ret
 have o4 : (w.alloc (.map #[] 0)).ownsMap Tryz.prog 114 (plainElem Tryz.prog 2) w.heap.size 0 (.map [] : DataW Unit) := World.ownsMap_made _ _ _ _
 have hb1 : Below w.heap.size w (w.alloc (.map #[] 0)) := blA _ _
 have hb2 : Below (w.alloc (.map #[] 0)).heap.size (w.alloc (.map #[] 0)) ((w.alloc (.map #[] 0)).alloc (Obj.cells #[.slice none 0 0, Value.map (some w.heap.size)] 88)) := blA _ _
 refine ⟨_, w.heap.size, rfl, ⟨Ts.nil _ _, ?_, own_belowN o4 (fun hl => hb2.block _ hl), Ak.start, by simp, Nat.le_refl _⟩, hb1.trans (hb2.mono hb1.size)⟩
 have h9 := Bz.new (w.alloc (.map #[] 0)) #[.slice none 0 0, Value.map (some w.heap.size)] 88
 rw [show (w.alloc (Obj.map #[] 0)).heap.size = w.heap.size + 1 by simp] at h9
 exact h9

open Go.RowKit Go.WideMaps Go.Maps Go.MapKept Go.ChangeMaps
theorem Below.fr {w0 u u' : World} {B s g : Nat} {v : Value} {D : DataW Unit} {l : List Tg} (h : Below B w0 u) (hB : B ≤ u.heap.size) (ha : Ar u B s g v D l) (hf : FrA s g v u u') : Below B w0 u' :=
 ⟨hf.1.trans h.os, hf.2.1.trans h.tape, hf.2.2.1.trans h.output, Nat.le_trans h.size hf.2.2.2.1, fun k hk => (hf.2.2.2.2 k (by omega) (fun e => by have := ha.le; omega) (fun e => by have := ha.le; omega) (fun e => by have := (ha.ts.row.lt e).1; omega)).trans (h.block k hk)⟩
end Go.Proofs.YtnpjgoklpaigjaaGreatDoor
