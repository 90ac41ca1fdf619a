/- All hedges of a graph. -/
import Derived.Test.YthoiajpbpoglfaaZKAG
import Derived.Test.YthoiajpbpoglfaaZKAD
namespace Go.Proofs.Ythoiajpbpoglfaa
set_option linter.unusedVariables false
set_option linter.unusedSimpArgs false
open Go.RowKit Go.WideMaps Go.Maps Go.MapKept Go.ChangeMaps

theorem make_bset (w : World) : (Instr.makeMap 114 none).run Try.prog w = .ok (.map (some w.heap.size)) (w.alloc (.map #[] 0)) := by
  have h := Try.underlying114
  simp [Instr.makeMap, go_sem, h]

theorem newBarSet_any (w : World) : Calls Try.prog 73 #[] w fun e w' => ∃ s, e = .returned (.pointer (some ⟨s, 0, none⟩)) ∧ Bset w' w.heap.size s [] ∧ Below w.heap.size w w' := by
  have hmm := make_bset
  go_enter Try.func73, Try.ntmps73
  go_wp2_with fail
  go_ret
  have o4 : (w.alloc (.map #[] 0)).ownsMap Try.prog 132 unitElem w.heap.size 0 (.map [] : DataW Unit) := World.ownsMap_made _ _ _ _
  have hb1 : Below w.heap.size w (w.alloc (.map #[] 0)) := (Below.refl _ _).alloc (Nat.le_refl _) _
  have hb2 : Below (w.alloc (.map #[] 0)).heap.size (w.alloc (.map #[] 0)) ((w.alloc (.map #[] 0)).alloc (Obj.cells #[Value.slice none 0 0, Value.map (some w.heap.size)] 116)) := (Below.refl _ _).alloc (Nat.le_refl _) _
  refine ⟨_, rfl, ⟨w.heap.size, .slice none 0 0, .map [], OB4.nil _ _, ?_, own_below o4 (fun hl => hb2.block _ hl), Sk.start, by simp, Nat.le_refl _⟩, hb1.trans (hb2.mono hb1.size)⟩
  have h9 := Bz.new (w.alloc (.map #[] 0)) #[Value.slice none 0 0, Value.map (some w.heap.size)] 116
  rw [show (w.alloc (Obj.map #[] 0)).heap.size = w.heap.size + 1 by simp] at h9
  exact h9

/-- A bar with its lesser node ahead. -/
def nrmC (s : Yc) : Yc := if s.lo = -1 then s else ⟨min s.v s.lo, max s.v s.lo, s.bw, s.ws⟩
def nrmG (x : Yg) : Yg := ⟨nrmC x.ct, x.a, x.c⟩

/-- What a set holds behind these. -/
def setG (l : List Yg) (xs : List Yg) : List Yg := xs.foldl putG l

theorem putG_len (l : List Yg) (x : Yg) : (putG l x).length ≤ l.length + 1 := by
  unfold putG; split <;> simp
theorem setG_len (xs : List Yg) : ∀ l, (setG l xs).length ≤ l.length + xs.length := by
  induction xs with
  | nil => intro l; simp [setG]
  | cons x t ih =>
    intro l
    have h1 := ih (putG l x)
    have h2 := putG_len l x
    simp only [setG, List.foldl_cons, List.length_cons] at *
    omega
theorem setG_step {xs : List Yg} {k : Nat} {x : Yg} (h : xs[k]? = some x) (l : List Yg) : setG l ((xs.take (k + 1)).map nrmG) = putG (setG l ((xs.take k).map nrmG)) (nrmG x) := by
  rw [List.take_add_one, h]
  simp [setG, List.foldl_append]
theorem nrmC_ws (s : Yc) : (nrmC s).ws = s.ws := by unfold nrmC; split <;> rfl
theorem Bset.later {w w' : World} {B s : Nat} {l : List Yg} (h : Bset w B s l) (hb : Below w.heap.size w w') : Bset w' B s l := by
  obtain ⟨g, v, D, h1, h2, h3, h4, h5⟩ := h
  exact ⟨g, v, D, h1.later hb, Bz.later (u := w) h2 hb, own_below h3 (fun hl => hb.block g hl), h4, h5⟩
theorem okY_of {w : World} {b o : Nat} {x : Yg} (h : YgAt w b o x) : okY (nrmC x.ct) := by
  obtain ⟨-, hr, h1, h2, h3⟩ := h
  unfold nrmC
  split
  · exact ⟨h1, h2, h3, hr.2.1, hr.1⟩
  · unfold in64 at h1 h2
    exact ⟨by unfold in64; simp only []; omega, by unfold in64; simp only []; omega, h3, hr.2.1, hr.1⟩

/-- The crowds with a bar more. -/
def stepC (cr : Nat → Int) (s : Yc) : Nat → Int :=
  if s.lo = -1 then upd cr s.v.toNat (cr s.v.toNat + 1)
  else upd (upd cr s.v.toNat (cr s.v.toNat + 1)) s.lo.toNat (upd cr s.v.toNat (cr s.v.toNat + 1) s.lo.toNat + 1)
def crF (ys : List Yc) : Nat → Int := ys.foldl stepC (fun _ => 0)
theorem crF_step {ys : List Yc} {k : Nat} {s : Yc} (h : ys[k]? = some s) : crF (ys.take (k + 1)) = stepC (crF (ys.take k)) s := by
  rw [List.take_add_one, h]
  simp [crF, List.foldl_append]
theorem stepC_le {cr : Nat → Int} {s : Yc} {K : Int} (h : ∀ i, 0 ≤ cr i ∧ cr i ≤ K) : ∀ i, 0 ≤ stepC cr s i ∧ stepC cr s i ≤ K + 2 := by
  intro i
  have h1 := h i
  have h2 := h s.v.toNat
  have h3 := h s.lo.toNat
  by_cases e : s.lo = -1
  · rw [show stepC cr s = _ from if_pos e]
    unfold upd
    split <;> omega
  · rw [show stepC cr s = _ from if_neg e]
    unfold upd
    by_cases e1 : i = s.lo.toNat
    · rw [if_pos e1]
      split <;> omega
    · rw [if_neg e1]
      split <;> omega
theorem crF_le (ys : List Yc) : ∀ k i, 0 ≤ crF (ys.take k) i ∧ crF (ys.take k) i ≤ 2 * k := by
  intro k
  induction k with
  | zero => intro i; simp [crF]
  | succ k ih =>
    intro i
    cases h : ys[k]? with
    | none =>
      rw [List.take_add_one, h]
      have := ih i
      simp at *
      omega
    | some s =>
      rw [crF_step h]
      have := stepC_le (s := s) ih i
      omega

theorem Try.infoHedge : (Try.prog.info? 83).map (fun i => (i.zero, i.size, i.bytes)) = some (some (.agg #[.slice none 0 0, .map none, .int .i64 0]), 3, 40) := by kernel_rfl
theorem make_hedges (n : Nat) (hn : n ≤ 1048576) (kl kc : IntKind) (w : World) :
    (Instr.makeSlice 67 (.int kl (n : Int)) (.int kc (n : Int))).run Try.prog w = .ok (.slice (some ⟨w.heap.size, 0, none⟩) n n) (w.alloc (.cells (madeCells #[.slice none 0 0, .map none, .int .i64 0] (n * 3)) 83)) := by
  obtain ⟨i0, hi, hz0, hz1, hz2⟩ := info_parts Try.infoHedge
  have := run_make (P := Try.prog) w 67 83 i0 _ Try.underlying67 hi hz0 kl kc n n (by omega) (Int.le_refl _) (by rw [hz2]; omega) (by omega)
  rw [hz1] at this
  simp only [Int.toNat_natCast] at this
  exact this

theorem Hg.start (w : World) (n : Nat) : HgE (w.alloc (.cells (madeCells #[.slice none 0 0, .map none, .int .i64 0] (n * 3)) 83)) w.heap.size w.heap.size n 0 (fun _ => 0) := by
  refine ⟨fun _ => .slice none 0 0, fun _ => .map none, ⟨_, heap_alloc_new _ _, fun i hi => ?_⟩, Nat.le_refl _, fun i hi => ⟨([] : List Value), ⟨rfl, Or.inl ⟨rfl, rfl⟩⟩, Nat.le_refl 0⟩, fun i j b _ _ _ h => by simp [Value.ownBlock] at h, fun i hi => Or.inl rfl⟩
  have e0 : (i * 3) % 3 = 0 := by omega
  have e1 : (i * 3 + 1) % 3 = 1 := by omega
  have e2 : (i * 3 + 2) % 3 = 2 := by omega
  refine ⟨?_, ?_, ?_⟩
  · simp [madeCells, e0, show i * 3 < n * 3 by omega]
  · simp [madeCells, e1, show i * 3 + 1 < n * 3 by omega]
  · simp [madeCells, e2, show i * 3 + 2 < n * 3 by omega]

theorem setG_mem {xs : List Yg} : ∀ {l : List Yg} {y : Yg}, y ∈ setG l xs → y ∈ l ∨ y ∈ xs := by
  induction xs with
  | nil => intro l y h; exact .inl h
  | cons x t ih =>
    intro l y h
    rcases ih (l := putG l x) h with h | h
    · unfold putG at h
      split at h
      · exact .inl h
      · rcases List.mem_append.1 h with h | h
        · exact .inl h
        · simp at h; subst h; exact .inr (by simp)
    · exact .inr (List.mem_cons_of_mem _ h)

/-- What a bar of a right graph has, its lesser node ahead. -/
def gdY (n : Nat) (s : Yc) : Prop := (0 ≤ s.v ∧ s.v < n) ∧ ((s.lo = -1 ∧ 0 < s.ws.length) ∨ (s.lo ≠ -1 ∧ 0 ≤ s.lo ∧ s.lo < n))

set_option maxHeartbeats 4000000 in
set_option maxRecDepth 100000 in
theorem hedgesOf_any (z : Gz) (w : World) (hz : RdG w z) (hgd : ∀ x ∈ z.bs, gdY z.ks.length (nrmC x.ct)) (hk200 : z.ks.length ≤ 1048576) (hb1000 : z.bs.length ≤ 1000) :
    Calls Try.prog 49 #[z.val] w fun e w' => ∃ H, e = .returned (.slice (some ⟨H, 0, none⟩) z.ks.length z.ks.length) ∧ (∀ i, i < z.ks.length → w'.cell? ⟨H, i * 3 + 2, none⟩ = some (.int .i64 (crF ((setG [] (z.bs.map nrmG)).map Yg.ct) i))) ∧ Below w.heap.size w w' := by
  obtain ⟨a1, c1, ks, a2, c2, bs⟩ := z
  obtain ⟨hz1, hz2⟩ := hz
  simp only [Gz.val] at *
  have HGD := kide hgd
  have hn2 := hz2.1
  have HN := kide (newBarSet_any)
  have hb0 : Below w.heap.size w (w.alloc (Obj.cells #[Value.slice a1 ks.length c1, Value.slice a2 bs.length c2] 32)) := (Below.refl _ _).alloc (Nat.le_refl _) _
  have X0 := kide (Bz.new w #[Value.slice a1 ks.length c1, Value.slice a2 bs.length c2] 32)
  have HZ2 := kide (hz2.later hb0)
  have BW := kide hb0
  obtain ⟨n1, e1⟩ : ∃ n1, ks.length = n1 := ⟨_, rfl⟩
  obtain ⟨n2, e2⟩ : ∃ n2, bs.length = n2 := ⟨_, rfl⟩
  rw [e1, e2] at X0 HZ2 BW
  rw [e1] at HGD hk200
  rw [e1, e2]
  rw [e2] at hn2 hb1000
  have HE1 := kide e1
  have HE2 := kide e2
  have HMK := kide (make_hedges n1 hk200)
  have HHZ := kide (hz2)
  clear hz1 hz2 hb0 e1 e2 hgd
  go_enter Try.func49, Try.ntmps49
  go_wp2_with fail
  generalize w.alloc (Obj.cells #[Value.slice a1 n1 c1, Value.slice a2 n2 c2] 32) = W at *
  obtain ⟨b0, hb0⟩ : ∃ b0, w.heap.size = b0 := ⟨_, rfl⟩
  rw [hb0] at X0
  simp only [hb0]
  clear hb0
  refine Calls.mono (HN.out _) ?_
  rintro e w1 ⟨s, rfl, hs1, hb1⟩
  have X1 := kide (X0.out.later hb1)
  have g1 : w1.cell? ⟨b0, 1, none⟩ = some (Value.slice a2 n2 c2) := X1.out.cell 1
  have S1 := kide hs1
  have B1 := kide hb1
  clear hs1 hb1 HN
  go_wp2_with fail
  go_loopw [13] (fun q wr => ∃ k : Nat, k ≤ n2 ∧ q = .int .i64 (k : Int) ∧ Bset wr W.heap.size s (setG [] ((bs.take k).map nrmG)) ∧ Below W.heap.size W wr) (fun q _ => n2 - (intOf q).toNat)
  case atStart => exact ⟨0, Nat.zero_le _, rfl, S1.out, B1.out⟩
  case round =>
    obtain ⟨k, hk, rfl, hs, hb⟩ := hrel
    clear g1
    have HB := kide hb
    have hlen : (setG [] ((bs.take k).map nrmG)).length ≤ 1048576 := by have h9 := setG_len ((bs.take k).map nrmG) []; rw [List.length_map, List.length_take, List.length_nil] at h9; omega
    by_cases hlt : k < n2
    · have i0 : (k : Int) < (n2 : Int) := by omega
      obtain ⟨x, gx⟩ : ∃ x, bs[k]? = some x := ⟨bs[k]'(by rw [HE2.out]; exact hlt), List.getElem?_eq_getElem _⟩
      have hst := setG_step gx []
      generalize setG [] ((bs.take k).map nrmG) = l at *
      have HST := kide hst
      obtain ⟨-, h | ⟨b, o, rfl, hc⟩⟩ := HZ2.out.later hb
      · rw [h] at gx; simp at gx
      have hy := hc k x gx
      obtain ⟨⟨p0, p1, p2, p3⟩, pr, q1, q2, q3⟩ := hc k x gx
      have HADD := kide (fun u (hu : Below wr.heap.size wr u) => add_any W.heap.size s l (nrmG x) u (hs.later hu) (show Rd u x.a (nrmC x.ct).ws by rw [nrmC_ws]; exact pr.later hu) (okY_of hy) hlen)
      obtain ⟨⟨xv, xlo, xbw, xws⟩, xa, xc⟩ := x
      simp only [Yg.hd] at p0 p1 p2 p3 pr q1 q2 q3
      have hzb := hb.size
      clear hc hy hst gx hs hb
      by_cases hlo : xlo = -1
      · subst hlo
        have hN : nrmG ⟨⟨xv, -1, xbw, xws⟩, xa, xc⟩ = ⟨⟨xv, -1, xbw, xws⟩, xa, xc⟩ := by simp [nrmG, nrmC]
        rw [hN] at HADD HST
        simp only [] at HADD
        clear hN
        have hbx : Below wr.heap.size wr (wr.alloc (Obj.cells #[Value.int .i64 xv, Value.int .i64 (-1), Value.int .i64 xbw, Value.slice xa xws.length xc] 86)) := (Below.refl _ _).alloc (Nat.le_refl _) _
        have HC := kide (HADD.out _ hbx)
        have HBX := kide (HB.out.trans (hbx.mono hzb))
        clear hbx HADD
        go_wp2_with fail
        refine Calls.mono HC.out ?_
        rintro e w3 ⟨rfl, hs3, hb3, -⟩
        have S3 := kide hs3
        have B3 := kide (HBX.out.trans hb3)
        clear hs3 hb3 HC HBX
        go_wp2_with fail
        go_roundw
        case rel => exact ⟨k + 1, by omega, by go_num, by rw [HST.out]; exact S3.out, B3.out⟩
        case measure => simp [intOf]; omega
      · by_cases hvl : xv ≤ xlo
        · have hm1 : min xv xlo = xv := by omega
          have hm2 : max xv xlo = xlo := by omega
          have hN : nrmG ⟨⟨xv, xlo, xbw, xws⟩, xa, xc⟩ = ⟨⟨xv, xlo, xbw, xws⟩, xa, xc⟩ := by simp [nrmG, nrmC, hlo, hm1, hm2]
          rw [hN] at HADD HST
          simp only [] at HADD
          clear hN
          have hbx : Below wr.heap.size wr (wr.alloc (Obj.cells #[Value.int .i64 xv, Value.int .i64 xlo, Value.int .i64 xbw, Value.slice xa xws.length xc] 86)) := (Below.refl _ _).alloc (Nat.le_refl _) _
          have HC := kide (HADD.out _ hbx)
          have HBX := kide (HB.out.trans (hbx.mono hzb))
          clear hbx HADD
          go_wp2_with fail
          refine Calls.mono HC.out ?_
          rintro e w3 ⟨rfl, hs3, hb3, -⟩
          have S3 := kide hs3
          have B3 := kide (HBX.out.trans hb3)
          clear hs3 hb3 HC HBX
          go_wp2_with fail
          go_roundw
          case rel => exact ⟨k + 1, by omega, by go_num, by rw [HST.out]; exact S3.out, B3.out⟩
          case measure => simp [intOf]; omega
        · have hm1 : min xv xlo = xlo := by omega
          have hm2 : max xv xlo = xv := by omega
          have hN : nrmG ⟨⟨xv, xlo, xbw, xws⟩, xa, xc⟩ = ⟨⟨xlo, xv, xbw, xws⟩, xa, xc⟩ := by simp [nrmG, nrmC, hlo, hm1, hm2]
          rw [hN] at HADD HST
          simp only [] at HADD
          clear hN
          have hbx : Below wr.heap.size wr (wr.alloc (Obj.cells #[Value.int .i64 xlo, Value.int .i64 xv, Value.int .i64 xbw, Value.slice xa xws.length xc] 86)) := (Below.refl _ _).alloc (Nat.le_refl _) _
          have HC := kide (HADD.out _ hbx)
          have HBX := kide (HB.out.trans (hbx.mono hzb))
          clear hbx HADD
          go_wp2_with fail
          refine Calls.mono HC.out ?_
          rintro e w3 ⟨rfl, hs3, hb3, -⟩
          have S3 := kide hs3
          have B3 := kide (HBX.out.trans hb3)
          clear hs3 hb3 HC HBX
          go_wp2_with fail
          go_roundw
          case rel => exact ⟨k + 1, by omega, by go_num, by rw [HST.out]; exact S3.out, B3.out⟩
          case measure => simp [intOf]; omega
    · have e : k = n2 := by omega
      subst e
      rw [List.take_of_length_le (by rw [HE2.out]; exact Nat.le_refl _)] at hs hlen
      clear hlt
      obtain ⟨g3, v3, D3, o3, x3, -, -, -⟩ := hs
      have hlen2 : (setG [] (bs.map nrmG)).length ≤ k := by have h9 := setG_len (bs.map nrmG) []; rw [List.length_map, List.length_nil, HE2.out] at h9; omega
      have HEL : Hid (∀ (i : Nat) (x : Yg), (setG [] (bs.map nrmG))[i]? = some x → gdY n1 x.ct ∧ (0 < x.ct.ws.length → Rd W x.a x.ct.ws ∧ ∀ (b o : Nat) (sp : Option Nat), x.a = some ⟨b, o, sp⟩ → b < W.heap.size)) := fun i x hi => by
        rcases setG_mem (List.mem_of_getElem? hi) with h | h
        · cases h
        · obtain ⟨y, hy, rfl⟩ := List.mem_map.1 h
          refine ⟨HGD.out y hy, fun h0 => ?_⟩
          have hy2 : Rd W y.a (nrmC y.ct).ws := by
            rw [nrmC_ws]
            obtain ⟨-, h | ⟨b, o, e, hc⟩⟩ := HZ2.out
            · rw [h] at hy; cases hy
            · obtain ⟨j, hj, ej⟩ := List.mem_iff_getElem.1 hy
              exact (hc j y (by rw [List.getElem?_eq_getElem hj, ej])).2.1
          refine ⟨hy2, fun b o sp e => ?_⟩
          obtain ⟨-, -, h | ⟨b', o', e', hc⟩⟩ := hy2
          · simp only [nrmG] at h0
            rw [h] at h0; simp at h0
          · simp only [nrmG] at e h0
            rw [e'] at e
            cases e
            exact block_lt_of_cell (hc 0 h0)
      have HCR : Hid (∀ (i : Nat) (x : Yg), (setG [] (bs.map nrmG))[i]? = some x → crF (((setG [] (bs.map nrmG)).map Yg.ct).take (i + 1)) = stepC (crF (((setG [] (bs.map nrmG)).map Yg.ct).take i)) x.ct) := fun i x hi => crF_step (by simp [hi])
      have HCL : Hid (∀ i j, 0 ≤ crF (((setG [] (bs.map nrmG)).map Yg.ct).take i) j ∧ crF (((setG [] (bs.map nrmG)).map Yg.ct).take i) j ≤ 2 * i) := fun i j => crF_le _ i j
      have HCZ : Hid (crF (((setG [] (bs.map nrmG)).map Yg.ct).take (setG [] (bs.map nrmG)).length) = crF ((setG [] (bs.map nrmG)).map Yg.ct)) := by
        show _ = _
        rw [List.take_of_length_le (by simp)]
      obtain ⟨CR, hCR⟩ : ∃ CR, crF ((setG [] (bs.map nrmG)).map Yg.ct) = CR := ⟨_, rfl⟩
      rw [hCR] at HCZ
      have HCR0 := kide hCR
      clear hCR
      obtain ⟨cf, hcf⟩ : ∃ cf : Nat → Nat → Int, ∀ i, cf i = crF (((setG [] (bs.map nrmG)).map Yg.ct).take i) := ⟨fun i => crF (((setG [] (bs.map nrmG)).map Yg.ct).take i), fun _ => rfl⟩
      simp only [← hcf] at HCR HCL HCZ
      have HC0 : Hid (cf 0 = fun _ => 0) := by show _ = _; rw [hcf]; simp [crF]
      clear hcf
      obtain ⟨l, hl⟩ : ∃ l, setG [] (bs.map nrmG) = l := ⟨_, rfl⟩
      rw [hl] at o3 hlen2 HEL HCR HCZ
      clear hl hlen
      obtain ⟨n3, hn3⟩ : ∃ n3, l.length = n3 := ⟨_, rfl⟩
      have X3 := kide (Bz.later X0.out hb)
      have O3 := kide o3
      have XS3 : Hid (Bz wr s #[v3, .map (some g3)] 116) := x3
      have gg0 : wr.cell? ⟨b0, 0, none⟩ = some (Value.slice a1 n1 c1) := X3.out.cell 0
      have ss0 : wr.cell? ⟨s, 0, none⟩ = some v3 := XS3.out.cell 0
      obtain ⟨av, cv, rfl⟩ := o3.form
      have hmk := HMK.out
      clear o3 x3 hb HZ2 X0 X1 S1 B1
      rw [hn3] at hlen2 ss0 O3 HCZ XS3
      have HN3 := kide hn3
      clear hn3
      have hbm : Below wr.heap.size wr (wr.alloc (.cells (madeCells #[.slice none 0 0, .map none, .int .i64 0] (n1 * 3)) 83)) := (Below.refl _ _).alloc (Nat.le_refl _) _
      have zs0 : (wr.alloc (.cells (madeCells #[.slice none 0 0, .map none, .int .i64 0] (n1 * 3)) 83)).cell? ⟨s, 0, none⟩ = some (Value.slice av n3 cv) := (Bz.later XS3.out hbm).cell 0
      have HG0 := kide (Hg.start wr n1)
      have O4 := kide (O3.out.later hbm)
      have BM4 := kide hbm
      have hzW := HB.out.size
      clear hbm HMK XS3 X3
      go_wp2_with fail
      generalize (wr.alloc (.cells (madeCells #[.slice none 0 0, .map none, .int .i64 0] (n1 * 3)) 83)) = V at *
      clear hmk zs0 ss0 gg0
      have hBV : wr.heap.size ≤ V.heap.size := BM4.out.size
      have HOL : Hid (∀ u, Below wr.heap.size wr u → OB4 u W.heap.size (Value.slice av n3 cv) l) := fun u hu => OB4.later O3.out hu
      obtain ⟨wo, hwo⟩ : ∃ wo, wo = wr := ⟨_, rfl⟩
      subst hwo
      obtain ⟨V0, hV0⟩ : ∃ V0, wo.heap.size = V0 := ⟨_, rfl⟩
      have BWV : Hid (∀ u, Below V0 wo u → Below W.heap.size W u) := fun u hu => HB.out.trans (by rw [← hV0] at hu; exact hu.mono hzW)
      have BWW : Hid (∀ u, Below V0 wo u → Below w.heap.size w u) := fun u hu => BW.out.trans ((BWV.out u hu).mono BW.out.size)
      have hWV2 : Hid (V0 ≤ wo.heap.size) := by show _ ≤ _; rw [hV0]; exact Nat.le_refl _
      rw [hV0] at HOL HG0 hBV hzW BM4
      simp only [hV0]
      clear hV0 O3 O4
      go_loopw [45] (fun q wr => ∃ k : Nat, k ≤ n3 ∧ q = .int .i64 (k : Int) ∧ HgE wr V0 V0 n1 (2 * k) (cf k) ∧ Below V0 wo wr ∧ V0 ≤ wr.heap.size) (fun q _ => n3 - (intOf q).toNat)
      case atStart => exact ⟨0, Nat.zero_le _, rfl, by rw [HC0.out]; exact HG0.out, BM4.out, hBV⟩
      case round =>
        obtain ⟨q9, hk9, rfl, ⟨ov, mv, hg⟩, hb9, hsz9⟩ := hrel
        have B9 := kide hb9
        by_cases hlt : q9 < n3
        · obtain ⟨x, gx⟩ : ∃ x, l[q9]? = some x := ⟨l[q9]'(by rw [HN3.out]; exact hlt), List.getElem?_eq_getElem _⟩
          obtain ⟨⟨hv, hor⟩, hws⟩ := HEL.out q9 x gx
          have hcr := HCR.out q9 x gx
          have hcl := HCL.out q9
          obtain ⟨g4, c4, e4, p0, p1, p2, p3⟩ := (HOL.out _ hb9).at gx
          cases e4
          have i0 : (q9 : Int) < (l.length : Int) := by omega
          obtain ⟨⟨xv, xlo, xbw, xws⟩, xa, xc⟩ := x
          simp only [] at *
          obtain ⟨i, rfl⟩ : ∃ i : Nat, xv = (i : Int) := ⟨xv.toNat, by omega⟩
          obtain ⟨xn, hxn9⟩ : ∃ xn, xws.length = xn := ⟨_, rfl⟩
          rw [hxn9] at p3 hws hor
          have HXN := kide hxn9
          clear hxn9 gx
          have hi9 : i < n1 := by omega
          have hi8 : (i : Int) < (n1 : Int) := by omega
          have hcli : 0 ≤ cf q9 i ∧ cf q9 i ≤ 1048576 := by have := hcl i; omega
          have hbx : Below wr.heap.size wr (wr.alloc (Obj.cells #[Value.int .i64 (i : Int), Value.int .i64 xlo, Value.int .i64 xbw, Value.slice xa xn xc] 86)) := (Below.refl _ _).alloc (Nat.le_refl _) _
          have X8 := kide (Bz.new wr #[Value.int .i64 (i : Int), Value.int .i64 xlo, Value.int .i64 xbw, Value.slice xa xn xc] 86)
          have G8 := kide (hg.later hbx)
          have B8 := kide (hb9.trans (hbx.mono hsz9))
          have HCRR := kide hcr
          have HCLL := kide hcl
          have hz8 : V0 ≤ (wr.alloc (Obj.cells #[Value.int .i64 (i : Int), Value.int .i64 xlo, Value.int .i64 xbw, Value.slice xa xn xc] 86)).heap.size := by have := hbx.size; omega
          clear hg hb9 hbx hcr hcl
          rcases hor with ⟨rfl, hpos⟩ | ⟨hne, hl0, hl1⟩
          · obtain ⟨hrd, hfar⟩ := hws hpos
            have HRD := kide hrd
            have HFAR := kide hfar
            have HFN : Hid (cf (q9 + 1) = upd (cf q9) i (cf q9 i + 1)) := by show _ = _; rw [HCRR.out]; simp [stepC]
            clear hrd hfar hws HCRR
            go_wp2_with fail
            generalize wr.alloc (Obj.cells #[Value.int .i64 (i : Int), Value.int .i64 (-1), Value.int .i64 xbw, Value.slice xa xn xc] 86) = V2 at *
            obtain ⟨b8, hb8⟩ : ∃ b8, wr.heap.size = b8 := ⟨_, rfl⟩
            rw [hb8] at X8
            simp only [hb8]
            clear hb8 p0 p1 p2 p3
            refine wp_region_x (SA := fun _ => False) (SB := fun uu => uu.cell? ⟨b8, 0, none⟩ = some (Value.int .i64 (i : Int)) ∧ uu.cell? ⟨b8, 1, none⟩ = some (Value.int .i64 (-1)) ∧ uu.cell? ⟨b8, 2, none⟩ = some (Value.int .i64 xbw) ∧ uu.cell? ⟨b8, 3, none⟩ = some (Value.slice xa xn xc)) (k := 999) (by kernel_rfl) ?_
            have hbd : Below V2.heap.size V2 V2.drew := (Below.refl _ _).drew
            have X8_0 := kide (Bz.later X8.out hbd)
            have G_0 := kide (G8.out.later hbd)
            have B_0 := kide (B8.out.trans (hbd.mono (Nat.le_trans hWV2.out B8.out.size)))
            clear hbd X8 G8 B8
            generalize V2.drew = u0 at *
            have c0_0 : u0.cell? ⟨b8, 0, none⟩ = some (Value.int .i64 (i : Int)) := X8_0.out.cell 0
            have c1_0 : u0.cell? ⟨b8, 1, none⟩ = some (Value.int .i64 (-1)) := X8_0.out.cell 1
            have c2_0 : u0.cell? ⟨b8, 2, none⟩ = some (Value.int .i64 xbw) := X8_0.out.cell 2
            have c3_0 : u0.cell? ⟨b8, 3, none⟩ = some (Value.slice xa xn xc) := X8_0.out.cell 3
            have hs0 : Hid ((fun uu => uu.cell? ⟨b8, 0, none⟩ = some (Value.int .i64 (i : Int)) ∧ uu.cell? ⟨b8, 1, none⟩ = some (Value.int .i64 (-1)) ∧ uu.cell? ⟨b8, 2, none⟩ = some (Value.int .i64 xbw) ∧ uu.cell? ⟨b8, 3, none⟩ = some (Value.slice xa xn xc)) u0) := ⟨c0_0, c1_0, c2_0, c3_0⟩
            try go_simp
            refine wpAnyX_both (T := (fun _ => True)) (i := 0) (v := Value.slice (some ⟨V0, 0, none⟩) n1 n1) rfl (by kernel_rfl) (by kernel_rfl) (by kernel_rfl) (fun _ _ _ h => by first | exact h | exact h.elim) (by decide) (fun _ _ => trivial) (fun _ _ => trivial) (Sx.behind (by kernel_rfl) hs0.out) (Or.inl ⟨by rfl, fun uu hu => by go_simp⟩) ?_
            try go_simp
            refine wpAnyX_both (T := (fun _ => True)) (i := 1) (v := Value.pointer (some ⟨b8, 0, none⟩)) rfl (by kernel_rfl) (by kernel_rfl) (by kernel_rfl) (fun _ _ _ h => by first | exact h | exact h.elim) (by decide) (fun _ _ => trivial) (fun _ _ => trivial) (Sx.behind (by kernel_rfl) hs0.out) (Or.inl ⟨by rfl, fun uu hu => by go_simp⟩) ?_
            try go_simp
            refine wpAnyX_both (T := (fun uu => uu.cell? ⟨b8, 0, none⟩ = some (Value.int .i64 (i : Int)) ∧ uu.cell? ⟨b8, 1, none⟩ = some (Value.int .i64 (-1)) ∧ uu.cell? ⟨b8, 2, none⟩ = some (Value.int .i64 xbw) ∧ uu.cell? ⟨b8, 3, none⟩ = some (Value.slice xa xn xc))) (i := 2) (v := Value.int .i64 (i : Int)) rfl (by kernel_rfl) (by kernel_rfl) (by kernel_rfl) (fun _ _ _ h => by first | exact h | exact h.elim) (by decide) (fun _ h => h.elim) (fun _ h => h) (Sx.behind (by kernel_rfl) hs0.out) (Or.inl ⟨by rfl, fun uu hu => by obtain ⟨e0, e1, e2, e3⟩ := hu; go_simp⟩) ?_
            try go_simp
            refine wpAnyX_both (T := (fun _ => True)) (i := 3) (v := Value.pointer (some ⟨V0, i * 3, none⟩)) rfl (by kernel_rfl) (by kernel_rfl) (by kernel_rfl) (fun _ _ _ h => by first | exact h | exact h.elim) (by decide) (fun _ _ => trivial) (fun _ _ => trivial) (Sx.behind (by kernel_rfl) hs0.out) (Or.inl ⟨by rfl, fun uu hu => by go_simp⟩) ?_
            try go_simp
            refine wpAnyX_both (T := (fun _ => True)) (i := 4) (v := Value.pointer (some ⟨b8, 2, none⟩)) rfl (by kernel_rfl) (by kernel_rfl) (by kernel_rfl) (fun _ _ _ h => by first | exact h | exact h.elim) (by decide) (fun _ _ => trivial) (fun _ _ => trivial) (Sx.behind (by kernel_rfl) hs0.out) (Or.inl ⟨by rfl, fun uu hu => by go_simp⟩) ?_
            try go_simp
            refine wpAnyX_both (T := (fun uu => uu.cell? ⟨b8, 0, none⟩ = some (Value.int .i64 (i : Int)) ∧ uu.cell? ⟨b8, 1, none⟩ = some (Value.int .i64 (-1)) ∧ uu.cell? ⟨b8, 2, none⟩ = some (Value.int .i64 xbw) ∧ uu.cell? ⟨b8, 3, none⟩ = some (Value.slice xa xn xc))) (i := 5) (v := Value.agg #[Value.int .i64 xbw, Value.slice xa xn xc]) rfl (by kernel_rfl) (by kernel_rfl) (by kernel_rfl) (fun _ _ _ h => by first | exact h | exact h.elim) (by decide) (fun _ h => h.elim) (fun _ h => h) (Sx.behind (by kernel_rfl) hs0.out) (Or.inl ⟨by rfl, fun uu hu => by obtain ⟨e0, e1, e2, e3⟩ := hu; go_simp⟩) ?_
            try go_simp
            refine wpAnyX_ready (rs := [6]) (by kernel_rfl) (by simp) (AllX.cons rfl (fun K hK => ?_) AllX.nil)
            try go_simp
            refine Calls.mono (addValue_any V0 V0 n1 (2 * q9) i ov mv (cf q9) xbw xa xn xc xws u0 G_0.out hi9 (by omega) hcli (rd_far HRD.out HFAR.out (BWV.out _ B_0.out)) HXN.out hpos (fun b o sp e => Nat.lt_of_lt_of_le (HFAR.out b o sp e) hzW)) ?_
            rintro e u1 ⟨rfl, hg1, hbb1, hks1⟩
            have X8_1 := kide (show Bz u1 b8 #[Value.int .i64 (i : Int), Value.int .i64 (-1), Value.int .i64 xbw, Value.slice xa xn xc] 86 from (hks1.stay _ _ _ _ X8_0.out (by decide) (by decide)).trans X8_0.out)
            have G_1 := kide hg1
            have B_1 := kide (B_0.out.trans hbb1)
            clear hg1 hbb1 hks1
            have c0_1 : u1.cell? ⟨b8, 0, none⟩ = some (Value.int .i64 (i : Int)) := X8_1.out.cell 0
            have c1_1 : u1.cell? ⟨b8, 1, none⟩ = some (Value.int .i64 (-1)) := X8_1.out.cell 1
            have c2_1 : u1.cell? ⟨b8, 2, none⟩ = some (Value.int .i64 xbw) := X8_1.out.cell 2
            have c3_1 : u1.cell? ⟨b8, 3, none⟩ = some (Value.slice xa xn xc) := X8_1.out.cell 3
            have hs1 : Hid ((fun uu => uu.cell? ⟨b8, 0, none⟩ = some (Value.int .i64 (i : Int)) ∧ uu.cell? ⟨b8, 1, none⟩ = some (Value.int .i64 (-1)) ∧ uu.cell? ⟨b8, 2, none⟩ = some (Value.int .i64 xbw) ∧ uu.cell? ⟨b8, 3, none⟩ = some (Value.slice xa xn xc)) u1) := ⟨c0_1, c1_1, c2_1, c3_1⟩
            refine hK _ _ (Sx.behind (by kernel_rfl) hs1.out) ?_
            clear hK K
            try go_simp
            refine wpAnyX_done (by kernel_rfl) ?_ _
            skip
            go_wp2_with fail
            go_roundw
            case rel => exact ⟨q9 + 1, by omega, by go_num, by rw [HFN.out]; obtain ⟨o9, m9, g9⟩ := G_1.out; exact ⟨o9, m9, g9.more (by omega)⟩, B_1.out, Nat.le_trans hWV2.out (B_1.out.size)⟩
            case measure => simp [intOf]; omega
          · obtain ⟨j, rfl⟩ : ∃ j : Nat, xlo = (j : Int) := ⟨xlo.toNat, by omega⟩
            have hj9 : j < n1 := by omega
            have hj8 : (j : Int) < (n1 : Int) := by omega
            have hclj : 0 ≤ upd (cf q9) i (cf q9 i + 1) j ∧ upd (cf q9) i (cf q9 i + 1) j ≤ 1048576 := by have h1 := HCLL.out i; have h2 := HCLL.out j; unfold upd; split <;> omega
            have HFN : Hid (cf (q9 + 1) = upd (upd (cf q9) i (cf q9 i + 1)) j (upd (cf q9) i (cf q9 i + 1) j + 1)) := by show _ = _; rw [HCRR.out]; simp [stepC, hne]
            clear HCRR hws hl0 hl1
            go_wp2_with fail
            generalize wr.alloc (Obj.cells #[Value.int .i64 (i : Int), Value.int .i64 (j : Int), Value.int .i64 xbw, Value.slice xa xn xc] 86) = V2 at *
            obtain ⟨b8, hb8⟩ : ∃ b8, wr.heap.size = b8 := ⟨_, rfl⟩
            rw [hb8] at X8
            simp only [hb8]
            clear hb8 p0 p1 p2 p3
            refine wp_region_x (SA := fun _ => False) (SB := fun uu => uu.cell? ⟨b8, 0, none⟩ = some (Value.int .i64 (i : Int)) ∧ uu.cell? ⟨b8, 1, none⟩ = some (Value.int .i64 ((j : Int))) ∧ uu.cell? ⟨b8, 2, none⟩ = some (Value.int .i64 xbw) ∧ uu.cell? ⟨b8, 3, none⟩ = some (Value.slice xa xn xc)) (k := 999) (by kernel_rfl) ?_
            have hbd : Below V2.heap.size V2 V2.drew := (Below.refl _ _).drew
            have X8_0 := kide (Bz.later X8.out hbd)
            have G_0 := kide (G8.out.later hbd)
            have B_0 := kide (B8.out.trans (hbd.mono (Nat.le_trans hWV2.out B8.out.size)))
            clear hbd X8 G8 B8
            generalize V2.drew = u0 at *
            have c0_0 : u0.cell? ⟨b8, 0, none⟩ = some (Value.int .i64 (i : Int)) := X8_0.out.cell 0
            have c1_0 : u0.cell? ⟨b8, 1, none⟩ = some (Value.int .i64 ((j : Int))) := X8_0.out.cell 1
            have c2_0 : u0.cell? ⟨b8, 2, none⟩ = some (Value.int .i64 xbw) := X8_0.out.cell 2
            have c3_0 : u0.cell? ⟨b8, 3, none⟩ = some (Value.slice xa xn xc) := X8_0.out.cell 3
            have hs0 : Hid ((fun uu => uu.cell? ⟨b8, 0, none⟩ = some (Value.int .i64 (i : Int)) ∧ uu.cell? ⟨b8, 1, none⟩ = some (Value.int .i64 ((j : Int))) ∧ uu.cell? ⟨b8, 2, none⟩ = some (Value.int .i64 xbw) ∧ uu.cell? ⟨b8, 3, none⟩ = some (Value.slice xa xn xc)) u0) := ⟨c0_0, c1_0, c2_0, c3_0⟩
            try go_simp
            refine wpAnyX_both (T := (fun _ => True)) (i := 0) (v := Value.slice (some ⟨V0, 0, none⟩) n1 n1) rfl (by kernel_rfl) (by kernel_rfl) (by kernel_rfl) (fun _ _ _ h => by first | exact h | exact h.elim) (by decide) (fun _ _ => trivial) (fun _ _ => trivial) (Sx.behind (by kernel_rfl) hs0.out) (Or.inl ⟨by rfl, fun uu hu => by go_simp⟩) ?_
            try go_simp
            refine wpAnyX_both (T := (fun _ => True)) (i := 1) (v := Value.pointer (some ⟨b8, 0, none⟩)) rfl (by kernel_rfl) (by kernel_rfl) (by kernel_rfl) (fun _ _ _ h => by first | exact h | exact h.elim) (by decide) (fun _ _ => trivial) (fun _ _ => trivial) (Sx.behind (by kernel_rfl) hs0.out) (Or.inl ⟨by rfl, fun uu hu => by go_simp⟩) ?_
            try go_simp
            refine wpAnyX_both (T := (fun uu => uu.cell? ⟨b8, 0, none⟩ = some (Value.int .i64 (i : Int)) ∧ uu.cell? ⟨b8, 1, none⟩ = some (Value.int .i64 ((j : Int))) ∧ uu.cell? ⟨b8, 2, none⟩ = some (Value.int .i64 xbw) ∧ uu.cell? ⟨b8, 3, none⟩ = some (Value.slice xa xn xc))) (i := 2) (v := Value.int .i64 (i : Int)) rfl (by kernel_rfl) (by kernel_rfl) (by kernel_rfl) (fun _ _ _ h => by first | exact h | exact h.elim) (by decide) (fun _ h => h.elim) (fun _ h => h) (Sx.behind (by kernel_rfl) hs0.out) (Or.inl ⟨by rfl, fun uu hu => by obtain ⟨e0, e1, e2, e3⟩ := hu; go_simp⟩) ?_
            try go_simp
            refine wpAnyX_both (T := (fun _ => True)) (i := 3) (v := Value.pointer (some ⟨V0, i * 3, none⟩)) rfl (by kernel_rfl) (by kernel_rfl) (by kernel_rfl) (fun _ _ _ h => by first | exact h | exact h.elim) (by decide) (fun _ _ => trivial) (fun _ _ => trivial) (Sx.behind (by kernel_rfl) hs0.out) (Or.inl ⟨by rfl, fun uu hu => by go_simp⟩) ?_
            try go_simp
            refine wpAnyX_both (T := (fun _ => True)) (i := 4) (v := Value.pointer (some ⟨b8, 1, none⟩)) rfl (by kernel_rfl) (by kernel_rfl) (by kernel_rfl) (fun _ _ _ h => by first | exact h | exact h.elim) (by decide) (fun _ _ => trivial) (fun _ _ => trivial) (Sx.behind (by kernel_rfl) hs0.out) (Or.inl ⟨by rfl, fun uu hu => by go_simp⟩) ?_
            try go_simp
            refine wpAnyX_both (T := (fun uu => uu.cell? ⟨b8, 0, none⟩ = some (Value.int .i64 (i : Int)) ∧ uu.cell? ⟨b8, 1, none⟩ = some (Value.int .i64 ((j : Int))) ∧ uu.cell? ⟨b8, 2, none⟩ = some (Value.int .i64 xbw) ∧ uu.cell? ⟨b8, 3, none⟩ = some (Value.slice xa xn xc))) (i := 5) (v := Value.int .i64 (j : Int)) rfl (by kernel_rfl) (by kernel_rfl) (by kernel_rfl) (fun _ _ _ h => by first | exact h | exact h.elim) (by decide) (fun _ h => h.elim) (fun _ h => h) (Sx.behind (by kernel_rfl) hs0.out) (Or.inl ⟨by rfl, fun uu hu => by obtain ⟨e0, e1, e2, e3⟩ := hu; go_simp⟩) ?_
            try go_simp
            refine wpAnyX_ready (rs := [6]) (by kernel_rfl) (by simp) (AllX.cons rfl (fun K hK => ?_) AllX.nil)
            try go_simp
            refine Calls.mono (addOther_any V0 V0 n1 (2 * q9) i ov mv (cf q9) (j : Int) u0 G_0.out hi9 (by omega) hcli) ?_
            rintro e u1 ⟨rfl, hg1, hbb1, hks1⟩
            have G_1 := kide hg1
            have B_1 := kide (B_0.out.trans hbb1)
            have X8_1 := kide (show Bz u1 b8 #[Value.int .i64 (i : Int), Value.int .i64 (j : Int), Value.int .i64 xbw, Value.slice xa xn xc] 86 from (hks1.stay _ _ _ _ X8_0.out (by decide) (by decide)).trans X8_0.out)
            clear hg1 hbb1 hks1
            have c0_1 : u1.cell? ⟨b8, 0, none⟩ = some (Value.int .i64 (i : Int)) := X8_1.out.cell 0
            have c1_1 : u1.cell? ⟨b8, 1, none⟩ = some (Value.int .i64 ((j : Int))) := X8_1.out.cell 1
            have c2_1 : u1.cell? ⟨b8, 2, none⟩ = some (Value.int .i64 xbw) := X8_1.out.cell 2
            have c3_1 : u1.cell? ⟨b8, 3, none⟩ = some (Value.slice xa xn xc) := X8_1.out.cell 3
            have hs1 : Hid ((fun uu => uu.cell? ⟨b8, 0, none⟩ = some (Value.int .i64 (i : Int)) ∧ uu.cell? ⟨b8, 1, none⟩ = some (Value.int .i64 ((j : Int))) ∧ uu.cell? ⟨b8, 2, none⟩ = some (Value.int .i64 xbw) ∧ uu.cell? ⟨b8, 3, none⟩ = some (Value.slice xa xn xc)) u1) := ⟨c0_1, c1_1, c2_1, c3_1⟩
            refine hK _ _ (Sx.behind (by kernel_rfl) hs1.out) ?_
            clear hK K
            try go_simp
            refine wpAnyX_done (by kernel_rfl) ?_ _
            skip
            go_wp2_with fail
            obtain ⟨ov1, mv1, hg1⟩ := G_1.out
            have G8 := kide hg1
            have B8 := kide B_1.out
            have X8 := kide X8_1.out
            have hz8b : V0 ≤ u1.heap.size := Nat.le_trans hWV2.out B_1.out.size
            clear hg1 G_1 B_1 X8_1 G_0 B_0 X8_0 c0_0 c1_0 c2_0 c3_0 hs0
            obtain ⟨V3, hV3⟩ : ∃ V3, u1 = V3 := ⟨_, rfl⟩
            rw [hV3] at G8 B8 X8 hz8b
            simp only [hV3]
            clear hV3
            refine wp_region_x (SA := fun _ => False) (SB := fun uu => uu.cell? ⟨b8, 0, none⟩ = some (Value.int .i64 (i : Int)) ∧ uu.cell? ⟨b8, 1, none⟩ = some (Value.int .i64 ((j : Int))) ∧ uu.cell? ⟨b8, 2, none⟩ = some (Value.int .i64 xbw) ∧ uu.cell? ⟨b8, 3, none⟩ = some (Value.slice xa xn xc)) (k := 999) (by kernel_rfl) ?_
            have hbd : Below V3.heap.size V3 V3.drew := (Below.refl _ _).drew
            have X8_0 := kide (Bz.later X8.out hbd)
            have G_0 := kide (G8.out.later hbd)
            have B_0 := kide (B8.out.trans (hbd.mono (Nat.le_trans hWV2.out B8.out.size)))
            clear hbd X8 G8 B8
            generalize V3.drew = u0 at *
            have c0_0 : u0.cell? ⟨b8, 0, none⟩ = some (Value.int .i64 (i : Int)) := X8_0.out.cell 0
            have c1_0 : u0.cell? ⟨b8, 1, none⟩ = some (Value.int .i64 ((j : Int))) := X8_0.out.cell 1
            have c2_0 : u0.cell? ⟨b8, 2, none⟩ = some (Value.int .i64 xbw) := X8_0.out.cell 2
            have c3_0 : u0.cell? ⟨b8, 3, none⟩ = some (Value.slice xa xn xc) := X8_0.out.cell 3
            have hs0 : Hid ((fun uu => uu.cell? ⟨b8, 0, none⟩ = some (Value.int .i64 (i : Int)) ∧ uu.cell? ⟨b8, 1, none⟩ = some (Value.int .i64 ((j : Int))) ∧ uu.cell? ⟨b8, 2, none⟩ = some (Value.int .i64 xbw) ∧ uu.cell? ⟨b8, 3, none⟩ = some (Value.slice xa xn xc)) u0) := ⟨c0_0, c1_0, c2_0, c3_0⟩
            try go_simp
            refine wpAnyX_both (T := (fun _ => True)) (i := 0) (v := Value.slice (some ⟨V0, 0, none⟩) n1 n1) rfl (by kernel_rfl) (by kernel_rfl) (by kernel_rfl) (fun _ _ _ h => by first | exact h | exact h.elim) (by decide) (fun _ _ => trivial) (fun _ _ => trivial) (Sx.behind (by kernel_rfl) hs0.out) (Or.inl ⟨by rfl, fun uu hu => by go_simp⟩) ?_
            try go_simp
            refine wpAnyX_both (T := (fun _ => True)) (i := 1) (v := Value.pointer (some ⟨b8, 1, none⟩)) rfl (by kernel_rfl) (by kernel_rfl) (by kernel_rfl) (fun _ _ _ h => by first | exact h | exact h.elim) (by decide) (fun _ _ => trivial) (fun _ _ => trivial) (Sx.behind (by kernel_rfl) hs0.out) (Or.inl ⟨by rfl, fun uu hu => by go_simp⟩) ?_
            try go_simp
            refine wpAnyX_both (T := (fun uu => uu.cell? ⟨b8, 0, none⟩ = some (Value.int .i64 (i : Int)) ∧ uu.cell? ⟨b8, 1, none⟩ = some (Value.int .i64 ((j : Int))) ∧ uu.cell? ⟨b8, 2, none⟩ = some (Value.int .i64 xbw) ∧ uu.cell? ⟨b8, 3, none⟩ = some (Value.slice xa xn xc))) (i := 2) (v := Value.int .i64 (j : Int)) rfl (by kernel_rfl) (by kernel_rfl) (by kernel_rfl) (fun _ _ _ h => by first | exact h | exact h.elim) (by decide) (fun _ h => h.elim) (fun _ h => h) (Sx.behind (by kernel_rfl) hs0.out) (Or.inl ⟨by rfl, fun uu hu => by obtain ⟨e0, e1, e2, e3⟩ := hu; go_simp⟩) ?_
            try go_simp
            refine wpAnyX_both (T := (fun _ => True)) (i := 3) (v := Value.pointer (some ⟨V0, j * 3, none⟩)) rfl (by kernel_rfl) (by kernel_rfl) (by kernel_rfl) (fun _ _ _ h => by first | exact h | exact h.elim) (by decide) (fun _ _ => trivial) (fun _ _ => trivial) (Sx.behind (by kernel_rfl) hs0.out) (Or.inl ⟨by rfl, fun uu hu => by go_simp⟩) ?_
            try go_simp
            refine wpAnyX_both (T := (fun _ => True)) (i := 4) (v := Value.pointer (some ⟨b8, 0, none⟩)) rfl (by kernel_rfl) (by kernel_rfl) (by kernel_rfl) (fun _ _ _ h => by first | exact h | exact h.elim) (by decide) (fun _ _ => trivial) (fun _ _ => trivial) (Sx.behind (by kernel_rfl) hs0.out) (Or.inl ⟨by rfl, fun uu hu => by go_simp⟩) ?_
            try go_simp
            refine wpAnyX_both (T := (fun uu => uu.cell? ⟨b8, 0, none⟩ = some (Value.int .i64 (i : Int)) ∧ uu.cell? ⟨b8, 1, none⟩ = some (Value.int .i64 ((j : Int))) ∧ uu.cell? ⟨b8, 2, none⟩ = some (Value.int .i64 xbw) ∧ uu.cell? ⟨b8, 3, none⟩ = some (Value.slice xa xn xc))) (i := 5) (v := Value.int .i64 (i : Int)) rfl (by kernel_rfl) (by kernel_rfl) (by kernel_rfl) (fun _ _ _ h => by first | exact h | exact h.elim) (by decide) (fun _ h => h.elim) (fun _ h => h) (Sx.behind (by kernel_rfl) hs0.out) (Or.inl ⟨by rfl, fun uu hu => by obtain ⟨e0, e1, e2, e3⟩ := hu; go_simp⟩) ?_
            try go_simp
            refine wpAnyX_ready (rs := [6]) (by kernel_rfl) (by simp) (AllX.cons rfl (fun K hK => ?_) AllX.nil)
            try go_simp
            refine Calls.mono (addOther_any V0 V0 n1 (2 * q9 + 1) j ov1 mv1 (upd (cf q9) i (cf q9 i + 1)) (i : Int) u0 G_0.out hj9 (by omega) hclj) ?_
            rintro e u1 ⟨rfl, hg1, hbb1, hks1⟩
            have G_1 := kide hg1
            have B_1 := kide (B_0.out.trans hbb1)
            have X8_1 := kide (show Bz u1 b8 #[Value.int .i64 (i : Int), Value.int .i64 (j : Int), Value.int .i64 xbw, Value.slice xa xn xc] 86 from (hks1.stay _ _ _ _ X8_0.out (by decide) (by decide)).trans X8_0.out)
            clear hg1 hbb1 hks1
            have c0_1 : u1.cell? ⟨b8, 0, none⟩ = some (Value.int .i64 (i : Int)) := X8_1.out.cell 0
            have c1_1 : u1.cell? ⟨b8, 1, none⟩ = some (Value.int .i64 ((j : Int))) := X8_1.out.cell 1
            have c2_1 : u1.cell? ⟨b8, 2, none⟩ = some (Value.int .i64 xbw) := X8_1.out.cell 2
            have c3_1 : u1.cell? ⟨b8, 3, none⟩ = some (Value.slice xa xn xc) := X8_1.out.cell 3
            have hs1 : Hid ((fun uu => uu.cell? ⟨b8, 0, none⟩ = some (Value.int .i64 (i : Int)) ∧ uu.cell? ⟨b8, 1, none⟩ = some (Value.int .i64 ((j : Int))) ∧ uu.cell? ⟨b8, 2, none⟩ = some (Value.int .i64 xbw) ∧ uu.cell? ⟨b8, 3, none⟩ = some (Value.slice xa xn xc)) u1) := ⟨c0_1, c1_1, c2_1, c3_1⟩
            refine hK _ _ (Sx.behind (by kernel_rfl) hs1.out) ?_
            clear hK K
            try go_simp
            refine wpAnyX_done (by kernel_rfl) ?_ _
            skip
            go_wp2_with fail
            go_roundw
            case rel => exact ⟨q9 + 1, by omega, by go_num, by rw [HFN.out]; obtain ⟨o9, m9, g9⟩ := G_1.out; exact ⟨o9, m9, g9.more (by omega)⟩, B_1.out, Nat.le_trans hWV2.out (B_1.out.size)⟩
            case measure => simp [intOf]; omega
        · have e : q9 = n3 := by omega
          subst e
          have HGG := kide hg
          clear hg hb9
          go_wp2_with fail
          go_ret
          exact ⟨V0, rfl, fun i hi => by rw [HCR0.out, ← HCZ.out]; exact (HGG.out.cells hi).2.2, BWW.out _ B9.out⟩

end Go.Proofs.Ythoiajpbpoglfaa
