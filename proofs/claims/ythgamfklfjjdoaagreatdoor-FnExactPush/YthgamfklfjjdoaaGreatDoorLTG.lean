/- What the specification's l21All and AllOf answer. -/
import Derived.Test.YthgamfklfjjdoaaGreatDoorLTF
import Derived.Handy
namespace Go.Proofs.YthgamfklfjjdoaaGreatDoor
set_option linter.unusedVariables false
set_option linter.unusedSimpArgs false
open Go.RowKit

/-- The specification's: literals that can be read, in new memory. -/
def RetAs (A : List Lc) (w : World) (e : Ending) (w' : World) : Prop := ∃ a2 c2 l, e = .returned (.slice a2 A.length c2) ∧ Lr w.heap.size w'.heap.size (.slice a2 A.length c2) l w' ∧ l.map Lg.ct = A ∧ Below w.heap.size w w'

theorem OL4.typed {w : World} {B : Nat} {v : Value} {l : List Lg} (h : OL4 w B v l) {b : Nat} (hb : v.ownBlock = some b) : ∃ cur, w.heap[b]? = some (.cells cur 52 (0, 0)) := by
  rcases h.2 with ⟨rfl, -⟩ | ⟨g, cap, cur, rfl, hg, hh, -⟩
  · cases hb
  · cases hb
    exact ⟨cur, hh⟩

/-- A term stays as it is where a row of literals grows. -/
theorem Tt.rowL {lo hi B : Nat} {v r : Value} {t : List Tg} {l : List Lg} {w w' : World} (h : Tt lo hi v t w) (ho : OL4 w B r l) (hg : w.grownBy w' r.ownBlock) : Tt lo hi v t w' := by
  have keep : ∀ (b : Nat) (cur : Array Value) (ty : TypeId), w.heap[b]? = some (.cells cur ty (0, 0)) → ty ≠ 52 → w'.heap[b]? = w.heap[b]? := fun b cur ty hb ht => hg.block b (lt_of_block hb) (fun e => by
    obtain ⟨cur2, h2⟩ := ho.typed e.symm
    rw [hb] at h2
    cases h2
    exact ht rfl)
  refine ⟨⟨h.ts.row.move fun b hb => ?_, fun x hx => nw_own (h.ts.wn x hx) fun p hp => ?_, fun x hx => ni_own (h.ts.kn x hx) fun p hp => ?_, h.ts.wd, h.ts.kd⟩, h.rb, h.wb, h.kb⟩
  · obtain ⟨cur, hc⟩ := h.ts.row.typed hb
    exact keep b cur _ hc (by decide)
  · rcases h.ts.wn x hx with ⟨-, k⟩ | ⟨g, cur, k1, k2, k3, -⟩
    · obtain ⟨-, -, cur, hc⟩ := k p hp
      exact keep _ cur _ hc (by decide)
    · rw [k1] at hp
      cases hp
      exact keep _ cur _ k3 (by decide)
  · rcases h.ts.kn x hx with ⟨-, k⟩ | ⟨g, cur, k1, k2, k3, -⟩
    · obtain ⟨-, -, cur, hc⟩ := k p hp
      exact keep _ cur _ hc (by decide)
    · rw [k1] at hp
      cases hp
      exact keep _ cur _ k3 (by decide)

theorem Lr.mono {lo hi lo' hi' : Nat} {v : Value} {l : List Lg} {w : World} (h : Lr lo hi v l w) (h1 : lo' ≤ lo) (h2 : hi ≤ hi') : Lr lo' hi' v l w :=
  ⟨⟨h.row.1, by
      rcases h.row.2 with h0 | ⟨g, cap, cur, e, hg, r⟩
      · exact .inl h0
      · exact .inr ⟨g, cap, cur, e, by omega, r⟩⟩, fun b hb => Nat.lt_of_lt_of_le (h.rb b hb) h2, fun x hx => ⟨(h.each x hx).1.mono h1 h2, (h.each x hx).2.mono h1 h2⟩⟩

/-- A row of literals more. -/
theorem Lr.app {w w1 w2 : World} {lo : Nat} {v v' : Value} {l ys : List Lg} (h : Lr lo w.heap.size v l w) (hlo : lo ≤ w.heap.size) (hb : Below w.heap.size w w1) {u : Value} (hy : Lr w.heap.size w1.heap.size u ys w1) (hg : w1.grownBy w2 v.ownBlock) (ho : OL4 w2 lo v' (l ++ ys)) : Lr lo w2.heap.size v' (l ++ ys) w2 := by
  have h1 := h.later hb
  have hs := hb.size
  have hs2 : w1.heap.size ≤ w2.heap.size := hg.size
  refine ⟨ho, fun b hb' => (ho.lt hb').2, fun x hx => ?_⟩
  rcases List.mem_append.1 hx with hx | hx
  · exact ⟨((h1.each x hx).1.rowL h1.row hg).mono (Nat.le_refl _) (by omega), ((h1.each x hx).2.rowL h1.row hg).mono (Nat.le_refl _) (by omega)⟩
  · exact ⟨((hy.each x hx).1.rowL h1.row hg).mono hlo hs2, ((hy.each x hx).2.rowL h1.row hg).mono hlo hs2⟩

set_option maxHeartbeats 2000000 in
set_option maxRecDepth 100000 in
theorem l21All_any (da sa : Option Addr) (dn dc n sc : Nat) (nx : Int) (xs : List Sg) (w : World) (hs : RdS w sa xs) (hn : xs.length = n) (hT : (xs.flatMap Sg.ls).length ≤ 1048576) (hS : SnS xs) :
    Calls Tryz.prog 23 #[.agg #[.slice da dn dc, .slice sa n sc, .int .i64 nx]] w (RetAs (allL (xs.map Sg.ct)) w) := by
  have hl := hs.1
  rw [hn] at hl
  have HS := kide (fun u (hu : Below w.heap.size w u) => hs.later hu)
  have HN := kide hn
  have HT := kide hT
  have HSN := kide hS
  clear hs hn hT hS
  go_enter Tryz.func23, Tryz.ntmps23
  go_wp2_with fail
  have hb0 : Below w.heap.size w ((w.alloc (.cells #[Value.slice da dn dc, Value.slice sa n sc, Value.int .i64 nx] 32)).alloc (.cells #[] 52)) := ((Below.refl _ _).alloc (Nat.le_refl _) _).alloc (by simp) _
  have XB0 := kide (Bz.later (Bz.new w #[Value.slice da dn dc, Value.slice sa n sc, Value.int .i64 nx] 32) ((Below.refl _ _).alloc (Nat.le_refl _) (.cells #[] 52)))
  have LR0 : Hid (Lr (w.heap.size + 1) ((w.alloc (.cells #[Value.slice da dn dc, Value.slice sa n sc, Value.int .i64 nx] 32)).alloc (.cells #[] 52)).heap.size (.slice (some ⟨w.heap.size + 1, 0, none⟩) 0 0) [] ((w.alloc (.cells #[Value.slice da dn dc, Value.slice sa n sc, Value.int .i64 nx] 32)).alloc (.cells #[] 52))) := by
    have h := OL4.empty (w.alloc (.cells #[Value.slice da dn dc, Value.slice sa n sc, Value.int .i64 nx] 32)) (w.heap.size + 1) (by simp)
    rw [show (w.alloc (.cells #[Value.slice da dn dc, Value.slice sa n sc, Value.int .i64 nx] 32)).heap.size = w.heap.size + 1 by simp] at h
    exact ⟨h, (fun b hb => by cases hb; simp), (fun x hx => by simp at hx)⟩
  have KB0 := kide hb0
  have HZ0 : Hid (w.heap.size + 1 ≤ ((w.alloc (.cells #[Value.slice da dn dc, Value.slice sa n sc, Value.int .i64 nx] 32)).alloc (.cells #[] 52)).heap.size) := by show _ ≤ _; simp
  clear hb0
  generalize ((w.alloc (.cells #[Value.slice da dn dc, Value.slice sa n sc, Value.int .i64 nx] 32)).alloc (.cells #[] 52)) = W at *
  obtain ⟨b0, hb0⟩ : ∃ b0, w.heap.size = b0 := ⟨_, rfl⟩
  rw [hb0] at XB0 LR0 HZ0
  simp only [hb0]
  have HB0 := kide hb0
  clear hb0
  go_loopw [3, 4] (fun o q wr => ∃ (j : Nat) (va : Option Addr) (vm vc : Nat) (l : List Lg), j ≤ n ∧ q = .int .i64 (j : Int) ∧ o = .slice va vm vc ∧ l.length = vm ∧ Lr (b0 + 1) wr.heap.size (.slice va vm vc) l wr ∧ l.map Lg.ct = allL ((xs.map Sg.ct).take j) ∧ Bz wr b0 #[Value.slice da dn dc, Value.slice sa n sc, Value.int .i64 nx] 32 ∧ Below w.heap.size w wr ∧ b0 + 1 ≤ wr.heap.size) (fun _ q _ => n - (intOf q).toNat)
  case atStart => exact ⟨0, _, _, _, [], Nat.zero_le _, rfl, rfl, rfl, LR0.out, rfl, XB0.out, KB0.out, HZ0.out⟩
  case round =>
    obtain ⟨j, va, vm, vc, l, hj, rfl, rfl, hll, lr, hct, xb, kb, hz⟩ := hrel
    clear LR0 KB0 XB0 HZ0
    have LR := kide lr
    have KB := kide kb
    have HLL := kide hll
    have HZ := kide hz
    have e1 := xb.cell 1
    simp at e1
    have XB := kide xb
    by_cases hlt : j < n
    · have i0 : (j : Int) < (n : Int) := by omega
      obtain ⟨x, gx⟩ : ∃ x, xs[j]? = some x := ⟨xs[j]'(by rw [HN.out]; exact hlt), List.getElem?_eq_getElem _⟩
      have hsn := HSN.out x (List.mem_of_getElem? gx)
      obtain ⟨b3, o3, rfl, ⟨p0, p1⟩, r1, r2⟩ := (HS.out wr kb).at gx
      have hjm : j < (xs.map Sg.ct).length := by rw [List.length_map, HN.out]; exact hlt
      have hct2 : ∀ l2 : List Lg, l2.map Lg.ct = x.ls.map Lg.ct → (l ++ l2).map Lg.ct = allL ((xs.map Sg.ct).take (j + 1)) := fun l2 h2 => by
        rw [allL_take hjm, List.map_append, hct, h2, scL_get gx]
      have hsum : vm + x.ls.length ≤ 1048576 := by
        have h1 := congrArg List.length (hct2 x.ls rfl)
        rw [List.length_map, List.length_append, hll] at h1
        have h2 := congrArg List.length (allL_rest (xs.map Sg.ct) (j + 1))
        rw [List.length_append] at h2
        have h3 := congrArg List.length (allL_map xs)
        rw [List.length_map] at h3
        have := HT.out
        omega
      obtain ⟨d, ls, la, lc⟩ := x
      simp only [] at p0 p1 r1 r2 hsn hct2 hsum
      have HCP := kide (l16Copy_any la ls.length lc ls wr r1 rfl hsn)
      obtain ⟨lm, hlm⟩ : ∃ lm, ls.length = lm := ⟨_, rfl⟩
      have HLM := kide hlm
      rw [hlm] at HCP p1 hsum
      have HCT := kide hct2
      clear hct hct2 lr kb hll gx r1 r2 hsn hjm hlm p0
      go_wp2_with fail
      refine Calls.mono HCP.out ?_
      rintro e w2 ⟨a2, c2, l2, p2, rfl, hln, hm2, hb2⟩
      have hl2 : l2.length = lm := by have := congrArg List.length hm2; simp at this; rw [this]; exact HLM.out
      have LN2 := kide hln
      have M2 := kide hm2
      have HL2 := kide hl2
      have KB2 := kide (KB.out.trans (hb2.mono KB.out.size))
      have XB2 := kide (XB.out.later hb2)
      have OL2 := kide (LR.out.row.later hb2)
      have BK2 := kide hb2
      have HZ2 : Hid (b0 + 1 ≤ w2.heap.size) := Nat.le_trans HZ.out hb2.size
      clear hln hm2 hl2 hb2 HCP p1 e1
      go_wp2_with (at_builtin; refine wpList_appLo _ rfl _ _ rfl (b0 + 1) wr.heap.size (.slice va vm vc) l l2 (by first | rfl | simp [Act.eval]) OL2.out (.slice a2 lm c2) (by first | rfl | simp [Act.eval]) LN2.out.row (by have := HLL.out; have := HL2.out; omega) HZ2.out ?_)
      intro v7 w7 ho hg hat
      have LR7 := kide (Lr.app LR.out HZ.out BK2.out LN2.out.lr hg ho)
      have KB7 := kide (Below.grown KB2.out hg KB2.out.size (fun b hb => by have := (OL2.out.lt hb).1; have := HB0.out; omega))
      have XB7 : Hid (Bz w7 b0 #[Value.slice da dn dc, Value.slice (some ⟨b3, o3, none⟩) n sc, Value.int .i64 nx] 32) := (hg.block _ XB2.out.lt (fun e => by have := (OL2.out.lt e.symm).1; omega)).trans XB2.out
      have HZ7 : Hid (b0 + 1 ≤ w7.heap.size) := Nat.le_trans HZ2.out hg.size
      obtain ⟨a9, c9, rfl⟩ := ho.form
      have HM9 := kide (HCT.out l2 M2.out)
      clear ho hg hat OL2 KB2 XB2 BK2 HZ2
      go_wp2_with fail
      go_roundw
      case rel => exact ⟨j + 1, a9, _, c9, l ++ l2, by omega, by go_num, rfl, rfl, LR7.out, HM9.out, XB7.out, KB7.out, HZ7.out⟩
      case measure => simp [intOf]; omega
    · have HCT : Hid (l.map Lg.ct = allL (xs.map Sg.ct)) := by show _ = _; rw [hct, List.take_of_length_le (by rw [List.length_map, HN.out]; omega)]
      have HLA : Hid (vm = (allL (xs.map Sg.ct)).length) := by show _ = _; rw [← HCT.out, List.length_map]; exact hll.symm
      clear hct lr kb hll hz xb
      go_wp2_with fail
      go_ret
      refine ⟨va, vc, l, ?_, ?_, HCT.out, KB.out⟩
      · rw [← HLA.out]; rfl
      · rw [← HLA.out]; exact LR.out.mono (by have := HB0.out; omega) (Nat.le_refl _)

set_option maxHeartbeats 2000000 in
set_option maxRecDepth 100000 in
theorem specAll_any (da sa : Option Addr) (dc n sc : Nat) (nx : Int) (ds : List Dc) (xs : List Sg) (w : World) (hd : RdD w da ds) (hs : RdS w sa xs) (hn : xs.length = n) (hT : (xs.flatMap Sg.ls).length ≤ 1048576) (hnx : in64 nx) (hdc : ds.length ≤ dc) (hS : SnS xs) :
    Calls Tryz.prog 7 #[.agg #[.slice da ds.length dc, .slice sa n sc, .int .i64 nx]] w (RetAs (allR ds (xs.map Sg.ct) nx) w) := by
  have B0 := kide (ses_box w (.cells #[Value.slice da ds.length dc, Value.slice sa n sc, Value.int .i64 nx] 32))
  have X0 : Hid (Bz (w.alloc (.cells #[Value.slice da ds.length dc, Value.slice sa n sc, Value.int .i64 nx] 32)) w.heap.size #[Value.slice da ds.length dc, Value.slice sa n sc, Value.int .i64 nx] 32) := Bz.new _ _ _
  have HSK := kide (fun u (hu : Below w.heap.size w u) => specSession_any da sa dc n sc nx ds xs u (hd.later hu) (hs.later hu) hn hT hnx hdc)
  have HLI := kide (fun u (hu : Below w.heap.size w u) => l21All_any da sa ds.length dc n sc nx xs u (hs.later hu) hn hT hS)
  clear hd hs hn hT hS
  generalize ds.length = dn at *
  unfold allR
  cases hv : sesR ds (xs.map Sg.ct) nx with
  | false =>
    rw [hv] at HSK
    rw [if_neg (by simp)]
    clear hv
    go_enter Tryz.func7, Tryz.ntmps7
    go_wp2_with fail
    refine Calls.mono (HSK.out _ B0.out) ?_
    rintro e w1 ⟨rfl, hb1⟩
    have B1 := kide (B0.out.trans (hb1.mono B0.out.size))
    have hb2 : Below w1.heap.size w1 (w1.alloc (.cells #[] 52)) := (Below.refl _ _).alloc (Nat.le_refl _) _
    have B2 := kide (B1.out.trans (hb2.mono B1.out.size))
    have LR2 : Hid (Lr w.heap.size (w1.alloc (.cells #[] 52)).heap.size (.slice (some ⟨w1.heap.size, 0, none⟩) 0 0) [] (w1.alloc (.cells #[] 52))) := ⟨OL4.empty w1 _ B1.out.size, (fun b hb => by cases hb; simp), (fun x hx => by simp at hx)⟩
    clear hb1 hb2
    go_wp2_with fail
    go_ret
    exact ⟨_, _, [], rfl, LR2.out, rfl, B2.out⟩
  | true =>
    rw [hv] at HSK
    rw [if_pos rfl]
    clear hv
    go_enter Tryz.func7, Tryz.ntmps7
    go_wp2_with fail
    refine Calls.mono (HSK.out _ B0.out) ?_
    rintro e w1 ⟨rfl, hb1⟩
    have B1 := kide (B0.out.trans (hb1.mono B0.out.size))
    have X1 := kide (X0.out.later hb1)
    have x0 := X1.out.cell 0
    have x1 := X1.out.cell 1
    have x2 := X1.out.cell 2
    simp at x0 x1 x2
    clear hb1
    go_wp2_with fail
    refine Calls.mono (HLI.out _ B1.out) ?_
    rintro e w3 ⟨a3, c3, l3, rfl, hlr, hm3, hb3⟩
    have B3 := kide (B1.out.trans (hb3.mono B1.out.size))
    have LR3 := kide (hlr.mono B1.out.size (Nat.le_refl _))
    have M3 := kide hm3
    clear hb3 hlr hm3
    go_wp2_with fail
    go_ret
    exact ⟨a3, c3, l3, rfl, LR3.out, M3.out, B3.out⟩

end Go.Proofs.YthgamfklfjjdoaaGreatDoor
