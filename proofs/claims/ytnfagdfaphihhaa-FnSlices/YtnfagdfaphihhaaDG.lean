/- Drawn cuts: the whole. -/
import Derived.Test.YtnfagdfaphihhaaDF
import Derived.Deep.SlicePairs
import Derived.Test.YtnfagdfaphihhaaRX
namespace Go.Proofs.Ytnfagdfaphihhaa
set_option linter.unusedVariables false
set_option linter.unusedSimpArgs false
open Go.RowKit

theorem RdD.farB {w w' : World} {β : Nat} {a : Option Addr} {ds : List Dc} (h : RdD w a ds) (hd : Dw β w w') (hn : ∀ p, a = some p → p.block ≠ β) : RdD w' a ds := by
  obtain ⟨h1, h2, h3⟩ := h
  refine ⟨h1, h2, ?_⟩
  rcases h3 with h3 | ⟨b, o, rfl, hc⟩
  · exact .inl h3
  · refine .inr ⟨b, o, rfl, fun i d hi => ?_⟩
    obtain ⟨c0, c1⟩ := hc i d hi
    have hb := hn ⟨b, o, none⟩ rfl
    simp only [] at hb
    have e : w'.heap[b]? = w.heap[b]? := hd.block b (block_lt_of_cell c0) (fun e => by cases e; exact hb rfl)
    exact ⟨by rw [World.cell?_of_block (a := ⟨b, _, none⟩) e]; exact c0, by rw [World.cell?_of_block (a := ⟨b, _, none⟩) e]; exact c1⟩

/-- Cuts under way. -/
structure Cu (w0 w : World) (β : Nat) (a : Option Addr) (c : Nat) (bs : List Nat) (xb rb g cc n M : Nat) (vs : List Value) (xss : List (List Int)) : Prop where
  box : B1 w xb (.slice (some ⟨g, 0, none⟩) n cc) 27
  rbox : B1 w rb (.slice none 0 0) 27
  ct : Cq w w0.heap.size (.slice (some ⟨g, 0, none⟩) n cc) vs xss
  vl : vs.length = n
  ok : ∀ (i : Nat) (xs : List Int), xss[i]? = some xs → xs.length ≤ M ∧ ∀ x ∈ xs, in64 x
  rr : Rr w β a c bs
  dw : Dw β w0 w

theorem Cu.far {w0 w w' : World} {β : Nat} {a : Option Addr} {c : Nat} {bs : List Nat} {xb rb g cc n M : Nat} {vs : List Value} {xss : List (List Int)} (h : Cu w0 w β a c bs xb rb g cc n M vs xss) (hd : Dw β w w') (hr : Rr w' β a c bs) (hβ : β < w0.heap.size) (h1 : w0.heap.size ≤ xb) (h2 : w0.heap.size ≤ rb) : Cu w0 w' β a c bs xb rb g cc n M vs xss :=
  ⟨h.box.far hd (by omega), h.rbox.far hd (by omega), h.ct.far hd hβ, h.vl, h.ok, hr, h.dw.trans hd⟩

theorem Cu.later {w0 w w' : World} {β : Nat} {a : Option Addr} {c : Nat} {bs : List Nat} {xb rb g cc n M : Nat} {vs : List Value} {xss : List (List Int)} (h : Cu w0 w β a c bs xb rb g cc n M vs xss) (hb : Below w.heap.size w w') : Cu w0 w' β a c bs xb rb g cc n M vs xss :=
  ⟨h.box.later hb, h.rbox.later hb, h.ct.later hb, h.vl, h.ok, h.rr.later hb, h.dw.trans (Dw.of hb)⟩
theorem OI.form {w : World} {B : Nat} {v : Value} {l : List Int} (h : OI w B v l) : ∃ a c, v = .slice a l.length c := by
  rcases h.2 with ⟨e, h0⟩ | ⟨g, cap, cur, e, -⟩
  · exact ⟨none, 0, by rw [e, h0]⟩
  · exact ⟨_, _, e⟩
theorem Cu.at {w0 w : World} {β : Nat} {a : Option Addr} {c : Nat} {bs : List Nat} {xb rb g cc n M k : Nat} {vs : List Value} {xss : List (List Int)} (h : Cu w0 w β a c bs xb rb g cc n M vs xss) (hk : k < n) : ∃ u xs ua uc, vs[k]? = some u ∧ xss[k]? = some xs ∧ u = .slice ua xs.length uc ∧ OI w w0.heap.size u xs ∧ w.cell? ⟨g, k, none⟩ = some u ∧ w.frozen? ⟨g, k, none⟩ = false := by
  have hv : k < vs.length := by rw [h.vl]; exact hk
  have hx : k < xss.length := by rw [← h.ct.len]; exact hv
  have e1 := List.getElem?_eq_getElem hv
  have e2 := List.getElem?_eq_getElem hx
  have ho := h.ct.own k _ _ e1 e2
  obtain ⟨ua, uc, e3⟩ := ho.form
  obtain ⟨c1, c2⟩ := h.ct.cell e1
  exact ⟨_, _, ua, uc, e1, e2, e3, ho, c1, c2⟩

/-- A number is appended to one row, and the row put into its place. -/
theorem Cu.step {w0 w w1 w2 : World} {β : Nat} {a : Option Addr} {c : Nat} {bs : List Nat} {xb rb g cc n M M' k gn cap : Nat} {vs : List Value} {xss : List (List Int)} {u : Value} {xs : List Int} {y : Int}
    (h : Cu w0 w β a c bs xb rb g cc n M vs xss) (hk : vs[k]? = some u) (hx : xss[k]? = some xs) (hl : xs.length + 1 ≤ M') (hMM : M ≤ M') (hy : in64 y) (hb : Below w.heap.size w w1)
    (ho : OI w2 w0.heap.size (.slice (some ⟨gn, 0, none⟩) (xs.length + 1) cap) (xs ++ [y])) (hg : w1.grownBy w2 u.ownBlock) (hat : u.ownBlock = some gn ∨ gn = w1.heap.size) (hr0 : Rr w0 β a c bs) :
    Cu w0 (w2.setCell ⟨g, k, none⟩ (.slice (some ⟨gn, 0, none⟩) (xs.length + 1) cap)) β a c bs xb rb g cc n M' (vs.set k (.slice (some ⟨gn, 0, none⟩) (xs.length + 1) cap)) (xss.set k (xs ++ [y])) := by
  have hct := h.ct.later hb
  have hbox := h.box.later hb
  have hrb := h.rbox.later hb
  have hu := hct.own k u xs hk hx
  obtain ⟨cg, hcg⟩ := rowty hct.row (b := g) rfl
  have hglt := (rowlt hct.row (b := g) rfl)
  have apart : ∀ {b : Nat} {v : Value}, B1 w1 b v 27 → u.ownBlock ≠ some b := fun hB e => by
    obtain ⟨c9, e9⟩ := rowty hu e
    unfold B1 at hB
    rw [hB] at e9
    cases e9
  have neg : ∀ {b : Nat} {v : Value}, B1 w1 b v 27 → b ≠ g := fun hB e => by
    subst e
    unfold B1 at hB
    rw [hB] at hcg
    cases hcg
  refine ⟨(hbox.grown hg (apart hbox)).other (neg hbox) _, (hrb.grown hg (apart hrb)).other (neg hrb) _, ?_, by simp [h.vl], fun i zs hi => ?_, ?_, ?_⟩
  · refine hct.step hk hx ho hg fun b hb' => ?_
    cases hb'
    rcases hat with e | e
    · exact .inl e
    · exact .inr (Nat.le_of_eq e.symm)
  · rw [List.getElem?_set] at hi
    split at hi
    · split at hi
      · simp at hi
        subst hi
        refine ⟨by simp; omega, fun x hx9 => ?_⟩
        rcases List.mem_append.1 hx9 with h9 | h9
        · exact (h.ok k xs hx).2 x h9
        · simp at h9
          subst h9
          exact hy
      · cases hi
    · have h9 := h.ok i zs hi
      exact ⟨by omega, h9.2⟩
  · have r1 := hr0.far (h.rr.later hb) hg (fun b e => (hu.lt e).1)
    exact hr0.far r1 (gsc w2 ⟨g, k, none⟩ _) (fun b e => by cases e; exact hglt.1)
  · exact ((h.dw.trans (Dw.of hb)).own hg (fun b e => (hu.lt e).1)).own (gsc w2 ⟨g, k, none⟩ _) (fun b e => by cases e; exact hglt.1)

/-- Rows of numbers that can be read, all of it from a block on. -/
def GotII (w : World) (lo : Nat) (a : Option Addr) (xs : List Iw) : Prop := RdII w a xs ∧ (∀ p, a = some p → lo ≤ p.block) ∧ ∀ x ∈ xs, ∀ p, x.a = some p → lo ≤ p.block
theorem GotII.other {w : World} {lo b i : Nat} {a : Option Addr} {xs : List Iw} (h : GotII w lo a xs) (hb : b < lo) (v : Value) : RdII (w.setCell ⟨b, i, none⟩ v) a xs := by
  obtain ⟨⟨h1, h2⟩, h3, h4⟩ := h
  refine ⟨h1, ?_⟩
  have key : ∀ (b' o' : Nat) (u : Value), lo ≤ b' → w.cell? ⟨b', o', none⟩ = some u → (w.setCell ⟨b, i, none⟩ v).cell? ⟨b', o', none⟩ = some u := fun b' o' u hl hu => by
    rw [World.cell?_of_block (w := w) (a := ⟨b', o', none⟩) (heap_setCell_other _ _ _ _ (by simp; omega))]
    exact hu
  rcases h2 with h2 | ⟨g, o, e, hc⟩
  · exact .inl h2
  · have hg := h3 _ e
    refine .inr ⟨g, o, e, fun j x hj => ?_⟩
    obtain ⟨c0, r1, r2, r3⟩ := hc j x hj
    refine ⟨key _ _ _ hg c0, r1, r2, ?_⟩
    rcases r3 with r3 | ⟨b2, o2, e2, hc2⟩
    · exact .inl r3
    · exact .inr ⟨b2, o2, e2, fun t ht => key _ _ _ (h4 x (List.mem_of_getElem? hj) _ e2) (hc2 t ht)⟩
theorem Cq.rdII {w : World} {B g n c : Nat} {vs : List Value} {xss : List (List Int)} (h : Cq w B (.slice (some ⟨g, 0, none⟩) n c) vs xss) (hvl : vs.length = n) (hn : n ≤ 1048576) (ok : ∀ (i : Nat) (xs : List Int), xss[i]? = some xs → xs.length ≤ 201 ∧ ∀ x ∈ xs, in64 x) : ∃ iws : List Iw, iws.length = n ∧ GotII w B (some ⟨g, 0, none⟩) iws := by
  have each : ∀ i, i < n → ∃ x : Iw, IwAt w g i x ∧ ∀ p, x.a = some p → B ≤ p.block := fun i hi => by
    have hv : i < vs.length := by omega
    have hx : i < xss.length := by rw [← h.len]; exact hv
    have e1 := List.getElem?_eq_getElem hv
    have e2 := List.getElem?_eq_getElem hx
    have ho := h.own i _ _ e1 e2
    obtain ⟨a, c', e3, h4⟩ := ho.rd (by have := (ok i _ e2).1; omega) (ok i _ e2).2
    refine ⟨⟨a, c', xss[i]⟩, ⟨by rw [(h.cell e1).1, e3], h4⟩, fun p hp => ?_⟩
    simp only [] at hp
    subst hp
    rw [e3] at ho
    have h9 := ho.2
    generalize xss[i].length = m at h9
    rcases h9 with ⟨e', -⟩ | ⟨g', cap, cur, e', hg', -⟩
    · cases e'
    · cases e'; exact hg'
  haveI : Inhabited Iw := ⟨⟨none, 0, []⟩⟩
  obtain ⟨q, hq⟩ := Deep.choose_lt each
  refine ⟨(List.range n).map q, by simp, ⟨by simpa using hn, .inr ⟨g, 0, rfl, fun i x hi => ?_⟩⟩, fun p hp => by cases hp; exact (rowlt h.row (b := g) rfl).1, fun x hx => ?_⟩
  · have hil : i < n := by have := (List.getElem?_eq_some_iff.1 hi).1; simpa using this
    simp [hil] at hi
    subst hi
    rw [Nat.zero_add]
    exact (hq i hil).1
  · obtain ⟨i, hi, rfl⟩ := List.mem_map.1 hx
    exact (hq i (List.mem_range.1 hi)).2
theorem GotII.tail {w : World} {g lo : Nat} {iws : List Iw} (hh : GotII w lo (some ⟨g, 0, none⟩) iws) : GotII w lo (some ⟨g, 1, none⟩) iws.tail := by
  have h := hh.1
  refine ⟨⟨by rw [List.length_tail]; have := h.1; omega, ?_⟩, fun p hp => by cases hp; exact hh.2.1 ⟨g, 0, none⟩ rfl, fun x hx => hh.2.2 x (List.mem_of_mem_tail hx)⟩
  rcases h.2 with h2 | ⟨b, o, e, hc⟩
  · exact .inl (by rw [h2]; rfl)
  · cases e
    refine .inr ⟨g, 1, rfl, fun i x hi => ?_⟩
    have h5 := hc (i + 1) x (by simpa using hi)
    rw [show 0 + (i + 1) = 1 + i by omega] at h5
    exact h5

def RetCu (β : Nat) (a : Option Addr) (c : Nat) (bs : List Nat) (w : World) (e : Ending) (w' : World) : Prop := ∃ av n cc xs, e = .returned (.agg #[.slice av n cc]) ∧ xs.length = n ∧ GotII w' w.heap.size av xs ∧ Rr w' β a c bs ∧ Dw β w w'

set_option maxHeartbeats 1000000 in
theorem cuts_any (β : Nat) (a : Option Addr) (c : Nat) (bs : List Nat) (da : Option Addr) (dc n : Nat) (ds : List Dc) (w : World) (hr : Rr w β a c bs) (hd : RdD w da ds) (hn : ds.length = n) (hβ : ∀ p, da = some p → p.block ≠ β) (h1 : 1 ≤ n) (h6 : n ≤ 6) (hw : ∀ x ∈ ds, 1 ≤ x.2 ∧ x.2 ≤ 200) :
    Calls Try.prog 36 #[.pointer (some ⟨β, 0, none⟩), .slice da n dc] w (RetCu β a c bs w) := by
  have hlt := hr.lt
  have HR := kide hr
  have HD := kide hd
  have HW := kide hw
  have HB := kide hβ
  have HN := kide hn
  clear hr hd hw hβ hn
  go_enter Try.func36, Try.ntmps36
  go_wp2_with fail
  refine Calls.mono (l6None_any da n dc h1 h6 _) ?_
  rintro e w1 ⟨g, cc, vs, rfl, hvl, hcq, -, hb1⟩
  have hsz1 : w.heap.size + 1 ≤ w1.heap.size := by have := hb1.size; simpa using this
  have hbW : Below w.heap.size w w1 := ((Below.refl _ _).alloc (Nat.le_refl _) _).trans (hb1.mono (by simp))
  have C0 : Hid (Cu w (w1.alloc (Obj.cells #[Value.slice (some ⟨g, 0, none⟩) n cc] 27)) β a c bs w1.heap.size w.heap.size g cc n 200 vs (List.replicate n [])) := by
    have hba : Below w1.heap.size w1 (w1.alloc (Obj.cells #[Value.slice (some ⟨g, 0, none⟩) n cc] 27)) := (Below.refl _ _).alloc (Nat.le_refl _) _
    refine ⟨heap_alloc_new _ _, ?_, (hcq.lower (by simp)).later hba, hvl, fun i xs hi => ?_, (HR.out.later hbW).later hba, (Dw.of hbW).trans (Dw.of hba)⟩
    · exact B1.later (B1.later (show B1 (w.alloc (Obj.cells #[Value.slice none 0 0] 27)) w.heap.size (.slice none 0 0) 27 from heap_alloc_new _ _) hb1) hba
    · rw [List.getElem?_replicate] at hi
      split at hi
      · simp at hi
        subst hi
        exact ⟨by simp, by simp⟩
      · cases hi
  clear hcq hvl hb1 hbW
  go_wp2_with fail
  generalize w1.alloc (Obj.cells #[Value.slice (some ⟨g, 0, none⟩) n cc] 27) = w2 at *
  obtain ⟨xb, hxb⟩ : ∃ xb, w1.heap.size = xb := ⟨_, rfl⟩
  obtain ⟨rb, hrb⟩ : ∃ rb, w.heap.size = rb := ⟨_, rfl⟩
  have hx1 : w.heap.size ≤ xb := by omega
  have hr1 : w.heap.size ≤ rb := by omega
  have hxr : xb ≠ rb := by omega
  rw [hxb, hrb] at C0
  simp only [hxb, hrb]
  have HRB := kide hrb
  clear hxb hrb hsz1
  go_loopw [6] (fun q wr => ∃ (k : Nat) (vs : List Value) (xss : List (List Int)), k ≤ n ∧ q = .int .i64 (k : Int) ∧ Cu w wr β a c bs xb rb g cc n 200 vs xss ∧ ∀ i xs, k ≤ i → xss[i]? = some xs → xs = []) (fun q _ => n - (intOf q).toNat)
  case atStart =>
    refine ⟨0, _, _, Nat.zero_le _, rfl, C0.out, fun i xs _ hi => ?_⟩
    rw [List.getElem?_replicate] at hi
    split at hi
    · simp at hi; exact hi
    · cases hi
  case round =>
    clear C0
    obtain ⟨k, vs, xss, hk, rfl, hcu, hem⟩ := hrel
    have CU := kide hcu
    have HE := kide hem
    clear hcu hem
    by_cases hkn : k < n
    · obtain ⟨-, hdd, h | ⟨b, o, rfl, hc⟩⟩ := HD.out.farB CU.out.dw HB.out
      · have := HN.out; rw [h] at this; simp at this; omega
      obtain ⟨⟨nm, y⟩, gd⟩ : ∃ d, ds[k]? = some d := ⟨ds[k]'(by rw [HN.out]; exact hkn), List.getElem?_eq_getElem _⟩
      obtain ⟨hy1, hy2⟩ := HW.out _ (List.mem_of_getElem? gd)
      simp only [] at hy1 hy2
      have GD := kide gd
      clear hdd hc gd
      go_wp2_with fail
      obtain ⟨wo, hwo⟩ : ∃ wo, wo = wr := ⟨_, rfl⟩
      subst hwo
      go_loopw [7] (fun q wr => ∃ (p : Nat) (vs : List Value) (xss : List (List Int)), 1 ≤ p ∧ p ≤ 200 ∧ q = .int .i64 (p : Int) ∧ Cu w wr β a c bs xb rb g cc n 200 vs xss ∧ (∀ xs, xss[k]? = some xs → xs.length < p) ∧ ∀ i xs, k + 1 ≤ i → xss[i]? = some xs → xs = []) (fun q _ => 200 - (intOf q).toNat)
      case atStart => exact ⟨1, vs, xss, Nat.le_refl _, by omega, rfl, CU.out, fun xs hx => by rw [HE.out k xs (Nat.le_refl _) hx]; simp, fun i xs hi => HE.out i xs (by omega)⟩
      case round =>
        clear CU HE
        obtain ⟨p, vs, xss, hp1, hp2, rfl, hcu, hlen, hem⟩ := hrel
        have CU := kide hcu
        have HE := kide hem
        have HL := kide hlen
        obtain ⟨-, hdd, h | ⟨b, o, e, hc⟩⟩ := HD.out.farB hcu.dw HB.out
        · have := HN.out; rw [h] at this; simp at this; omega
        cases e
        obtain ⟨-, d1⟩ := hc k _ GD.out
        simp only [] at d1
        have i0 : (k : Int) < (n : Int) := by omega
        clear hdd hc hcu hem hlen
        by_cases hpy : (p : Int) < y
        · have hp200i : (p : Int) < 200 := by omega
          have HP1 := kide hp1
          have HP2 := kide hp2
          clear hp1 hp2
          go_wp2_with fail
          refine Calls.mono (once_any 6 (by omega) (by omega) β a c bs wr CU.out.rr) ?_
          rintro e w4 ⟨x4, rfl, r4, d4⟩
          have C4 := kide (CU.out.far d4 r4 hlt hx1 hr1)
          clear r4 d4 CU d1
          have hp1 := HP1.out
          have hp200 : p < 200 := by omega
          cases x4 with
          | true =>
            obtain ⟨u, xs, ua, uc, gu, gx, eu, hou, c4, f4⟩ := C4.out.at hkn
            subst eu
            have b4 := C4.out.box.cell
            have hll := HL.out xs gx
            have GU := kide gu
            have GX := kide gx
            clear gu gx f4 c4 b4
            go_wp2_with fail
            refine wp_region_x (SA := (fun uu => uu.cell? ⟨xb, 0, none⟩ = some (.slice (some ⟨g, 0, none⟩) n cc) ∧ uu.cell? ⟨g, k, none⟩ = some (.slice ua xs.length uc))) (SB := fun _ => True) (k := 12) (by kernel_rfl) ?_
            have hdr : Below w4.heap.size w4 w4.drew := (Below.refl _ _).drew
            have CD := kide (C4.out.later hdr)
            have OD4 := kide (hou.later hdr)
            clear hdr
            generalize w4.drew = u0 at *
            have SS : Hid ((fun uu => uu.cell? ⟨xb, 0, none⟩ = some (.slice (some ⟨g, 0, none⟩) n cc) ∧ uu.cell? ⟨g, k, none⟩ = some (.slice ua xs.length uc)) u0) := ⟨CD.out.box.cell, (CD.out.ct.cell GU.out).1⟩
            try go_simp
            refine wpAnyX_both (T := (fun _ => True)) (i := 0) (v := Value.pointer (some ⟨xb, 0, none⟩)) rfl (by kernel_rfl) (by kernel_rfl) (by kernel_rfl) (fun _ _ _ h => by first | exact h | exact h.elim) (by decide) (fun _ _ => trivial) (fun _ _ => trivial) (Sx.before (by kernel_rfl) SS.out) (Or.inl ⟨by rfl, fun uu hu => by go_simp⟩) ?_
            try go_simp
            refine wpAnyX_take (i := 1) (v := Value.slice (some ⟨g, 0, none⟩) n cc) rfl (by kernel_rfl) (by kernel_rfl) (by kernel_rfl) (fun _ _ _ h => by first | exact h | exact h.elim) (by decide) (by kernel_rfl) (by kernel_rfl) (SS.out) (Or.inl ⟨by rfl, fun uu hu => by obtain ⟨e1, e2⟩ := hu; go_simp⟩) ?_
            try go_simp
            refine wpAnyX_both (T := (fun _ => True)) (i := 2) (v := Value.int .i64 (k : Int)) rfl (by kernel_rfl) (by kernel_rfl) (by kernel_rfl) (fun _ _ _ h => by first | exact h | exact h.elim) (by decide) (fun _ _ => trivial) (fun _ _ => trivial) (Sx.before (by kernel_rfl) SS.out) (Or.inl ⟨by rfl, fun uu hu => by go_simp⟩) ?_
            try go_simp
            refine wpAnyX_both (T := (fun _ => True)) (i := 3) (v := Value.pointer (some ⟨xb, 0, none⟩)) rfl (by kernel_rfl) (by kernel_rfl) (by kernel_rfl) (fun _ _ _ h => by first | exact h | exact h.elim) (by decide) (fun _ _ => trivial) (fun _ _ => trivial) (Sx.before (by kernel_rfl) SS.out) (Or.inl ⟨by rfl, fun uu hu => by go_simp⟩) ?_
            try go_simp
            refine wpAnyX_take (i := 4) (v := Value.slice (some ⟨g, 0, none⟩) n cc) rfl (by kernel_rfl) (by kernel_rfl) (by kernel_rfl) (fun _ _ _ h => by first | exact h | exact h.elim) (by decide) (by kernel_rfl) (by kernel_rfl) (SS.out) (Or.inl ⟨by rfl, fun uu hu => by obtain ⟨e1, e2⟩ := hu; go_simp⟩) ?_
            try go_simp
            refine wpAnyX_both (T := (fun _ => True)) (i := 5) (v := Value.int .i64 (k : Int)) rfl (by kernel_rfl) (by kernel_rfl) (by kernel_rfl) (fun _ _ _ h => by first | exact h | exact h.elim) (by decide) (fun _ _ => trivial) (fun _ _ => trivial) (Sx.before (by kernel_rfl) SS.out) (Or.inl ⟨by rfl, fun uu hu => by go_simp⟩) ?_
            try go_simp
            refine wpAnyX_both (T := (fun _ => True)) (i := 6) (v := Value.pointer (some ⟨g, k, none⟩)) rfl (by kernel_rfl) (by kernel_rfl) (by kernel_rfl) (fun _ _ _ h => by first | exact h | exact h.elim) (by decide) (fun _ _ => trivial) (fun _ _ => trivial) (Sx.before (by kernel_rfl) SS.out) (Or.inl ⟨by rfl, fun uu hu => by go_simp⟩) ?_
            try go_simp
            refine wpAnyX_take (i := 7) (v := Value.slice ua xs.length uc) rfl (by kernel_rfl) (by kernel_rfl) (by kernel_rfl) (fun _ _ _ h => by first | exact h | exact h.elim) (by decide) (by kernel_rfl) (by kernel_rfl) (SS.out) (Or.inl ⟨by rfl, fun uu hu => by obtain ⟨e1, e2⟩ := hu; go_simp⟩) ?_
            try go_simp
            refine wpAnyX_both (T := (fun _ => True)) (i := 8) (v := Value.int .i64 (p : Int)) rfl (by kernel_rfl) (by kernel_rfl) (by kernel_rfl) (fun _ _ _ h => by first | exact h | exact h.elim) (by decide) (fun _ _ => trivial) (fun _ _ => trivial) (Sx.before (by kernel_rfl) SS.out) (Or.inl ⟨by rfl, fun uu hu => by go_simp⟩) ?_
            try go_simp
            refine wpAnyX_ready (rs := [9]) (by kernel_rfl) (by simp) (AllX.cons rfl (fun K hK => ?_) AllX.nil)
            go_simp
            have hb5 : Below u0.heap.size u0 (u0.alloc (Obj.cells #[Value.int .i64 (p : Int)] 2)) := (Below.refl _ _).alloc (Nat.le_refl _) _
            have q0 : (u0.alloc (Obj.cells #[Value.int .i64 (p : Int)] 2)).cell? ⟨u0.heap.size, 0, none⟩ = some (.int .i64 (p : Int)) := by simp
            have C5 := kide (CD.out.later hb5)
            have O5 := kide (OD4.out.later hb5)
            have B5 := kide hb5
            clear hb5 SS
            obtain ⟨gx, hgx⟩ : ∃ z, u0.heap.size = z := ⟨_, rfl⟩
            rw [hgx] at q0
            simp only [hgx]
            clear hgx
            generalize u0.alloc (Obj.cells #[Value.int .i64 (p : Int)] 2) = u1 at *
            have SS : Hid ((fun uu => uu.cell? ⟨xb, 0, none⟩ = some (.slice (some ⟨g, 0, none⟩) n cc) ∧ uu.cell? ⟨g, k, none⟩ = some (.slice ua xs.length uc)) u1) := ⟨C5.out.box.cell, (C5.out.ct.cell GU.out).1⟩
            refine hK _ _ (Sx.before (by kernel_rfl) SS.out) ?_
            clear hK K
            try go_simp
            refine wpAnyX_ready (rs := [10]) (by kernel_rfl) (by simp) (AllX.cons rfl (fun K hK => ?_) AllX.nil)
            refine step_appI u1 rfl _ _ rfl w.heap.size (.slice ua xs.length uc) xs (p : Int) (by first | rfl | simp [Act.eval]) O5.out gx 1 (by first | rfl | simp [Act.eval]) q0 (by omega) C5.out.dw.size ?_
            intro gn cap u2 ho6 hg6 hat6
            have C6 := kide (C5.out.step (M' := 200) GU.out GX.out (by omega) (by omega) (by unfold in64; omega) (Below.refl _ _) ho6 hg6 hat6 HR.out)
            have hne : (Value.slice ua xs.length uc).ownBlock ≠ some g := rowapart C5.out.ct.row O5.out rfl
            have e6 : u2.heap[g]? = u1.heap[g]? := hg6.block g (rowlt C5.out.ct.row (b := g) rfl).2 (fun e => hne e.symm)
            have c6 : u2.cell? ⟨g, k, none⟩ = some (.slice ua xs.length uc) := (World.cell?_of_block (a := ⟨g, k, none⟩) e6).trans (C5.out.ct.cell GU.out).1
            have f6 : u2.frozen? ⟨g, k, none⟩ = false := (World.frozen?_of_block (a := ⟨g, k, none⟩) e6).trans (C5.out.ct.cell GU.out).2
            have x5 := C5.out.box
            have b6 : u2.cell? ⟨xb, 0, none⟩ = some (.slice (some ⟨g, 0, none⟩) n cc) := (x5.grown hg6 (fun e => by obtain ⟨c9, e9⟩ := rowty O5.out e; unfold B1 at x5; rw [x5] at e9; cases e9)).cell
            clear SS ho6 hg6 hat6 e6 hne q0 x5
            have SS : Hid ((fun uu => uu.cell? ⟨xb, 0, none⟩ = some (.slice (some ⟨g, 0, none⟩) n cc) ∧ uu.cell? ⟨g, k, none⟩ = some (.slice ua xs.length uc)) u2) := ⟨b6, c6⟩
            refine hK _ _ (Sx.before (by kernel_rfl) SS.out) ?_
            clear hK K
            try go_simp
            refine wpAnyX_both (T := (fun _ => True)) (i := 11) (v := Value.pointer (some ⟨g, k, none⟩)) rfl (by kernel_rfl) (by kernel_rfl) (by kernel_rfl) (fun _ _ _ h => by first | exact h | exact h.elim) (by decide) (fun _ _ => trivial) (fun _ _ => trivial) (Sx.before (by kernel_rfl) SS.out) (Or.inl ⟨by rfl, fun uu hu => by go_simp⟩) ?_
            try go_simp
            refine wpAnyX_ready (rs := [12]) (by kernel_rfl) (by simp) (AllX.cons rfl (fun K hK => ?_) AllX.nil)
            go_simp
            refine hK _ _ (Sx.behind (by kernel_rfl) trivial) ?_
            clear hK K
            try go_simp
            refine wpAnyX_done (by kernel_rfl) ?_ _
            go_wp2_with fail
            go_roundw
            case rel =>
              refine ⟨p + 1, _, _, by omega, by omega, by go_num, C6.out, fun zs hz => ?_, fun i zs hi hz => ?_⟩
              · rw [List.getElem?_set_self (by have := (List.getElem?_eq_some_iff.1 GX.out).1; exact this)] at hz
                simp at hz
                subst hz
                simp; omega
              · rw [List.getElem?_set_ne (by omega)] at hz
                exact HE.out i zs hi hz
            case measure => simp [intOf]; omega
          | false =>
            go_wp2_with fail
            go_roundw
            case rel => exact ⟨p + 1, vs, xss, by omega, by omega, by go_num, C4.out, fun xs hx => by have := HL.out xs hx; omega, HE.out⟩
            case measure => simp [intOf]; omega
        · go_wp2_with fail
          go_roundw
          case rel => exact ⟨k + 1, vs, xss, by omega, by go_num, CU.out, HE.out⟩
          case measure => simp [intOf]; omega
    · clear HE
      go_wp2_with fail
      refine Calls.mono (below_any 30 (by omega) β a c bs wr CU.out.rr) ?_
      rintro e w4 ⟨x4, rfl, hx4, r4, d4⟩
      have C4 := kide (CU.out.far d4 r4 hlt hx1 hr1)
      clear r4 d4 CU
      by_cases e0 : x4 = 0
      · subst e0
        go_wp2_with fail
        refine Calls.mono (below_any n (by omega) β a c bs w4 C4.out.rr) ?_
        rintro e w5 ⟨kk, rfl, hkk, r5, d5⟩
        have C5 := kide (C4.out.far d5 r5 hlt hx1 hr1)
        have hkn2 : kk < n := by omega
        clear r5 d5 C4 hkk hkn
        obtain ⟨u, xs, ua, uc, gu, gx, eu, hou, -, -⟩ := C5.out.at hkn2
        subst eu
        have GU := kide gu
        have GX := kide gx
        obtain ⟨-, hdd, h | ⟨b, o, rfl, hc⟩⟩ := HD.out.farB C5.out.dw HB.out
        · have := HN.out; rw [h] at this; simp at this; omega
        obtain ⟨⟨nm, y⟩, gd⟩ : ∃ d, ds[kk]? = some d := ⟨ds[kk]'(by rw [HN.out]; exact hkn2), List.getElem?_eq_getElem _⟩
        obtain ⟨hy1, hy2⟩ := HW.out _ (List.mem_of_getElem? gd)
        obtain ⟨-, d1⟩ := hc kk _ gd
        simp only [] at d1 hy1 hy2
        obtain ⟨V, rfl⟩ := Int.eq_ofNat_of_zero_le (show 0 ≤ y by omega)
        have i0 : (kk : Int) < (n : Int) := by omega
        have hbβ := HB.out ⟨b, o, none⟩ rfl
        simp only [] at hbβ
        have lb := block_lt_of_cell d1
        have hok5 := (C5.out.ok kk xs GX.out).1
        have hbw : b < w.heap.size := by
          rcases HD.out.2.2 with h | ⟨b', o', e, hc0⟩
          · rw [h] at gd; simp at gd
          · cases e; exact block_lt_of_cell (hc0 kk _ gd).1
        clear gu gx hdd hc gd
        go_wp2_with fail
        refine wp_region_x (SA := (fun uu => uu.cell? ⟨xb, 0, none⟩ = some (.slice (some ⟨g, 0, none⟩) n cc) ∧ uu.cell? ⟨g, kk, none⟩ = some (.slice ua xs.length uc) ∧ uu.cell? ⟨b, o + kk * 2 + 1, none⟩ = some (.int .i64 (V : Int)))) (SB := fun _ => True) (k := 18) (by kernel_rfl) ?_
        have hdr : Below w5.heap.size w5 w5.drew := (Below.refl _ _).drew
        have CD := kide (C5.out.later hdr)
        have OD4 := kide (hou.later hdr)
        have d2 := (kcell hdr b (o + kk * 2 + 1) lb).trans d1
        have lb2 : b < w5.drew.heap.size := lb
        clear hdr hou d1 C5
        generalize w5.drew = u0 at *
        have SS : Hid ((fun uu => uu.cell? ⟨xb, 0, none⟩ = some (.slice (some ⟨g, 0, none⟩) n cc) ∧ uu.cell? ⟨g, kk, none⟩ = some (.slice ua xs.length uc) ∧ uu.cell? ⟨b, o + kk * 2 + 1, none⟩ = some (.int .i64 (V : Int))) u0) := ⟨CD.out.box.cell, (CD.out.ct.cell GU.out).1, d2⟩
        try go_simp
        refine wpAnyX_both (T := (fun _ => True)) (i := 0) (v := Value.pointer (some ⟨xb, 0, none⟩)) rfl (by kernel_rfl) (by kernel_rfl) (by kernel_rfl) (fun _ _ _ h => by first | exact h | exact h.elim) (by decide) (fun _ _ => trivial) (fun _ _ => trivial) (Sx.before (by kernel_rfl) SS.out) (Or.inl ⟨by rfl, fun uu hu => by go_simp⟩) ?_
        try go_simp
        refine wpAnyX_take (i := 1) (v := Value.slice (some ⟨g, 0, none⟩) n cc) rfl (by kernel_rfl) (by kernel_rfl) (by kernel_rfl) (fun _ _ _ h => by first | exact h | exact h.elim) (by decide) (by kernel_rfl) (by kernel_rfl) (SS.out) (Or.inl ⟨by rfl, fun uu hu => by obtain ⟨e1, e2, e3⟩ := hu; go_simp⟩) ?_
        try go_simp
        refine wpAnyX_both (T := (fun _ => True)) (i := 2) (v := Value.int .i64 (kk : Int)) rfl (by kernel_rfl) (by kernel_rfl) (by kernel_rfl) (fun _ _ _ h => by first | exact h | exact h.elim) (by decide) (fun _ _ => trivial) (fun _ _ => trivial) (Sx.before (by kernel_rfl) SS.out) (Or.inl ⟨by rfl, fun uu hu => by go_simp⟩) ?_
        try go_simp
        refine wpAnyX_both (T := (fun _ => True)) (i := 3) (v := Value.pointer (some ⟨xb, 0, none⟩)) rfl (by kernel_rfl) (by kernel_rfl) (by kernel_rfl) (fun _ _ _ h => by first | exact h | exact h.elim) (by decide) (fun _ _ => trivial) (fun _ _ => trivial) (Sx.before (by kernel_rfl) SS.out) (Or.inl ⟨by rfl, fun uu hu => by go_simp⟩) ?_
        try go_simp
        refine wpAnyX_take (i := 4) (v := Value.slice (some ⟨g, 0, none⟩) n cc) rfl (by kernel_rfl) (by kernel_rfl) (by kernel_rfl) (fun _ _ _ h => by first | exact h | exact h.elim) (by decide) (by kernel_rfl) (by kernel_rfl) (SS.out) (Or.inl ⟨by rfl, fun uu hu => by obtain ⟨e1, e2, e3⟩ := hu; go_simp⟩) ?_
        try go_simp
        refine wpAnyX_both (T := (fun _ => True)) (i := 5) (v := Value.int .i64 (kk : Int)) rfl (by kernel_rfl) (by kernel_rfl) (by kernel_rfl) (fun _ _ _ h => by first | exact h | exact h.elim) (by decide) (fun _ _ => trivial) (fun _ _ => trivial) (Sx.before (by kernel_rfl) SS.out) (Or.inl ⟨by rfl, fun uu hu => by go_simp⟩) ?_
        try go_simp
        refine wpAnyX_both (T := (fun _ => True)) (i := 6) (v := Value.pointer (some ⟨g, kk, none⟩)) rfl (by kernel_rfl) (by kernel_rfl) (by kernel_rfl) (fun _ _ _ h => by first | exact h | exact h.elim) (by decide) (fun _ _ => trivial) (fun _ _ => trivial) (Sx.before (by kernel_rfl) SS.out) (Or.inl ⟨by rfl, fun uu hu => by go_simp⟩) ?_
        try go_simp
        refine wpAnyX_take (i := 7) (v := Value.slice ua xs.length uc) rfl (by kernel_rfl) (by kernel_rfl) (by kernel_rfl) (fun _ _ _ h => by first | exact h | exact h.elim) (by decide) (by kernel_rfl) (by kernel_rfl) (SS.out) (Or.inl ⟨by rfl, fun uu hu => by obtain ⟨e1, e2, e3⟩ := hu; go_simp⟩) ?_
        try go_simp
        refine wpAnyX_both (T := (fun _ => True)) (i := 8) (v := Value.pointer (some ⟨β, 0, none⟩)) rfl (by kernel_rfl) (by kernel_rfl) (by kernel_rfl) (fun _ _ _ h => by first | exact h | exact h.elim) (by decide) (fun _ _ => trivial) (fun _ _ => trivial) (Sx.before (by kernel_rfl) SS.out) (Or.inl ⟨by rfl, fun uu hu => by go_simp⟩) ?_
        try go_simp
        refine wpAnyX_both (T := (fun _ => True)) (i := 9) (v := Value.slice (some ⟨b, o, none⟩) n dc) rfl (by kernel_rfl) (by kernel_rfl) (by kernel_rfl) (fun _ _ _ h => by first | exact h | exact h.elim) (by decide) (fun _ _ => trivial) (fun _ _ => trivial) (Sx.before (by kernel_rfl) SS.out) (Or.inl ⟨by rfl, fun uu hu => by go_simp⟩) ?_
        try go_simp
        refine wpAnyX_both (T := (fun _ => True)) (i := 10) (v := Value.int .i64 (kk : Int)) rfl (by kernel_rfl) (by kernel_rfl) (by kernel_rfl) (fun _ _ _ h => by first | exact h | exact h.elim) (by decide) (fun _ _ => trivial) (fun _ _ => trivial) (Sx.before (by kernel_rfl) SS.out) (Or.inl ⟨by rfl, fun uu hu => by go_simp⟩) ?_
        try go_simp
        refine wpAnyX_both (T := (fun _ => True)) (i := 11) (v := Value.pointer (some ⟨b, o + kk * 2, none⟩)) rfl (by kernel_rfl) (by kernel_rfl) (by kernel_rfl) (fun _ _ _ h => by first | exact h | exact h.elim) (by decide) (fun _ _ => trivial) (fun _ _ => trivial) (Sx.before (by kernel_rfl) SS.out) (Or.inl ⟨by rfl, fun uu hu => by go_simp⟩) ?_
        try go_simp
        refine wpAnyX_both (T := (fun _ => True)) (i := 12) (v := Value.pointer (some ⟨b, o + kk * 2 + 1, none⟩)) rfl (by kernel_rfl) (by kernel_rfl) (by kernel_rfl) (fun _ _ _ h => by first | exact h | exact h.elim) (by decide) (fun _ _ => trivial) (fun _ _ => trivial) (Sx.before (by kernel_rfl) SS.out) (Or.inl ⟨by rfl, fun uu hu => by go_simp⟩) ?_
        try go_simp
        refine wpAnyX_take (i := 13) (v := Value.int .i64 (V : Int)) rfl (by kernel_rfl) (by kernel_rfl) (by kernel_rfl) (fun _ _ _ h => by first | exact h | exact h.elim) (by decide) (by kernel_rfl) (by kernel_rfl) (SS.out) (Or.inl ⟨by rfl, fun uu hu => by obtain ⟨e1, e2, e3⟩ := hu; go_simp⟩) ?_
        try go_simp
        refine wpAnyX_ready (rs := [14]) (by kernel_rfl) (by simp) (AllX.cons rfl (fun K hK => ?_) AllX.nil)
        go_simp
        refine Calls.mono (off_any 0 V (by omega) (by omega) β a c bs u0 CD.out.rr) ?_
        rintro e uz ⟨z, rfl, hz1, hz2, rz, dz⟩
        have CZ := kide (CD.out.far dz rz hlt hx1 hr1)
        have OZ := kide (OD4.out.far dz hlt)
        have d3 : uz.cell? ⟨b, o + kk * 2 + 1, none⟩ = some (.int .i64 (V : Int)) := (World.cell?_of_block (a := ⟨b, _, none⟩) (dz.block b lb2 (fun e => by cases e; exact hbβ rfl))).trans d2
        have lb3 : b < uz.heap.size := block_lt_of_cell d3
        clear SS rz dz CD OD4 d2 lb2
        have SS : Hid ((fun uu => uu.cell? ⟨xb, 0, none⟩ = some (.slice (some ⟨g, 0, none⟩) n cc) ∧ uu.cell? ⟨g, kk, none⟩ = some (.slice ua xs.length uc) ∧ uu.cell? ⟨b, o + kk * 2 + 1, none⟩ = some (.int .i64 (V : Int))) uz) := ⟨CZ.out.box.cell, (CZ.out.ct.cell GU.out).1, d3⟩
        refine hK _ _ (Sx.before (by kernel_rfl) SS.out) ?_
        clear hK K
        try go_simp
        refine wpAnyX_ready (rs := [15]) (by kernel_rfl) (by simp) (AllX.cons rfl (fun K hK => ?_) AllX.nil)
        go_simp
        have hb5 : Below uz.heap.size uz (uz.alloc (Obj.cells #[Value.int .i64 z] 2)) := (Below.refl _ _).alloc (Nat.le_refl _) _
        have q0 : (uz.alloc (Obj.cells #[Value.int .i64 z] 2)).cell? ⟨uz.heap.size, 0, none⟩ = some (.int .i64 z) := by simp
        have C5 := kide (CZ.out.later hb5)
        have O5 := kide (OZ.out.later hb5)
        have d4 := (kcell hb5 b (o + kk * 2 + 1) lb3).trans d3
        clear hb5 SS CZ OZ d3
        obtain ⟨gx, hgx⟩ : ∃ z, uz.heap.size = z := ⟨_, rfl⟩
        rw [hgx] at q0
        simp only [hgx]
        clear hgx
        generalize uz.alloc (Obj.cells #[Value.int .i64 z] 2) = u1 at *
        have SS : Hid ((fun uu => uu.cell? ⟨xb, 0, none⟩ = some (.slice (some ⟨g, 0, none⟩) n cc) ∧ uu.cell? ⟨g, kk, none⟩ = some (.slice ua xs.length uc) ∧ uu.cell? ⟨b, o + kk * 2 + 1, none⟩ = some (.int .i64 (V : Int))) u1) := ⟨C5.out.box.cell, (C5.out.ct.cell GU.out).1, d4⟩
        refine hK _ _ (Sx.before (by kernel_rfl) SS.out) ?_
        clear hK K
        try go_simp
        refine wpAnyX_ready (rs := [16]) (by kernel_rfl) (by simp) (AllX.cons rfl (fun K hK => ?_) AllX.nil)
        refine step_appI u1 rfl _ _ rfl w.heap.size (.slice ua xs.length uc) xs z (by first | rfl | simp [Act.eval]) O5.out gx 1 (by first | rfl | simp [Act.eval]) q0 (by omega) C5.out.dw.size ?_
        intro gn cap u2 ho6 hg6 hat6
        have C6 := kide (C5.out.step (M' := 201) GU.out GX.out (by omega) (by omega) ⟨hz1, hz2⟩ (Below.refl _ _) ho6 hg6 hat6 HR.out)
        have hne : (Value.slice ua xs.length uc).ownBlock ≠ some g := rowapart C5.out.ct.row O5.out rfl
        have e6 : u2.heap[g]? = u1.heap[g]? := hg6.block g (rowlt C5.out.ct.row (b := g) rfl).2 (fun e => hne e.symm)
        have c6 : u2.cell? ⟨g, kk, none⟩ = some (.slice ua xs.length uc) := (World.cell?_of_block (a := ⟨g, kk, none⟩) e6).trans (C5.out.ct.cell GU.out).1
        have f6 : u2.frozen? ⟨g, kk, none⟩ = false := (World.frozen?_of_block (a := ⟨g, kk, none⟩) e6).trans (C5.out.ct.cell GU.out).2
        have x5 := C5.out.box
        have b6 : u2.cell? ⟨xb, 0, none⟩ = some (.slice (some ⟨g, 0, none⟩) n cc) := (x5.grown hg6 (fun e => by obtain ⟨c9, e9⟩ := rowty O5.out e; unfold B1 at x5; rw [x5] at e9; cases e9)).cell
        have d6 : u2.cell? ⟨b, o + kk * 2 + 1, none⟩ = some (.int .i64 (V : Int)) := (World.cell?_of_block (a := ⟨b, _, none⟩) (hg6.block b (block_lt_of_cell d4) (fun e => by have h9 := (O5.out.lt e.symm).1; omega))).trans d4
        clear SS ho6 hg6 hat6 e6 hne q0 x5 d4
        have SS : Hid ((fun uu => uu.cell? ⟨xb, 0, none⟩ = some (.slice (some ⟨g, 0, none⟩) n cc) ∧ uu.cell? ⟨g, kk, none⟩ = some (.slice ua xs.length uc) ∧ uu.cell? ⟨b, o + kk * 2 + 1, none⟩ = some (.int .i64 (V : Int))) u2) := ⟨b6, c6, d6⟩
        refine hK _ _ (Sx.before (by kernel_rfl) SS.out) ?_
        clear hK K
        try go_simp
        refine wpAnyX_both (T := (fun _ => True)) (i := 17) (v := Value.pointer (some ⟨g, kk, none⟩)) rfl (by kernel_rfl) (by kernel_rfl) (by kernel_rfl) (fun _ _ _ h => by first | exact h | exact h.elim) (by decide) (fun _ _ => trivial) (fun _ _ => trivial) (Sx.before (by kernel_rfl) SS.out) (Or.inl ⟨by rfl, fun uu hu => by go_simp⟩) ?_
        try go_simp
        refine wpAnyX_ready (rs := [18]) (by kernel_rfl) (by simp) (AllX.cons rfl (fun K hK => ?_) AllX.nil)
        go_simp
        refine hK _ _ (Sx.behind (by kernel_rfl) trivial) ?_
        clear hK K
        try go_simp
        refine wpAnyX_done (by kernel_rfl) ?_ _
        generalize (u2.setCell ⟨g, kk, none⟩ (.slice (some ⟨gn, 0, none⟩) (xs.length + 1) cap)) = u3 at *
        have b7 := C6.out.box.cell
        have rc7 := C6.out.rbox.cell
        have rf7 := C6.out.rbox.froz
        obtain ⟨iws, hil, hir⟩ := (C6.out.ct.other (g := rb) (i := 0) C6.out.rbox (by decide) (by decide) (.slice (some ⟨g, 0, none⟩) n cc)).rdII C6.out.vl (by omega) C6.out.ok
        have HIL := kide hil
        have HIR := kide hir
        clear hil hir
        go_wp2_with fail
        exact bodyPost_ret (v := .agg #[.slice (some ⟨g, 0, none⟩) n cc]) (by simp [results, Try.results36, go_sem, b7, rc7]) rfl ⟨some ⟨g, 0, none⟩, n, cc, iws, rfl, HIL.out, HIR.out, HR.out.far C6.out.rr (gsc u3 ⟨rb, 0, none⟩ _) (fun k e => by cases e; exact hr1), C6.out.dw.own (gsc u3 ⟨rb, 0, none⟩ _) (fun k e => by cases e; exact hr1)⟩
      by_cases e1 : x4 = 1
      · subst e1
        have b4 := C4.out.box.cell
        have fb4 := C4.out.box.froz
        have rc4 := C4.out.rbox.cell
        have rf4 := C4.out.rbox.froz
        have n1 : (1 : Int) ≤ (n : Int) := by omega
        have HGB : Hid (w.heap.size ≤ g) := (rowlt C4.out.ct.row (b := g) rfl).1
        have HCAP : Hid (n ≤ cc) := by
          have h2 := C4.out.ct.row.2
          rw [C4.out.vl] at h2
          rcases h2 with ⟨e', -⟩ | ⟨g', cap, cur, e', hg', hh', hc1, -⟩
          · cases e'
          · cases e'; exact hc1
        have FIN : Hid (∀ v : Value, Rr ((w4.setCell ⟨xb, 0, none⟩ v).setCell ⟨rb, 0, none⟩ v) β a c bs ∧ Dw β w ((w4.setCell ⟨xb, 0, none⟩ v).setCell ⟨rb, 0, none⟩ v) ∧ ∃ iws : List Iw, iws.length = n ∧ GotII ((w4.setCell ⟨xb, 0, none⟩ v).setCell ⟨rb, 0, none⟩ v) w.heap.size (some ⟨g, 0, none⟩) iws) := fun v =>
          ⟨HR.out.far (HR.out.far C4.out.rr (gsc w4 ⟨xb, 0, none⟩ _) (fun k e => by cases e; exact hx1)) (gsc _ ⟨rb, 0, none⟩ _) (fun k e => by cases e; exact hr1), (C4.out.dw.own (gsc w4 ⟨xb, 0, none⟩ _) (fun k e => by cases e; exact hx1)).own (gsc _ ⟨rb, 0, none⟩ _) (fun k e => by cases e; exact hr1), ((C4.out.ct.other (g := xb) (i := 0) C4.out.box (by decide) (by decide) v).other (g := rb) (i := 0) (C4.out.rbox.other (Ne.symm hxr) v) (by decide) (by decide) v).rdII C4.out.vl (by omega) (fun i xs hx => ⟨by have := (C4.out.ok i xs hx).1; omega, (C4.out.ok i xs hx).2⟩)⟩
        clear e0
        by_cases hc1 : cc = 1
        · subst hc1
          have HN1 : Hid (0 = n - 1) := by have := HCAP.out; show _ = _; omega
          go_wp2_with fail
          refine bodyPost_ret (v := .agg #[.slice (some ⟨g, 0, none⟩) (n - 1) 0]) (by simp [results, Try.results36, go_sem, b4, rc4, hxr]) rfl ⟨some ⟨g, 0, none⟩, n - 1, 0, [], rfl, HN1.out, ⟨⟨by simp, .inl rfl⟩, fun p hp => by cases hp; exact HGB.out, by simp⟩, (FIN.out _).1, (FIN.out _).2.1⟩
        · obtain ⟨iws, hil, hir⟩ := (FIN.out (.slice (some ⟨g, 1, none⟩) (n - 1) (cc - 1))).2.2
          have HIL := kide hil
          have HIR := kide hir
          clear hil hir
          go_wp2_with fail
          refine bodyPost_ret (v := .agg #[.slice (some ⟨g, 1, none⟩) (n - 1) (cc - 1)]) (by simp [results, Try.results36, go_sem, b4, rc4, hxr]) rfl ⟨some ⟨g, 1, none⟩, n - 1, cc - 1, iws.tail, rfl, by rw [List.length_tail, HIL.out], HIR.out.tail, (FIN.out _).1, (FIN.out _).2.1⟩
      · have z0 : ((x4 : Int) == 0) = false := beq_eq_false_iff_ne.2 (by omega)
        have z1 : ((x4 : Int) == 1) = false := beq_eq_false_iff_ne.2 (by omega)
        have b4 := C4.out.box.cell
        have rc4 := C4.out.rbox.cell
        have rf4 := C4.out.rbox.froz
        obtain ⟨iws, hil, hir⟩ := (C4.out.ct.other (g := rb) (i := 0) C4.out.rbox (by decide) (by decide) (.slice (some ⟨g, 0, none⟩) n cc)).rdII C4.out.vl (by omega) (fun i xs hx => ⟨by have := (C4.out.ok i xs hx).1; omega, (C4.out.ok i xs hx).2⟩)
        have HIL := kide hil
        have HIR := kide hir
        clear e0 e1 hil hir
        go_wp2_with fail
        refine bodyPost_ret (v := .agg #[.slice (some ⟨g, 0, none⟩) n cc]) (by simp [results, Try.results36, go_sem, b4, rc4]) rfl ⟨some ⟨g, 0, none⟩, n, cc, iws, rfl, HIL.out, HIR.out, HR.out.far C4.out.rr (gsc w4 ⟨rb, 0, none⟩ _) (fun k e => by cases e; exact hr1), C4.out.dw.own (gsc w4 ⟨rb, 0, none⟩ _) (fun k e => by cases e; exact hr1)⟩

end Go.Proofs.Ytnfagdfaphihhaa
