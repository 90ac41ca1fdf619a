/- Several texts in one. -/
import Derived.Test.YtckidgpopbpagaaGreatDoorZGAL
import Derived.Test.YtckidgpopbpagaaGreatDoorZGAJ
import Derived.Handy
import Derived.Test.YtckidgpopbpagaaGreatDoorZGAD
import Derived.Test.YtckidgpopbpagaaGreatDoorZGAF
import Derived.Test.YtckidgpopbpagaaGreatDoorZGAF
import Derived.Test.YtckidgpopbpagaaGreatDoorZGAC

/- Forms of kids, joined: the loop. -/
namespace Go.Proofs.YtckidgpopbpagaaGreatDoor
set_option linter.unusedVariables false
set_option linter.unusedSimpArgs false
open Go.RowKit Go.Shelf
attribute [local go_sem] Oper.semAt_some

/-- What holds between two rounds. -/
structure Jp (w : World) (b : Nat) (aa : Option Addr) (na ac : Nat) (Fs : List (List Sc)) (ks : List Int) (kv : Value) (pre : List (Int × Int)) (v : Value) (bs : List Nat) (W : World) : Prop where
  kx : Bz W (b + 1 + 1) #[kv] 55
  ax : Bz W b #[.slice aa na ac] 88
  px : Bz W (b + 1) #[v] 121
  row : OF1 W b v (bs.map fnV)
  len : bs.length = pre.length
  at' : ∀ (j : Nat) (β : Nat) (x : Int × Int), bs[j]? = some β → pre[j]? = some x → ∃ fv xs, Fm w fv (Fs.getD x.2.toNat []) xs ∧ Bz W β #[fv] 42
  pre : pre <+: bwL ks
  bel : Below b w W
def OJ (b : Nat) (v : Value) : Nat → Prop := fun k => k = b + 1 ∨ v.ownBlock = some k
theorem Jp.cz {w : World} {b : Nat} {aa : Option Addr} {na ac : Nat} {Fs : List (List Sc)} {ks : List Int} {kv : Value} {pre : List (Int × Int)} {v : Value} {bs : List Nat} {W W' : World} (h : Jp w b aa na ac Fs ks kv pre v bs W) (hc : Cz W W') (hb : Below b w W') : Jp w b aa na ac Fs ks kv pre v bs W' :=
  ⟨cz_bz h.kx hc, cz_bz h.ax hc, cz_bz h.px hc, cz_own h.row hc, h.len, fun j β x h1 h2 => by
    obtain ⟨fv, xs, h3, h4⟩ := h.at' j β x h1 h2
    exact ⟨fv, xs, h3, cz_bz h4 hc⟩, h.pre, hb⟩
theorem bz_of1 {w w' : World} {b B : Nat} {v : Value} {l : List Value} {cs : Array Value} {t : TypeId} (hb : Bz w b cs t) (h : OF1 w B v l) (ht : t ≠ 91) (hg : w.grownBy w' v.ownBlock) : Bz w' b cs t := by
  unfold Bz at hb ⊢
  rw [hg.block b (lt_of_block hb) (fun e => by
    obtain ⟨cur, hc⟩ := h.typed e.symm
    rw [hb] at hc
    cases hc
    exact ht rfl)]
  exact hb
theorem OF1.move {w w' : World} {B : Nat} {v : Value} {l : List Value} (h : OF1 w B v l) (hk : ∀ b, v.ownBlock = some b → w'.heap[b]? = w.heap[b]?) : OF1 w' B v l := by
  obtain ⟨h1, h2⟩ := h
  refine ⟨h1, ?_⟩
  rcases h2 with h2 | ⟨g, cap, cur, rfl, hg, hh, r⟩
  · exact .inl h2
  · exact .inr ⟨g, cap, cur, rfl, hg, (hk g rfl).trans hh, r⟩
/-- One iterator more. -/
theorem Jp.app {w m w6 : World} {b N g6 c6 vc β : Nat} {va aa : Option Addr} {na ac : Nat} {Fs : List (List Sc)} {ks : List Int} {kv : Value} {pre : List (Int × Int)} {bs : List Nat} {x : Int × Int} {fv : Value} {xs : List Sg} (h : Jp w b aa na ac Fs ks kv pre (.slice va N vc) bs m) (hF : Fm w fv (Fs.getD x.2.toNat []) xs) (hβ : Bz m β #[fv] 42) (hp : pre ++ [x] <+: bwL ks)
    (ho : OF1 w6 b (.slice (some ⟨g6, 0, none⟩) (N + 1) c6) (bs.map fnV ++ [fnV β])) (hg : m.grownBy w6 (Value.slice va N vc).ownBlock) (hl : (Value.slice va N vc).ownBlock = some g6 ∨ g6 = m.heap.size) :
    Jp w b aa na ac Fs ks kv (pre ++ [x]) (.slice (some ⟨g6, 0, none⟩) (N + 1) c6) (bs ++ [β]) (w6.setCell ⟨b + 1, 0, none⟩ (.slice (some ⟨g6, 0, none⟩) (N + 1) c6)) ∧ Nz m (w6.setCell ⟨b + 1, 0, none⟩ (.slice (some ⟨g6, 0, none⟩) (N + 1) c6)) ∧ Below b m (w6.setCell ⟨b + 1, 0, none⟩ (.slice (some ⟨g6, 0, none⟩) (N + 1) c6)) ∧
    Ko (OJ b (.slice va N vc)) m (w6.setCell ⟨b + 1, 0, none⟩ (.slice (some ⟨g6, 0, none⟩) (N + 1) c6)) ∧ (∀ r, OJ b (.slice (some ⟨g6, 0, none⟩) (N + 1) c6) r → OJ b (.slice va N vc) r ∨ m.heap.size ≤ r) := by
  have q0 := bz_of1 h.ax h.row (by decide) hg
  have qk := bz_of1 h.kx h.row (by decide) hg
  have q1 := bz_of1 h.px h.row (by decide) hg
  have hge : ∀ j, (Value.slice va N vc).ownBlock = some j → b ≤ j := fun j hj => (h.row.lt hj).1
  have hbm : b ≤ m.heap.size := by have := h.ax.lt; omega
  have hb6 : Below b m w6 := ⟨hg.os, hg.tape, hg.output, hg.size, fun j hj => hg.block j (by omega) (fun e => by have := hge j e.symm; omega)⟩
  have hb9 : Below b m (w6.setCell ⟨b + 1, 0, none⟩ (.slice (some ⟨g6, 0, none⟩) (N + 1) c6)) := hb6.setCell (p := ⟨b + 1, 0, none⟩) (by simp only []; omega) _
  have hg1 : g6 ≠ b + 1 := fun e => by
    obtain ⟨cur, hc⟩ := ho.typed (b := g6) rfl
    have h9 := q1
    unfold Bz at h9
    rw [← e, hc] at h9
    cases h9
  refine ⟨⟨qk.other (by omega) 0 _, q0.other (by omega) 0 _, q1.set 0 _, ?_, by simp [h.len], ?_, hp, h.bel.trans hb9⟩, ?_, hb9, ?_, ?_⟩
  · rw [List.map_append]
    exact ho.move fun k hk => by
      cases hk
      exact heap_setCell_other _ _ _ _ (by simpa using hg1)
  · intro j γ y h1 h2
    have hne : ∀ γ fv', Bz m γ #[fv'] 42 → Bz (w6.setCell ⟨b + 1, 0, none⟩ (.slice (some ⟨g6, 0, none⟩) (N + 1) c6)) γ #[fv'] 42 := fun γ fv' hz => by
      have h9 := bz_of1 hz h.row (by decide) hg
      have hne : γ ≠ b + 1 := fun e => by
        have h8 := q1
        unfold Bz at h8 h9
        rw [e, h8] at h9
        cases h9
      exact h9.other hne 0 _
    by_cases hj : j < bs.length
    · rw [List.getElem?_append_left hj] at h1
      rw [List.getElem?_append_left (by rw [← h.len]; exact hj)] at h2
      obtain ⟨fv', xs', h3, h4⟩ := h.at' j γ y h1 h2
      exact ⟨fv', xs', h3, hne γ fv' h4⟩
    · have hj2 : j = bs.length := by have := (List.getElem?_eq_some_iff.1 h1).1; simp at this; omega
      subst hj2
      simp at h1
      rw [h.len] at h2
      simp at h2
      subst h1 h2
      exact ⟨fv, xs, hF, hne _ _ hβ⟩
  · refine (Nz.grown hg (fun r e => ?_)).trans (Nz.set q1 _)
    obtain ⟨cur, hc⟩ := h.row.typed e
    exact ⟨cur, _, hc⟩
  · exact ((Ko.refl _ m).grown hg (fun r hr => .inl (.inr hr))).set (.inl rfl) _
  · intro r hr
    rcases hr with hr | hr
    · exact .inl (.inl hr)
    · have e : g6 = r := Option.some.inj hr
      subst e
      rcases hl with hl | hl
      · exact .inl (.inr hl)
      · exact .inr (by omega)

set_option maxHeartbeats 4000000 in
set_option maxRecDepth 100000 in
theorem joined_it (ka : Option Addr) (nk kc : Nat) (aa : Option Addr) (na ac : Nat) (ks : List Int) (Fs : List (List Sc)) (w : World) (hk : RdI w ka ks) (hkl : ∀ q, ka = some q → q.block < w.heap.size) (hnk : ks.length = nk) (hn1 : 1 ≤ nk) (hA : Ah w aa Fs) (hna : Fs.length ≤ na) (hna2 : na ≤ 1048576) (hks : ∀ k ∈ ks, 0 ≤ k ∧ k < (Fs.length : Int)) :
    Calls Tryz.prog 67 #[.slice ka nk kc, .slice aa na ac] w (RetIt (ks.reverse.map fun k => Fs.getD k.toNat []).flatten w) := by
  refine (callsIn_wide (n := 5)).1 ?_
  refine callsIn_of_wp_marks Tryz.func67 rfl trivial ?_ rfl
  simp only [Tryz.ntmps67, List.size_toArray, List.length_cons, List.length_nil, Nat.reduceAdd, Nat.reduceSub, Array.replicate_succ, Array.replicate_zero, List.push_toArray, List.append_toArray, List.nil_append, List.cons_append]
  have hnk2 : nk ≤ 1048576 := by rw [← hnk]; exact hk.1
  have HK := kide hk
  have HKL := kide hkl
  have HNK := kide hnk
  have HA := kide hA
  have HKS := kide hks
  obtain ⟨b, hb⟩ : ∃ b, w.heap.size = b := ⟨_, rfl⟩
  have HB := kide hb
  obtain ⟨w3, hw3⟩ : ∃ w3, (((w.alloc (Obj.cells #[Value.slice aa na ac] 88)).alloc (Obj.cells #[Value.slice none 0 0] 121)).alloc (Obj.cells #[Value.slice ka nk kc] 55)) = w3 := ⟨_, rfl⟩
  have b3 : Below w.heap.size w w3 := by rw [← hw3]; exact (((Below.refl _ _).alloc (Nat.le_refl _) _).alloc (by simp) _).alloc (by simp; omega) _
  have x0 : Bz w3 b #[.slice aa na ac] 88 := by
    rw [← hw3, ← hb]
    exact ((Bz.new w _ _).later ((Below.refl _ _).alloc (Nat.le_refl _) _)).later ((Below.refl _ _).alloc (Nat.le_refl _) _)
  have x1 : Bz w3 (b + 1) #[.slice none 0 0] 121 := by
    have h9 := (Bz.new (w.alloc (Obj.cells #[Value.slice aa na ac] 88)) #[Value.slice none 0 0] 121).later ((Below.refl _ _).alloc (Nat.le_refl _) (Obj.cells #[Value.slice ka nk kc] 55))
    rw [World.size_alloc, hb] at h9
    rw [← hw3]
    exact h9
  have x2 : Bz w3 (b + 1 + 1) #[.slice ka nk kc] 55 := by
    have h9 := Bz.new ((w.alloc (Obj.cells #[Value.slice aa na ac] 88)).alloc (Obj.cells #[Value.slice none 0 0] 121)) #[Value.slice ka nk kc] 55
    rw [World.size_alloc, World.size_alloc, hb] at h9
    rw [← hw3]
    exact h9
  have hz3 : w3.heap.size = b + 3 := by rw [← hw3]; simp [hb]
  rw [hb] at b3
  have J0 : Hid (Jp w b aa na ac Fs ks (.slice ka nk kc) [] (.slice none 0 0) [] w3) := ⟨x2, x0, x1, OF1.nil _ _, rfl, fun j β x h => by simp at h, ⟨bwL ks, rfl⟩, b3⟩
  have B3 := kide b3
  have X2 := kide x2
  have HSQ := kide (backI_seq 4 b (b + 1 + 1) kc nk ka ks w3 (by omega) hnk hnk2 (hk.later (by rw [hb]; exact b3)) (fun q hq => by rw [← hb]; exact hkl q hq) x2)
  clear hk hkl hnk hA hks b3 x0 x1 x2
  gi_wp2
  refine ⟨trivial, callsIn_wide.2 (Calls.mono (backI_any _ _ _ _) ?_)⟩
  rintro e w2 ⟨rfl, hw2⟩
  rw [hw3] at hw2
  obtain rfl := hw2.symm
  clear hw2
  gi_wp2
  clear hb hw3
  refine wpIn_rangeW (F := Fence.wide) rfl (fun h => by cases h) (gf := 95) (lb := #[.pointer (some ⟨b + 1 + 1, 0, none⟩)]) rfl trivial (enters_of Tryz.func95 (by kernel_rfl) rfl) HSQ.out ?kr (fun h k => h.trans k) ?kb ?rp (KpI.refl _ _ _) (fun _ => rfl)
    (fun s W => ∃ v bs, Jp w b aa na ac Fs ks (.slice ka nk kc) s.1 v bs W ∧ s.2 = OJ b v) (fun _ _ => False) (OJ b (.slice none 0 0)) ?hi ?hix ?ho ⟨_, _, J0.out, rfl⟩
    (fun T x a' W => a' = { tmps := #[Value.slice ka nk kc, Value.slice aa na ac, undef, Value.pointer (some ⟨b, 0, none⟩), Value.nilFunc, Value.pointer (some ⟨b + 1, 0, none⟩), undef, Value.int .i64 x.2, Value.slice ka nk kc, Value.func (Fn.func 95) #[] #[Value.pointer (some ⟨b + 1 + 1, 0, none⟩)], Value.int .i64 x.1, Value.int .i64 x.2, undef, undef, undef, undef, undef, undef, undef, undef, undef, undef], defers := [] }) ?hax ?assign ?body ?done ?stop
  case kr =>
    intro o o'
    have h9 : Below w3.heap.size w3 ((w3.alloc o).alloc o') := ((Below.refl _ w3).alloc (Nat.le_refl _) _).alloc (by simp) _
    exact ⟨h9.mono (by omega), h9.block _ (by omega)⟩
  case kb =>
    intro W l o o' hl _ _
    exact ⟨⟨rfl, rfl, rfl, by simp, fun k hk => World.putObj_heap_other (fun e => by omega)⟩, World.putObj_heap_other (fun e => by omega)⟩
  case rp => exact fun T pre x W l o o' _ _ h => h
  case hi =>
    rintro s A A' row ⟨v, bs, h, hO9⟩ hg hr
    refine ⟨v, bs, h.cz (cz_grown hg (fun r e => (hr r e).2)) (h.bel.trans ⟨hg.os, hg.tape, hg.output, hg.size, fun k hk => hg.block k ?_ ?_⟩), hO9⟩
    · have := h.ax.lt; omega
    · intro e; have := (hr k e.symm).1; omega
  case hix => exact fun s A A' row h => h.elim
  case ho =>
    rintro s W ⟨v, bs, h, hO9⟩ k hk
    rw [hO9] at hk
    rcases hk with rfl | hk
    · exact h.px.lt
    · exact (h.row.lt hk).2
  case hax => exact fun T x a' _ A A' row h _ _ => h
  case assign =>
    rintro l T pre O x W K hTW ⟨v, bs, h, hO9⟩ r1 hK
    gi_wp2
    exact hK _ _ (KeepsFrom.refl _ _) (KpI.refl _ _ _) (Cz.refl _) ⟨v, bs, h, hO9⟩ r1 rfl
  case body =>
    rintro lq pre O x a' W0 W hlq - hcz ⟨v, bs, hg, hO9⟩ hrdy rfl
    simp only [] at hg hO9
    subst hO9
    have hmem : x ∈ bwL ks := by
      obtain ⟨r, hr⟩ := hrdy
      rw [← hr]
      simp
    have hmk : x.2 ∈ ks := by
      have h9 := List.mem_map_of_mem (f := Prod.snd) hmem
      rw [bwL_snd] at h9
      exact List.mem_reverse.1 h9
    obtain ⟨hx0, hx1⟩ := HKS.out x.2 hmk
    obtain ⟨kid, hkid⟩ : ∃ kid : Nat, x.2 = (kid : Int) := ⟨x.2.toNat, by omega⟩
    have hkF : kid < Fs.length := by omega
    have hgF : Fs[kid]? = some (Fs.getD x.2.toNat []) := by rw [hkid, Int.toNat_natCast]; simp [List.getD, hkF]
    obtain ⟨ab, ao, rfl, fv, xs, hcell, hFm⟩ : ∃ ab ao, aa = some ⟨ab, ao, none⟩ ∧ ∃ fv xs, w.cell? ⟨ab, ao + kid, none⟩ = some fv ∧ Fm w fv (Fs.getD x.2.toNat []) xs := by
      rcases HA.out with h9 | ⟨ab, ao, e, h9⟩
      · rw [h9] at hkF; simp at hkF
      · obtain ⟨fv, xs, h8⟩ := h9 kid _ hgF
        exact ⟨ab, ao, e, fv, xs, h8⟩
    have HFM := kide hFm
    obtain ⟨fb, fo, fc, hfv, -, -⟩ := hFm.pl
    have hab : ab < b := by rw [← HB.out]; exact block_lt_of_cell hcell
    have k2 := (hg.bel.cell (p := ⟨ab, ao + kid, none⟩) hab).trans hcell
    have k1 := hg.ax.cell 0
    have k0 := hg.px.cell 0
    simp at k0 k1
    obtain ⟨N, hN⟩ : ∃ N, bs.length = N := ⟨_, rfl⟩
    obtain ⟨va, vc, hv⟩ := hg.row.form
    rw [List.length_map, hN] at hv
    subst hv
    generalize hxl : xs.length = xn at *
    subst hfv
    have l0 := hg.px.lt
    have l1 := hg.ax.lt
    have l2 : ab < W.heap.size := by omega
    have hN2 : N ≤ 1048576 := by
      have h9 := hg.pre.length_le
      rw [bwL_len, HNK.out] at h9
      have := hg.len
      omega
    have HG := kide hg
    have HRD := kide hrdy
    have HN := kide hN
    have hkn : (kid : Int) < (na : Int) := by omega
    have hk0 : (kid : Int) ≥ 0 := by omega
    have hmx : Tryz.prog.follows .mixedOrders = true := by kernel_rfl
    have HKID := kide hkid
    rw [hkid]
    clear hg hrdy hFm hcz hmem hmk hkid hx0 hx1 hgF hkF hcell hN
    gi_wp2
    refine wpIn_region_x (SA := fun uu => uu.cell? ⟨b + 1, 0, none⟩ = some (Value.slice va N vc) ∧ uu.cell? ⟨b, 0, none⟩ = some (Value.slice (some ⟨ab, ao, none⟩) na ac) ∧ uu.cell? ⟨ab, ao + kid, none⟩ = some (Value.slice (some ⟨fb, fo, none⟩) xn fc)) (SB := fun _ => True) (k := 8) hmx (by kernel_rfl) ?_
    have hn0 : Hid (Below W.heap.size W W.drew) := (Below.refl _ _).drew
    have c0_0 := (kcell hn0.out (b + 1) 0 l0).trans k0
    have c1_0 := (kcell hn0.out b 0 l1).trans k1
    have c2_0 := (kcell hn0.out ab (ao + kid) l2).trans k2
    generalize W.drew = n0 at *
    have hs0 : Hid ((fun uu => uu.cell? ⟨b + 1, 0, none⟩ = some (Value.slice va N vc) ∧ uu.cell? ⟨b, 0, none⟩ = some (Value.slice (some ⟨ab, ao, none⟩) na ac) ∧ uu.cell? ⟨ab, ao + kid, none⟩ = some (Value.slice (some ⟨fb, fo, none⟩) xn fc)) n0) := ⟨c0_0, c1_0, c2_0⟩
    try go_simp
    refine wpAnyX_take (i := 0) (v := Value.slice va N vc) rfl (by kernel_rfl) (by kernel_rfl) (by kernel_rfl) (fun _ _ _ h => by first | exact h | exact h.elim) (by decide) (by kernel_rfl) (by kernel_rfl) hs0.out (Or.inl ⟨by rfl, fun uu hu => by obtain ⟨e0, e1, e2⟩ := hu; go_simp⟩) ?_
    try go_simp
    refine wpAnyX_take (i := 1) (v := Value.slice (some ⟨ab, ao, none⟩) na ac) rfl (by kernel_rfl) (by kernel_rfl) (by kernel_rfl) (fun _ _ _ h => by first | exact h | exact h.elim) (by decide) (by kernel_rfl) (by kernel_rfl) hs0.out (Or.inl ⟨by rfl, fun uu hu => by obtain ⟨e0, e1, e2⟩ := hu; go_simp⟩) ?_
    try go_simp
    refine wpAnyX_both (T := fun _ => True) (i := 2) (v := Value.int .i64 (kid : Int)) rfl (by kernel_rfl) (by kernel_rfl) (by kernel_rfl) (fun _ _ _ h => by first | exact h | exact h.elim) (by decide) (fun _ _ => trivial) (fun _ _ => trivial) (Sx.before (by kernel_rfl) hs0.out) (Or.inl ⟨by rfl, fun uu hu => by go_simp⟩) ?_
    try go_simp
    refine wpAnyX_both (T := fun _ => True) (i := 3) (v := Value.pointer (some ⟨ab, ao + kid, none⟩)) rfl (by kernel_rfl) (by kernel_rfl) (by kernel_rfl) (fun _ _ _ h => by first | exact h | exact h.elim) (by decide) (fun _ _ => trivial) (fun _ _ => trivial) (Sx.before (by kernel_rfl) hs0.out) (Or.inl ⟨by rfl, fun uu hu => by go_simp⟩) ?_
    try go_simp
    refine wpAnyX_take (i := 4) (v := Value.slice (some ⟨fb, fo, none⟩) xn fc) rfl (by kernel_rfl) (by kernel_rfl) (by kernel_rfl) (fun _ _ _ h => by first | exact h | exact h.elim) (by decide) (by kernel_rfl) (by kernel_rfl) hs0.out (Or.inl ⟨by rfl, fun uu hu => by obtain ⟨e0, e1, e2⟩ := hu; go_simp⟩) ?_
    try go_simp
    refine wpAnyX_ready (rs := [5]) (by kernel_rfl) (by simp) (AllX.cons rfl (fun K hK => ?_) AllX.nil)
    go_simp
    refine Calls.mono (values_any _ _ _ n0) ?_
    rintro e n1 ⟨rfl, hw9⟩
    have hb9 : Below n0.heap.size n0 n1 := by rw [hw9]; exact (Below.refl _ _).alloc (Nat.le_refl _) _
    have BX : Hid (Bz n1 n0.heap.size #[Value.slice (some ⟨fb, fo, none⟩) xn fc] 42) := by show Bz _ _ _ _; rw [hw9]; exact Bz.new n0 _ _
    have hn1 : Hid (Below W.heap.size W n1) := hn0.out.trans (hb9.mono hn0.out.size)
    generalize n0.heap.size = bx at *
    clear hb9 hw9
    have c0_1 := (kcell hn1.out (b + 1) 0 l0).trans k0
    have c1_1 := (kcell hn1.out b 0 l1).trans k1
    have c2_1 := (kcell hn1.out ab (ao + kid) l2).trans k2
    have hs1 : Hid ((fun uu => uu.cell? ⟨b + 1, 0, none⟩ = some (Value.slice va N vc) ∧ uu.cell? ⟨b, 0, none⟩ = some (Value.slice (some ⟨ab, ao, none⟩) na ac) ∧ uu.cell? ⟨ab, ao + kid, none⟩ = some (Value.slice (some ⟨fb, fo, none⟩) xn fc)) n1) := ⟨c0_1, c1_1, c2_1⟩
    refine hK _ _ (Sx.before (by kernel_rfl) hs1.out) ?_
    clear hK K
    try go_simp
    refine wpAnyX_ready (rs := [6]) (by kernel_rfl) (by simp) (AllX.cons rfl (fun K hK => ?_) AllX.nil)
    go_simp
    have hb9 : Below n1.heap.size n1 (n1.alloc (Obj.cells #[Value.func (Fn.func 92) #[] #[Value.pointer (some ⟨bx, 0, none⟩)]] 91)) := (Below.refl _ _).alloc (Nat.le_refl _) _
    have YX : Hid (Bz (n1.alloc (Obj.cells #[Value.func (Fn.func 92) #[] #[Value.pointer (some ⟨bx, 0, none⟩)]] 91)) n1.heap.size #[Value.func (Fn.func 92) #[] #[Value.pointer (some ⟨bx, 0, none⟩)]] 91) := Bz.new n1 _ _
    have hn2 : Hid (Below W.heap.size W (n1.alloc (Obj.cells #[Value.func (Fn.func 92) #[] #[Value.pointer (some ⟨bx, 0, none⟩)]] 91))) := hn1.out.trans (hb9.mono hn1.out.size)
    have BY := kide (BX.out.later hb9)
    clear hb9
    generalize n1.heap.size = by9 at *
    generalize n1.alloc (Obj.cells #[Value.func (Fn.func 92) #[] #[Value.pointer (some ⟨bx, 0, none⟩)]] 91) = n2 at *
    have c0_2 := (kcell hn2.out (b + 1) 0 l0).trans k0
    have c1_2 := (kcell hn2.out b 0 l1).trans k1
    have c2_2 := (kcell hn2.out ab (ao + kid) l2).trans k2
    have hs2 : Hid ((fun uu => uu.cell? ⟨b + 1, 0, none⟩ = some (Value.slice va N vc) ∧ uu.cell? ⟨b, 0, none⟩ = some (Value.slice (some ⟨ab, ao, none⟩) na ac) ∧ uu.cell? ⟨ab, ao + kid, none⟩ = some (Value.slice (some ⟨fb, fo, none⟩) xn fc)) n2) := ⟨c0_2, c1_2, c2_2⟩
    refine hK _ _ (Sx.before (by kernel_rfl) hs2.out) ?_
    clear hK K
    try go_simp
    refine wpAnyX_ready (rs := [7]) (by kernel_rfl) (by simp) (AllX.cons rfl (fun K hK => ?_) AllX.nil)
    have GN := kide (HG.out.cz (Cz.below hn2.out) (HG.out.bel.trans (hn2.out.mono (by omega))))
    have hbn : b ≤ n2.heap.size := by have := GN.out.ax.lt; omega
    have hll : (bs.map fnV).length ≤ 1073741824 := by rw [List.length_map, HN.out]; omega
    have y0 := YX.out.cell 0
    simp at y0
    refine step_appF1 n2 rfl _ _ rfl b _ (bs.map fnV) (fnV bx) rfl GN.out.row by9 _ rfl y0 rfl hll hbn ?_
    intro g6 c6 n3 ho6 hg6 hl6
    rw [List.length_map, HN.out] at ho6
    have hgA := GN.out.app (x := x) (xs := xs) (fv := Value.slice (some ⟨fb, fo, none⟩) xs.length fc) (by first | exact HFM.out | (rw [hxl]; exact HFM.out)) (by first | exact BY.out | (rw [hxl]; exact BY.out)) HRD.out ho6 hg6 hl6
    have HGA := kide hgA
    have u0 := (bz_of1 GN.out.px GN.out.row (by decide) hg6).cell 0
    have u1 := (bz_of1 GN.out.px GN.out.row (by decide) hg6).froz 0
    simp at u0
    have c0_3 : n3.cell? ⟨b + 1, 0, none⟩ = some (Value.slice va N vc) := u0
    have c1_3 : n3.cell? ⟨b, 0, none⟩ = some (Value.slice (some ⟨ab, ao, none⟩) na ac) := (bz_of1 GN.out.ax GN.out.row (by decide) hg6).cell 0
    have c2_3 : n3.cell? ⟨ab, ao + kid, none⟩ = some (Value.slice (some ⟨fb, fo, none⟩) xn fc) := (World.cell?_of_block (hg6.block ab (by omega) (fun e => by have := (GN.out.row.lt e.symm).1; omega))).trans c2_2
    rw [List.length_map, HN.out]
    clear ho6 hg6 hl6 hgA
    have hs3 : Hid ((fun uu => uu.cell? ⟨b + 1, 0, none⟩ = some (Value.slice va N vc) ∧ uu.cell? ⟨b, 0, none⟩ = some (Value.slice (some ⟨ab, ao, none⟩) na ac) ∧ uu.cell? ⟨ab, ao + kid, none⟩ = some (Value.slice (some ⟨fb, fo, none⟩) xn fc)) n3) := ⟨c0_3, c1_3, c2_3⟩
    refine hK _ _ (Sx.before (by kernel_rfl) hs3.out) ?_
    clear hK K
    try go_simp
    refine wpAnyX_ready (rs := [8]) (by kernel_rfl) (by simp) (AllX.cons rfl (fun K hK => ?_) AllX.nil)
    go_simp
    refine hK _ _ (Sx.behind (by kernel_rfl) trivial) ?_
    clear hK K
    try go_simp
    refine wpAnyX_done (by kernel_rfl) ?_ _
    refine onlyN_in ?_
    gi_wp2
    obtain ⟨G9, N9, B9, K9, I9⟩ := HGA.out
    exact ⟨((Nz.below hn2.out).trans N9).keeps _, ⟨(hn2.out.mono (by omega)).trans B9, (show _ = _ from G9.kx).trans (show _ = _ from HG.out.kx).symm⟩, ((Ko.refl _ W).below hn2.out).trans K9, _, (by first | exact ⟨_, ⟨_, G9⟩, rfl⟩ | exact ⟨_, _, G9, rfl⟩), fun r hr => (I9 r hr).imp id (fun h9 => Nat.le_trans hn2.out.size h9)⟩
  case done =>
    rintro D xs O W hD hS ⟨v, bs, h, -⟩ hdf
    simp only [] at h
    subst hS
    obtain ⟨N, hN⟩ : ∃ N, bs.length = N := ⟨_, rfl⟩
    have hNk : N = nk := by
      have h9 := h.len
      rw [bwL_len, HNK.out] at h9
      omega
    obtain ⟨va, vc, hv⟩ := h.row.form
    rw [List.length_map, hN] at hv
    subst hv
    obtain ⟨g, rfl⟩ : ∃ g, va = some ⟨g, 0, none⟩ := by
      rcases h.row.2 with ⟨e, h9⟩ | ⟨g, cap, cur, e, -⟩
      · rw [List.length_map] at h9; omega
      · cases e; exact ⟨g, rfl⟩
    have f0 := h.px.cell 0
    simp at f0
    have HH := kide h
    have HN := kide hN
    have HDF := kide hdf
    clear h hdf hN
    gi_wp2
    refine ⟨trivial, callsIn_wide.2 (Calls.mono (inTurn_any _ _ _ W) ?_)⟩
    rintro e w6 ⟨rfl, hw6⟩
    gi_wp2
    have KD : (W.alloc (Obj.cells #[Value.slice (some ⟨g, 0, none⟩) nk vc] 121)).heap[D]? = some (.deferred (some [])) := (Below.heap_alloc _ _ _ (lt_of_block HDF.out)).trans HDF.out
    refine ⟨by simp, .inl ⟨_, _, rfl, run_takeDeferred KD, ?_⟩⟩
    have hcz : Cz W ((W.alloc (Obj.cells #[Value.slice (some ⟨g, 0, none⟩) nk vc] 121)).putObj D (.deferred none)) := (Cz.below ((Below.refl _ _).alloc (Nat.le_refl _) _)).trans (Cz.put _ KD rfl)
    have hbz : Bz ((W.alloc (Obj.cells #[Value.slice (some ⟨g, 0, none⟩) nk vc] 121)).putObj D (.deferred none)) W.heap.size #[.slice (some ⟨g, 0, none⟩) nk vc] 121 := cz_bz (Bz.new W _ _) (Cz.put _ KD rfl)
    have hbw : Below w.heap.size w ((W.alloc (Obj.cells #[Value.slice (some ⟨g, 0, none⟩) nk vc] 121)).putObj D (.deferred none)) := by
      rw [HB.out]
      have hbW : b ≤ W.heap.size := by have := HH.out.ax.lt; omega
      refine (HH.out.bel.trans (((Below.refl _ W).alloc (Nat.le_refl _) _).mono hbW)).trans ⟨rfl, rfl, rfl, by simp, fun k hk => World.putObj_heap_other (fun e => by omega)⟩
    have hrow := cz_own HH.out.row hcz
    refine ⟨.func (.func 91) #[] #[.pointer (some ⟨W.heap.size, 0, none⟩)], by simp [results, Tryz.results67, go_sem], _, rfl, ?_, hbw⟩
    refine inTurn_of (vs := bs.map fnV) hbz (by rw [List.length_map, HN.out]; exact hNk) hnk2 (by rw [List.length_map, List.length_reverse, HNK.out]) (World.ownsRow.lt hrow g rfl).2 (fun i v hv => ?_) (fun i L v hL hv => ?_)
    · have hc := World.ownsRow.cells hrow (g := g) rfl i v hv
      rw [Addr.add_lit] at hc
      simpa using hc
    · rw [List.getElem?_map] at hL hv
      have hib : i < bs.length := by
        cases hb9 : bs[i]? with
        | none => rw [hb9] at hv; simp at hv
        | some β => exact (List.getElem?_eq_some_iff.1 hb9).1
      have hbi : bs[i]? = some (bs[i]'hib) := List.getElem?_eq_getElem _
      have hki : i < ks.length := by rw [HNK.out, ← hNk, ← HN.out]; exact hib
      have hxi := bwL_at ks hki
      obtain ⟨fv, xs, h1, h2⟩ := HH.out.at' i _ _ hbi hxi
      have e1 : ks.reverse[i]? = some (ks.getD (ks.length - 1 - i) 0) := by
        rw [List.getElem?_reverse hki]
        have : ks.length - 1 - i < ks.length := by omega
        simp [List.getD, this]
      rw [e1] at hL
      obtain rfl := Option.some.inj hL
      rw [hbi] at hv
      obtain rfl := Option.some.inj hv
      exact values_of (h1.later hbw) (cz_bz h2 hcz)
  case stop => exact fun D pre W _ _ h _ => h.elim
end Go.Proofs.YtckidgpopbpagaaGreatDoor

/- The highest bit of a form; a form turned. -/
namespace Go.Proofs.YtckidgpopbpagaaGreatDoor
set_option linter.unusedVariables false
set_option linter.unusedSimpArgs false
open Go.RowKit Go.Shelf

set_option maxHeartbeats 1000000 in
theorem highest_any {v : Value} {F : List Sc} {xs : List Sg} {w : World} (h : Fm w v F xs) :
    Calls Tryz.prog 73 #[v] w fun e w' => ∃ y : Sg, e = .returned (sgV y) ∧ y.ct = cutS (lastS F) ((lastS F).wd.toNat - 1) 1 ∧ AtS w'.heap.size w' y ∧ in64 y.ct.v ∧ Below w.heap.size w w' := by
  obtain ⟨fb, fo, c, rfl, h2, h3⟩ := h.pl
  obtain ⟨N, hN⟩ : ∃ N, xs.length = N + 1 := ⟨xs.length - 1, by have := h.n1; omega⟩
  obtain ⟨x, hx⟩ : ∃ x, xs[N]? = some x := ⟨xs[N]'(by omega), List.getElem?_eq_getElem _⟩
  have hm := List.mem_of_getElem? hx
  have hl : lastS F = x.ct := by
    rw [← h.ct]
    unfold lastS
    rw [List.length_map, hN, Nat.add_sub_cancel]
    simp [List.getD, hx]
  rw [hl]
  have hA := h.at' x hm
  have hw1 := hA.ok.1
  have hw2 := hA.ok.2.1
  obtain ⟨D, hD⟩ : ∃ D : Nat, x.ct.wd = ((D + 1 : Nat) : Int) := ⟨x.ct.wd.toNat - 1, by omega⟩
  obtain ⟨p0, p1, p2, p3, p4⟩ := h3 N x hx
  simp only [Sg.hd] at p0 p1 p2 p3 p4
  have HSP := kide (fun u (hu : Below w.heap.size w u) => segPart_any x D 1 u hA.ok hA.lo (by omega) (by omega) (hA.rd.later hu) hA.no (fun q hq => Nat.lt_of_lt_of_le (hA.pl q hq) hu.size))
  have HA := kide hA
  have HV := kide (h.v64 x hm)
  have hn2 := h.n2
  have e1 : x.ct.wd.toNat - 1 = D := by rw [hD, Int.toNat_natCast]; omega
  rw [e1]
  rw [hN] at hn2 ⊢
  have q1 : IntKind.i64.wrap (((N + 1 : Nat) : Int) - 1) = (N : Int) := by rw [IntKind.wrap_i64]; omega
  have q2 : (N : Int) < ((N + 1 : Nat) : Int) := by omega
  have q3 : (N : Int) ≥ 0 := by omega
  have q4 : IntKind.i64.wrap (x.ct.wd - 1) = (D : Int) := by rw [IntKind.wrap_i64]; omega
  have HD : Hid ((D : Int) + 1 = x.ct.wd) := by show _ = _; omega
  obtain ⟨E, hE⟩ : ∃ E, x.ct.wd = E := ⟨_, rfl⟩
  rw [hE] at p2 HSP q4
  have BA : Hid (Below w.heap.size w ((w.alloc (Obj.cells #[Value.int .i64 0, Value.int .i64 0, Value.int .i64 0, Value.int .i64 0, Value.slice none 0 0] 67)).alloc (Obj.cells #[Value.int .i64 x.ct.v, Value.int .i64 x.ct.lo, Value.int .i64 E, Value.int .i64 x.ct.bw, Value.slice x.a x.ct.ws.length x.c] 67))) := ((Below.refl _ _).alloc (Nat.le_refl _) _).alloc (by simp) _
  have XR : Hid (Bz ((w.alloc (Obj.cells #[Value.int .i64 0, Value.int .i64 0, Value.int .i64 0, Value.int .i64 0, Value.slice none 0 0] 67)).alloc (Obj.cells #[Value.int .i64 x.ct.v, Value.int .i64 x.ct.lo, Value.int .i64 E, Value.int .i64 x.ct.bw, Value.slice x.a x.ct.ws.length x.c] 67)) w.heap.size #[Value.int .i64 0, Value.int .i64 0, Value.int .i64 0, Value.int .i64 0, Value.slice none 0 0] 67) := (Bz.new w _ _).later ((Below.refl _ _).alloc (Nat.le_refl _) _)
  clear hA hx hm h hl e1 hD h3 hN hE hw1 hw2
  go_enter Tryz.func73, Tryz.ntmps73
  go_wp2_with fail
  refine Calls.mono (HSP.out _ BA.out) ?_
  rintro e V3 ⟨a9, c9, rfl, hr9, hn9, hq9, hb9⟩
  obtain ⟨y, hyc, hya, hyd⟩ : ∃ y : Sg, y.ct = cutS x.ct D 1 ∧ y.a = a9 ∧ y.c = c9 := ⟨⟨_, a9, c9⟩, rfl, rfl, rfl⟩
  subst hya hyd
  have eY : sgV ⟨cutS x.ct D 1, y.a, y.c⟩ = sgV y := by rw [← hyc]
  rw [← hyc] at hr9
  have B3 := kide (BA.out.trans (hb9.mono BA.out.size))
  have XR9 := kide (XR.out.later hb9)
  have R9 := kide hr9
  have N9 := kide hn9
  have Q9 : Hid (∀ q, y.a = some q → q.block < V3.heap.size ∧ q.block ≠ w.heap.size) := fun q hq => by
    have h8 := hq9 q hq
    refine ⟨h8.2, fun e => ?_⟩
    rcases h8.1 with h7 | h7
    · have := HA.out.pl q h7; omega
    · have h6 := BA.out.size; have h5 := XR.out.lt; omega
  have YC := kide hyc
  have y0 := XR9.out.cell 0
  have y1 := XR9.out.cell 1
  have y2 := XR9.out.cell 2
  have y3 := XR9.out.cell 3
  have y4 := XR9.out.cell 4
  have z0 := XR9.out.froz 0
  have z1 := XR9.out.froz 1
  have z2 := XR9.out.froz 2
  have z3 := XR9.out.froz 3
  have z4 := XR9.out.froz 4
  simp at y0 y1 y2 y3 y4
  rw [eY]
  unfold sgV
  have Y9 : Hid (Bz (((((V3.setCell ⟨w.heap.size, 0, none⟩ (Value.int .i64 y.ct.v)).setCell ⟨w.heap.size, 1, none⟩ (Value.int .i64 y.ct.lo)).setCell ⟨w.heap.size, 2, none⟩ (Value.int .i64 y.ct.wd)).setCell ⟨w.heap.size, 3, none⟩ (Value.int .i64 y.ct.bw)).setCell ⟨w.heap.size, 4, none⟩ (Value.slice y.a y.ct.ws.length y.c)) w.heap.size #[Value.int .i64 y.ct.v, Value.int .i64 y.ct.lo, Value.int .i64 y.ct.wd, Value.int .i64 y.ct.bw, Value.slice y.a y.ct.ws.length y.c] 67) := (((((XR9.out.set 0 _).set 1 _).set 2 _).set 3 _).set 4 _)
  have BZ : Hid (Below w.heap.size w (((((V3.setCell ⟨w.heap.size, 0, none⟩ (Value.int .i64 y.ct.v)).setCell ⟨w.heap.size, 1, none⟩ (Value.int .i64 y.ct.lo)).setCell ⟨w.heap.size, 2, none⟩ (Value.int .i64 y.ct.wd)).setCell ⟨w.heap.size, 3, none⟩ (Value.int .i64 y.ct.bw)).setCell ⟨w.heap.size, 4, none⟩ (Value.slice y.a y.ct.ws.length y.c))) := (((((B3.out.setCell (p := ⟨w.heap.size, 0, none⟩) (Nat.le_refl _) _).setCell (p := ⟨w.heap.size, 1, none⟩) (Nat.le_refl _) _).setCell (p := ⟨w.heap.size, 2, none⟩) (Nat.le_refl _) _).setCell (p := ⟨w.heap.size, 3, none⟩) (Nat.le_refl _) _).setCell (p := ⟨w.heap.size, 4, none⟩) (Nat.le_refl _) _)
  have GZ : Hid (V3.grownBy (((((V3.setCell ⟨w.heap.size, 0, none⟩ (Value.int .i64 y.ct.v)).setCell ⟨w.heap.size, 1, none⟩ (Value.int .i64 y.ct.lo)).setCell ⟨w.heap.size, 2, none⟩ (Value.int .i64 y.ct.wd)).setCell ⟨w.heap.size, 3, none⟩ (Value.int .i64 y.ct.bw)).setCell ⟨w.heap.size, 4, none⟩ (Value.slice y.a y.ct.ws.length y.c)) (some w.heap.size)) := ⟨rfl, rfl, rfl, by simp, fun k hk hne => by
    have h9 : k ≠ w.heap.size := fun e => hne (by rw [e])
    rw [heap_setCell_other _ _ _ _ (by simpa using h9), heap_setCell_other _ _ _ _ (by simpa using h9), heap_setCell_other _ _ _ _ (by simpa using h9), heap_setCell_other _ _ _ _ (by simpa using h9), heap_setCell_other _ _ _ _ (by simpa using h9)]⟩
  have RZ := kide (rd_gr R9.out GZ.out (fun q hq e => (Q9.out q hq).2 (Option.some.inj e).symm))
  clear hr9 hn9 hq9 hb9 hyc eY
  go_wp2_with fail
  generalize (((((V3.setCell ⟨w.heap.size, 0, none⟩ (Value.int .i64 y.ct.v)).setCell ⟨w.heap.size, 1, none⟩ (Value.int .i64 y.ct.lo)).setCell ⟨w.heap.size, 2, none⟩ (Value.int .i64 y.ct.wd)).setCell ⟨w.heap.size, 3, none⟩ (Value.int .i64 y.ct.bw)).setCell ⟨w.heap.size, 4, none⟩ (Value.slice y.a y.ct.ws.length y.c)) = Z at *
  have x0 := Y9.out.cell 0
  have x1 := Y9.out.cell 1
  have x2 := Y9.out.cell 2
  have x3 := Y9.out.cell 3
  have x4 := Y9.out.cell 4
  simp at x0 x1 x2 x3 x4
  refine bodyPost_ret (v := .agg #[Value.int .i64 y.ct.v, Value.int .i64 y.ct.lo, Value.int .i64 y.ct.wd, Value.int .i64 y.ct.bw, Value.slice y.a y.ct.ws.length y.c]) (by simp [results, Tryz.results73, go_sem, x0, x1, x2, x3, x4]) rfl ⟨y, rfl, YC.out, ⟨?_, ?_, RZ.out, N9.out, fun q hq => Nat.lt_of_lt_of_le (Q9.out q hq).1 GZ.out.size⟩, ?_, BZ.out⟩
  · rw [YC.out]; exact cutS_ok HA.out.ok (by omega) (by have := HD.out; omega)
  · rw [YC.out, cutS_wd]
    have h8 := HA.out.lo
    have h7 := HD.out
    unfold cutS
    split
    · exact ⟨h8.1, by omega⟩
    · split
      · simp
      · simp only []; omega
  · rw [YC.out]
    unfold cutS
    split
    · exact HV.out
    · split
      · unfold in64; simp
      · exact HV.out

set_option maxHeartbeats 1000000 in
theorem turned_it {v : Value} {F : List Sc} {xs : List Sg} {w : World} {W k : Nat} (h : Fm w v F xs) (hs : sumS F = (W : Int)) (hW : W ≤ 4096) (hk : k ≤ W) :
    Calls Tryz.prog 74 #[v, .int .i64 (W : Int), .int .i64 (k : Int)] w (RetIt (betS (W - k) W 0 F ++ betS 0 (W - k) 0 F) w) := by
  have HB1 := kide (fun u (hu : Below w.heap.size w u) => between_it (lo := W - k) (en := W) (h.later hu) (by omega) (by omega) (by omega))
  have HB2 := kide (fun u (hu : Below w.heap.size w u) => between_it (lo := 0) (en := W - k) (h.later hu) (by omega) (by omega) (by omega))
  have q1 : IntKind.i64.wrap ((W : Int) - (k : Int)) = ((W - k : Nat) : Int) := by rw [IntKind.wrap_i64]; omega
  clear h
  go_enter Tryz.func74, Tryz.ntmps74
  go_wp2_with fail
  refine Calls.mono (HB1.out w (Below.refl _ _)) ?_
  rintro e w1 ⟨v1, rfl, hi1, hb1⟩
  obtain ⟨g1, lb1, rfl, -⟩ := id hi1.is
  have I1 := kide hi1
  have B1 := kide hb1
  clear hi1 hb1
  go_wp2_with fail
  refine Calls.mono (HB2.out w1 B1.out) ?_
  rintro e w2 ⟨v2, rfl, hi2, hb2⟩
  obtain ⟨g2, lb2, rfl, -⟩ := id hi2.is
  have hb3 : Below w2.heap.size w2 (w2.alloc (Obj.cells #[.func (.func g1) #[] lb1, .func (.func g2) #[] lb2] 91)) := (Below.refl _ _).alloc (Nat.le_refl _) _
  have I1' := kide ((I1.out.later hb2).later hb3)
  have I2' := kide (hi2.later hb3)
  have B2 := kide ((B1.out.trans (hb2.mono B1.out.size)).trans (hb3.mono (Nat.le_trans B1.out.size hb2.size)))
  have X2 := kide (Bz.new w2 #[.func (.func g1) #[] lb1, .func (.func g2) #[] lb2] 91)
  clear hi2 hb2 hb3
  go_wp2_with fail
  refine Calls.mono (inTurn_it (Ls := [betS (W - k) W 0 F, betS 0 (W - k) 0 F]) (vs := [.func (.func g1) #[] lb1, .func (.func g2) #[] lb2]) rfl (by omega) rfl X2.out.lt (fun i v hv => ?_) (fun i L v hL hv => ?_)) ?_
  · match i, hv with
    | 0, hv => simp at hv; subst hv; exact X2.out.cell 0
    | 1, hv => simp at hv; subst hv; exact X2.out.cell 1
    | i + 2, hv => simp at hv
  · match i, hL, hv with
    | 0, hL, hv => simp at hL hv; subst hL hv; exact I1'.out
    | 1, hL, hv => simp at hL hv; subst hL hv; exact I2'.out
    | i + 2, hL, hv => simp at hv
  · rintro e w4 ⟨v4, rfl, hi4, hb4⟩
    have I4 := kide hi4
    have B4 := kide (B2.out.trans (hb4.mono B2.out.size))
    clear hi4 hb4
    go_wp2_with fail
    refine bodyPost_ret (v := v4) (by simp [results, Tryz.results74, go_sem]) rfl ⟨v4, rfl, ?_, B4.out⟩
    have h9 := I4.out
    simpa using h9
end Go.Proofs.YtckidgpopbpagaaGreatDoor

/- The bits of a node without kids, on the given side. -/
namespace Go.Proofs.YtckidgpopbpagaaGreatDoor
set_option linter.unusedVariables false
set_option linter.unusedSimpArgs false
open Go.RowKit

/-- What is at hand while a node's bits are told: its box, the bits so far. -/
structure Nb (w : World) (cs : Array Value) (v : Value) (l : List Ib) (wr : World) : Prop where
  bx : Bz wr w.heap.size cs 62
  row : OL5 wr (w.heap.size + 1) v l
  bel : Below w.heap.size w wr
theorem bz_ol5 {w w' : World} {b B : Nat} {v : Value} {l : List Ib} {cs : Array Value} {t : TypeId} (hb : Bz w b cs t) (h : OL5 w B v l) (ht : t ≠ 78) (hg : w.grownBy w' v.ownBlock) : Bz w' b cs t := by
  unfold Bz at hb ⊢
  rw [hg.block b (lt_of_block hb) (fun e => by
    obtain ⟨cur, hc⟩ := h.typed e.symm
    rw [hb] at hc
    cases hc
    exact ht rfl)]
  exact hb
theorem Nb.later {w wr u : World} {cs : Array Value} {v : Value} {l : List Ib} (h : Nb w cs v l wr) (hb : Below wr.heap.size wr u) : Nb w cs v l u := ⟨h.bx.later hb, h.row.later hb, h.bel.trans (hb.mono h.bel.size)⟩
theorem Nb.app {w u w' : World} {cs : Array Value} {v v' : Value} {l m : List Ib} (h : Nb w cs v l u) (ho : OL5 w' (w.heap.size + 1) v' (l ++ m)) (hg : u.grownBy w' v.ownBlock) : Nb w cs v' (l ++ m) w' := by
  refine ⟨bz_ol5 h.bx h.row (by decide) hg, ho, h.bel.trans ⟨hg.os, hg.tape, hg.output, hg.size, fun k hk => hg.block k (Nat.lt_of_lt_of_le hk h.bel.size) (fun e => ?_)⟩⟩
  have := (h.row.lt e.symm).1
  omega
theorem OL5.lowB {w : World} {B B' : Nat} {v : Value} {l : List Ib} (h : OL5 w B v l) (hB : B' ≤ B) : OL5 w B' v l := by
  obtain ⟨h1, h2⟩ := h
  refine ⟨h1, ?_⟩
  rcases h2 with h2 | ⟨g, cap, cur, rfl, hg, hh, r⟩
  · exact .inl h2
  · exact .inr ⟨g, cap, cur, rfl, by omega, hh, r⟩
def RetNb (L : List Ib) (w : World) (e : Ending) (w' : World) : Prop := ∃ v, e = .returned v ∧ OL5 w' w.heap.size v L ∧ Below w.heap.size w w'
theorem Nb.start (w : World) (cs : Array Value) : Nb w cs (.slice (some ⟨w.heap.size + 1, 0, none⟩) 0 0) [] ((w.alloc (Obj.cells cs 62)).alloc (Obj.cells #[] 78)) := by
  refine ⟨(Bz.new w _ _).later ((Below.refl _ _).alloc (Nat.le_refl _) _), ?_, ((Below.refl _ _).alloc (Nat.le_refl _) _).alloc (by simp) _⟩
  have h9 := OL5.empty (w.alloc (Obj.cells cs 62)) (w.heap.size + 1) (by simp)
  rw [World.size_alloc] at h9
  exact h9
theorem runL_snoc (v a : Int) (k : Nat) : runL v a (k + 1) = runL v a k ++ [(v, a + (k : Int))] := by simp [runL, List.range_succ]

set_option maxHeartbeats 2000000 in
set_option maxRecDepth 100000 in
theorem l5n1 {da wa ka aa : Option Addr} {dc nd nw wc nk kc na ac V : Nat} {ds : List Dc} {A Bb bw : Int} {w : World} (hd : RdD w da ds) (hnd : ds.length = nd) (hV : V < nd) (h1 : 1 ≤ (ds.getD V (.empty, 0)).2) (h2 : (ds.getD V (.empty, 0)).2 ≤ 4096) :
    Calls Tryz.prog 24 #[.slice da nd dc, .agg #[.int .i64 1, .int .i64 (V : Int), .int .i64 A, .int .i64 Bb, .int .i64 bw, .slice wa nw wc, .slice ka nk kc], .slice aa na ac] w (RetNb (runL (V : Int) 0 (ds.getD V (.empty, 0)).2.toNat) w) := by
  obtain ⟨db, dq, rfl, hdc⟩ : ∃ b o, da = some ⟨b, o, none⟩ ∧ DcAt w b (o + V * 2) (ds.getD V (.empty, 0)) := by
    rcases hd.2.2 with h9 | ⟨b, o, e, hc⟩
    · rw [h9] at hnd; simp at hnd; omega
    · refine ⟨b, o, e, hc V _ ?_⟩
      have hl : V < ds.length := by omega
      simp [List.getD, hl]
  obtain ⟨-, d1⟩ := hdc
  obtain ⟨E, hE⟩ : ∃ E : Nat, (ds.getD V (.empty, 0)).2 = (E : Int) := ⟨(ds.getD V (.empty, 0)).2.toNat, by omega⟩
  rw [hE] at d1 h1 h2 ⊢
  rw [Int.toNat_natCast]
  have ldb := block_lt_of_cell d1
  have S0 := kide (Nb.start w #[Value.int .i64 1, Value.int .i64 (V : Int), Value.int .i64 A, Value.int .i64 Bb, Value.int .i64 bw, Value.slice wa nw wc, Value.slice ka nk kc])
  have q1 : (V : Int) < (nd : Int) := by omega
  have q2 : (V : Int) ≥ 0 := by omega
  clear hd hnd hE
  go_enter Tryz.func24, Tryz.ntmps24
  go_wp2_with fail
  go_loopw [7, 8] (fun v i wr => ∃ k : Nat, k ≤ E ∧ i = .int .i64 (k : Int) ∧ Nb w #[Value.int .i64 1, Value.int .i64 (V : Int), Value.int .i64 A, Value.int .i64 Bb, Value.int .i64 bw, Value.slice wa nw wc, Value.slice ka nk kc] v (runL (V : Int) 0 k) wr) (fun _ i _ => E - (intOf i).toNat)
  case atStart => exact ⟨0, Nat.zero_le _, rfl, by simpa [runL] using S0.out⟩
  case round =>
    obtain ⟨k, hk, rfl, hnb⟩ := hrel
    have c1 := hnb.bx.cell 1
    simp at c1
    have c9 := (hnb.bel.cell (p := ⟨db, dq + V * 2 + 1, none⟩) ldb).trans d1
    have HNB := kide hnb
    have lbx := hnb.bx.lt
    clear hnb
    by_cases hlt : k < E
    · have q3 : (k : Int) < (E : Int) := by omega
      have hkw : IntKind.i64.wrap ((k : Int) + 1) = (k : Int) + 1 := by rw [IntKind.wrap_i64]; omega
      have BA : Hid (Below wr.heap.size wr (wr.alloc (Obj.cells #[Value.int .i64 (V : Int), Value.int .i64 (k : Int)] 78))) := (Below.refl _ _).alloc (Nat.le_refl _) _
      have XA := kide (Bz.new wr #[Value.int .i64 (V : Int), Value.int .i64 (k : Int)] 78)
      have NA := kide (HNB.out.later BA.out)
      have hll : (runL (V : Int) 0 k).length ≤ 1073741824 := by simp [runL]; omega
      have hsz : w.heap.size + 1 ≤ (wr.alloc (Obj.cells #[Value.int .i64 (V : Int), Value.int .i64 (k : Int)] 78)).heap.size := by simp; omega
      go_wp2_with (refine wpList_appL5 rfl _ _ rfl (w.heap.size + 1) _ (runL (V : Int) 0 k) ((V : Int), (k : Int)) rfl NA.out.row wr.heap.size _ rfl (XA.out.cell 0) (XA.out.cell 1) hll hsz ?_)
      intro g6 c6 w6 ho6 hg6
      have N6 := kide (NA.out.app ho6 hg6)
      rw [show runL (V : Int) 0 k ++ [((V : Int), (k : Int))] = runL (V : Int) 0 (k + 1) by rw [runL_snoc, Int.zero_add]] at N6
      clear ho6 hg6
      go_wp2_with fail
      go_roundw
      case rel => exact ⟨k + 1, by omega, rfl, N6.out⟩
      case measure => simp only [intOf]; omega
    · obtain rfl : k = E := by omega
      go_wp2_with fail
      exact bodyPost_ret (v := u7) (by simp [results, Tryz.results24, go_sem]) rfl ⟨u7, rfl, HNB.out.row.lowB (Nat.le_succ _), HNB.out.bel⟩

set_option maxHeartbeats 2000000 in
set_option maxRecDepth 100000 in
theorem l5n2 {da wa ka aa : Option Addr} {dc nd wc nk kc na ac E : Nat} {ws : List Nat} {vr A Bb : Int} {w : World} (hw : Rd w wa ws) (hr : rightB (E : Int) ws = true) :
    Calls Tryz.prog 24 #[.slice da nd dc, .agg #[.int .i64 2, .int .i64 vr, .int .i64 A, .int .i64 Bb, .int .i64 (E : Int), .slice wa ws.length wc, .slice ka nk kc], .slice aa na ac] w (RetNb ((List.range E).map fun k => (-1, (((tb ws k).toNat : Nat) : Int))) w) := by
  have hW := right_W hr
  obtain ⟨nw, hnw⟩ : ∃ n, ws.length = n := ⟨_, rfl⟩
  rw [hnw]
  have HNW := kide hnw
  have HW := kide hw
  have S0 := kide (Nb.start w #[Value.int .i64 2, Value.int .i64 vr, Value.int .i64 A, Value.int .i64 Bb, Value.int .i64 (E : Int), Value.slice wa nw wc, Value.slice ka nk kc])
  have HB := kide (fun (k : Nat) (hk : k < E) u (hu : Below w.heap.size w u) => l1Bit_any (E : Int) wa wc ws k u (hw.later hu) (by omega))
  rw [hnw] at HB
  clear hw hnw
  have hE : E ≤ 4096 := by omega
  clear hW
  go_enter Tryz.func24, Tryz.ntmps24
  go_wp2_with fail
  go_loopw [7, 9] (fun v i wr => ∃ k : Nat, k ≤ E ∧ i = .int .i64 (k : Int) ∧ Nb w #[Value.int .i64 2, Value.int .i64 vr, Value.int .i64 A, Value.int .i64 Bb, Value.int .i64 (E : Int), Value.slice wa nw wc, Value.slice ka nk kc] v ((List.range k).map fun k => (-1, (((tb ws k).toNat : Nat) : Int))) wr) (fun _ i _ => E - (intOf i).toNat)
  case atStart => exact ⟨0, Nat.zero_le _, rfl, by simpa using S0.out⟩
  case round =>
    obtain ⟨k, hk, rfl, hnb⟩ := hrel
    have c4 := hnb.bx.cell 4
    have c5 := hnb.bx.cell 5
    simp at c4 c5
    have HNB := kide hnb
    have lbx := hnb.bx.lt
    clear hnb
    by_cases hlt : k < E
    · have q3 : (k : Int) < (E : Int) := by omega
      have hkw : IntKind.i64.wrap ((k : Int) + 1) = (k : Int) + 1 := by rw [IntKind.wrap_i64]; omega
      have HB1 := kide (HB.out k hlt wr HNB.out.bel)
      have hsn : (List.range (k + 1)).map (fun k => ((-1, (((tb ws k).toNat : Nat) : Int)) : Ib)) = (List.range k).map (fun k => (-1, (((tb ws k).toNat : Nat) : Int))) ++ [(-1, (((tb ws k).toNat : Nat) : Int))] := by rw [List.range_succ, List.map_append]; rfl
      have htb : (tb ws k).toNat ≤ 1 := by cases tb ws k <;> simp
      generalize (tb ws k).toNat = t at *
      have HSN := kide hsn
      have hll : ((List.range k).map fun k => ((-1, (((tb ws k).toNat : Nat) : Int)) : Ib)).length ≤ 1073741824 := by simp; omega
      generalize (List.range k).map (fun k => ((-1, (((tb ws k).toNat : Nat) : Int)) : Ib)) = Lk at *
      have htw : IntKind.i64.wrap (t : Int) = (t : Int) := by rw [IntKind.wrap_i64]; omega
      clear hsn
      go_wp2_with fail
      refine Calls.mono HB1.out ?_
      rintro e w1 ⟨rfl, hb1⟩
      have N1 := kide (HNB.out.later hb1)
      have BA : Hid (Below w1.heap.size w1 (w1.alloc (Obj.cells #[Value.int .i64 (-1), Value.int .i64 (t : Int)] 78))) := (Below.refl _ _).alloc (Nat.le_refl _) _
      have XA := kide (Bz.new w1 #[Value.int .i64 (-1), Value.int .i64 (t : Int)] 78)
      have NA := kide (N1.out.later BA.out)
      have hsz : w.heap.size + 1 ≤ (w1.alloc (Obj.cells #[Value.int .i64 (-1), Value.int .i64 (t : Int)] 78)).heap.size := by have := N1.out.bx.lt; simp; omega
      clear hb1
      go_wp2_with (refine wpList_appL5 rfl _ _ rfl (w.heap.size + 1) _ Lk (-1, (t : Int)) rfl NA.out.row w1.heap.size _ rfl (XA.out.cell 0) (XA.out.cell 1) hll hsz ?_)
      intro g6 c6 w6 ho6 hg6
      have N6 := kide (NA.out.app ho6 hg6)
      rw [← HSN.out] at N6
      clear ho6 hg6
      go_wp2_with fail
      go_roundw
      case rel => exact ⟨k + 1, by omega, rfl, N6.out⟩
      case measure => simp only [intOf]; omega
    · obtain rfl : k = E := by omega
      go_wp2_with fail
      exact bodyPost_ret (v := u7) (by simp [results, Tryz.results24, go_sem]) rfl ⟨u7, rfl, HNB.out.row.lowB (Nat.le_succ _), HNB.out.bel⟩
end Go.Proofs.YtckidgpopbpagaaGreatDoor
