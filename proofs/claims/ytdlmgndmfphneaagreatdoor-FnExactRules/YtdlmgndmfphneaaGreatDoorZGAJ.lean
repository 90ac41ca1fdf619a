/- Several texts in one. -/
import Derived.Test.YtdlmgndmfphneaaGreatDoorRLF
import Derived.Test.YtdlmgndmfphneaaGreatDoorZGAE
import Derived.Laws.EntriesVeiled
import Derived.Test.YtdlmgndmfphneaaGreatDoorZGAF
import Derived.Test.YtdlmgndmfphneaaGreatDoorEVB
import Derived.Test.YtdlmgndmfphneaaGreatDoorZGAR
import Derived.Test.YtdlmgndmfphneaaGreatDoorZGAI
import Derived.Test.YtdlmgndmfphneaaGreatDoorRLC

/- The rules that the program tells at a place. -/
namespace Go.Proofs.YtdlmgndmfphneaaGreatDoor
set_option linter.unusedVariables false
set_option linter.unusedSimpArgs false
open Go.RowKit

/-- A rule of the table: its number, its question. -/
theorem rule_any (nb no c2 c3 q n wc kc : Nat) (a2 wa ka : Option Addr) (op vr A B bw : Int) (ws : List Nat) (ks : List Int) (xs : List Tg) (wd : List Int) (hn : xs.length = n) (hR : ∀ q m, (xs.map Tg.ct)[q]? = some m → Rn (xs.map Tg.ct) wd q m) : ∀ k, k < 11 → ∃ F G9 : Nat, rwRow[k * 3]? = some (.int .i64 ((k + 1 : Nat) : Int)) ∧ rwRow[k * 3 + 1]? = some (Value.func (Fn.func F) #[] #[]) ∧ rwRow[k * 3 + 2]? = some (Value.func (Fn.func G9) #[] #[]) ∧ (∀ (args : Array Value) (w : World), (callFunc F args).run Tryz.prog w = .ok (.enter F args) w) ∧
    ∀ u, Si u (some ⟨nb, no, none⟩) a2 ka xs wd q ⟨op, vr, A, B, bw, ws, ks⟩ → Calls Tryz.prog F #[.agg #[.slice (some ⟨nb, no, none⟩) n c2, .slice a2 n c3, .int .i64 (q : Int), .int .i64 op, .int .i64 vr, .int .i64 A, .int .i64 B, .int .i64 bw, .slice wa ws.length wc, .slice ka ks.length kc]] u (RetY u (fitB (xs.map Tg.ct) wd ⟨op, vr, A, B, bw, ws, ks⟩ (k + 1))) := by
  intro k hk
  match k, hk with
  | 0, _ => exact ⟨50, _, rfl, rfl, rfl, fun args w => by simp [go_sem, Tryz.func50], fun u hu => isWhole_any (some ⟨nb, no, none⟩) a2 wa ka n c2 c3 ws.length wc ks.length kc q op vr A B bw ws ks xs wd u hu hn rfl⟩
  | 1, _ => exact ⟨52, _, rfl, rfl, rfl, fun args w => by simp [go_sem, Tryz.func52], fun u hu => isPartOfPart_any (some ⟨nb, no, none⟩) a2 wa ka n c2 c3 ws.length wc ks.length kc q op vr A B bw ws ks xs wd u hu hn rfl⟩
  | 2, _ => exact ⟨54, _, rfl, rfl, rfl, fun args w => by simp [go_sem, Tryz.func54], fun u hu => isFullTurn_any (some ⟨nb, no, none⟩) a2 wa ka n c2 c3 ws.length wc ks.length kc q op vr A B bw ws ks xs wd u hu hn rfl⟩
  | 3, _ => exact ⟨55, _, rfl, rfl, rfl, fun args w => by simp [go_sem, Tryz.func55], fun u hu => isRightTurn_any (some ⟨nb, no, none⟩) a2 wa ka n c2 c3 ws.length wc ks.length kc q op vr A B bw ws ks xs wd u hu hn rfl⟩
  | 4, _ => exact ⟨57, _, rfl, rfl, rfl, fun args w => by simp [go_sem, Tryz.func57], fun u hu => isNoWidening_any (some ⟨nb, no, none⟩) a2 wa ka n c2 c3 ws.length wc ks.length kc q op vr A B bw ws ks xs wd u hu hn rfl⟩
  | 5, _ => exact ⟨58, _, rfl, rfl, rfl, fun args w => by simp [go_sem, Tryz.func58], fun u hu => isZeroes_any (some ⟨nb, no, none⟩) a2 wa ka n c2 c3 ws.length wc ks.length kc q op vr A B bw ws ks xs wd u hu hn rfl⟩
  | 6, _ => exact ⟨60, _, rfl, rfl, rfl, fun args w => by simp [go_sem, Tryz.func60], fun u hu => isManyTimes_any (some ⟨nb, no, none⟩) a2 wa ka n c2 c3 ws.length wc ks.length kc q op vr A B bw ws ks xs wd u hu hn rfl⟩
  | 7, _ => exact ⟨62, _, rfl, rfl, rfl, fun args w => by simp [go_sem, Tryz.func62], fun u hu => isOnce_any (some ⟨nb, no, none⟩) a2 wa ka n c2 c3 ws.length wc ks.length kc q op vr A B bw ws ks xs wd u hu hn rfl⟩
  | 8, _ => exact ⟨63, _, rfl, rfl, rfl, fun args w => by simp [go_sem, Tryz.func63], fun u hu => isCatOfCat_any (some ⟨nb, no, none⟩) a2 wa ka n c2 c3 ws.length wc ks.length kc q op vr A B bw ws ks xs wd u hu hn rfl⟩
  | 9, _ => exact ⟨65, _, rfl, rfl, rfl, fun args w => by simp [go_sem, Tryz.func65], fun u hu => isOfConstants_any (some ⟨nb, no, none⟩) a2 wa ka n c2 c3 ws.length wc ks.length kc q op vr A B bw ws ks xs wd u hu hn rfl⟩
  | 10, _ => exact ⟨67, _, rfl, rfl, rfl, fun args w => by simp [go_sem, Tryz.func67], fun u hu => isWithinKid_any (some ⟨nb, no, none⟩) a2 wa ka n c2 c3 ws.length wc ks.length kc q op vr A B bw ws ks xs wd u hu hn rfl hR⟩

theorem OW.lowW {w : World} {B B' : Nat} {v : Value} {l : List Int} (h : OW w B v l) (hB : B' ≤ B) : OW w B' v l := by
  obtain ⟨h1, h2⟩ := h
  refine ⟨h1, ?_⟩
  rcases h2 with h2 | ⟨g, cap, cur, rfl, hg, hh, r⟩
  · exact .inl h2
  · exact .inr ⟨g, cap, cur, rfl, by omega, hh, r⟩

set_option maxHeartbeats 4000000 in
set_option maxRecDepth 100000 in
theorem implRules_any (a b : Option Addr) (c c2 n : Nat) (p : Int) (ds : List Dc) (xs : List Tg) (w : World) (hr : RdD w a ds) (hs : RdT w b xs) (hn : xs.length = n) (hG : GF w) :
    Calls Tryz.prog 10 #[.slice a ds.length c, .agg #[.slice b n c2], .int .i64 p] w fun e w' => ∃ v, e = .returned v ∧ OW w' (w.heap.size + 1) v (rulR ds (xs.map Tg.ct) p) ∧ Below w.heap.size w w' := by
  have B0 : Hid (Below w.heap.size w (w.alloc (Obj.cells #[Value.slice b n c2] 34))) := (Below.refl _ _).alloc (Nat.le_refl _) _
  by_cases hp : (widthsR ds (xs.map Tg.ct)).length = 0 ∨ ¬ (0 ≤ p ∧ p < (n : Int))
  · have hv : rulR ds (xs.map Tg.ct) p = [] := by
      unfold rulR
      rw [if_pos (by rw [List.length_map, hn]; exact hp)]
    rw [hv]
    have HSI := kide (fun u (hu : Below w.heap.size w u) => siteAt_no a b c c2 n p ds xs u (hr.later hu) (hs.later hu) hn (hG.later hu) hp)
    obtain ⟨nd, hnd⟩ : ∃ m, ds.length = m := ⟨_, rfl⟩
    rw [hnd] at HSI ⊢
    clear hr hs hn hG hp hv hnd
    go_enter Tryz.func10, Tryz.ntmps10
    go_wp2_with fail
    refine Calls.mono (HSI.out _ B0.out) ?_
    rintro e w1 ⟨rfl, hb⟩
    have B1 := kide (B0.out.trans (hb.mono B0.out.size))
    clear hb
    go_wp2_with fail
    go_ret
    exact ⟨_, rfl, World.ownsRow_nil _ _ _ _, by first | exact B1.out | exact B1.out.alloc B1.out.size _⟩
  · have h0 : ¬ (widthsR ds (xs.map Tg.ct)).length = 0 := fun h => hp (.inl h)
    have hpp : 0 ≤ p ∧ p < (n : Int) := by
      by_cases h : 0 ≤ p ∧ p < (n : Int)
      · exact h
      · exact (hp (.inr h)).elim
    obtain ⟨q, rfl⟩ : ∃ q : Nat, p = (q : Int) := ⟨p.toNat, by omega⟩
    have hq : q < n := by omega
    obtain ⟨⟨⟨op, vr, A, B, bw, ws, ks⟩, wa, wc, ka, kc⟩, hx⟩ : ∃ x, xs[q]? = some x := ⟨xs[q]'(by omega), List.getElem?_eq_getElem _⟩
    have hxn : (xs.map Tg.ct)[q]? = some ⟨op, vr, A, B, bw, ws, ks⟩ := by rw [List.getElem?_map, hx]; rfl
    have hv : rulR ds (xs.map Tg.ct) (q : Int) = fitL (xs.map Tg.ct) (widthsR ds (xs.map Tg.ct)) ⟨op, vr, A, B, bw, ws, ks⟩ 11 := by
      unfold rulR
      rw [if_neg (by rw [List.length_map, hn]; exact hp), Int.toNat_natCast, hxn]
    rw [hv]
    have HSI := kide (fun u (hu : Below w.heap.size w u) => siteAt_yes a b c c2 n q ds xs u (hr.later hu) (hs.later hu) hn (hG.later hu) h0 op vr A B bw ws ks wa ka wc kc hx)
    have hrn := fun j m (hj : (xs.map Tg.ct)[j]? = some m) => right_rn h0 hj
    obtain ⟨-, hwl, hww, -⟩ := right_wd h0
    rw [List.length_map] at hwl
    have hkk : RdI w ka ks := by
      rcases hs.2 with h | ⟨nb, no, e, hc⟩
      · rw [h] at hx; simp at hx
      · exact (hc q _ hx).2.2.1
    obtain ⟨nd, hnd⟩ : ∃ m, ds.length = m := ⟨_, rfl⟩
    rw [hnd] at HSI ⊢
    have HS := kide hs
    have HN := kide hn
    have HXN := kide hxn
    have HRN := kide hrn
    have HWL := kide hwl
    have HWW := kide hww
    have HKK := kide hkk
    generalize widthsR ds (xs.map Tg.ct) = wd at *
    have hfit := fitL_len (xs.map Tg.ct) wd ⟨op, vr, A, B, bw, ws, ks⟩
    have HFL := kide hfit
    clear hfit
    obtain ⟨F, hF⟩ : ∃ F, fitL (xs.map Tg.ct) wd ⟨op, vr, A, B, bw, ws, ks⟩ = F := ⟨_, rfl⟩
    have HFS : Hid (∀ k, F (k + 1) = F k ++ (if fitB (xs.map Tg.ct) wd ⟨op, vr, A, B, bw, ws, ks⟩ (k + 1) = true then [((k + 1 : Nat) : Int)] else [])) := fun k => by rw [← hF]; rfl
    have HF0 : Hid (F 0 = []) := by show _ = _; rw [← hF]; rfl
    rw [hF] at HFL ⊢
    clear hF
    obtain ⟨wn, hwn⟩ : ∃ m, ws.length = m := ⟨_, rfl⟩
    obtain ⟨kn, hkn⟩ : ∃ m, ks.length = m := ⟨_, rfl⟩
    rw [hwn, hkn] at HSI
    have HWN := kide hwn
    have HKN := kide hkn
    clear hwn hkn
    clear hr hs hn hG hp hv hnd hpp hq hx hxn hrn hwl hww hkk h0
    go_enter Tryz.func10, Tryz.ntmps10
    go_wp2_with fail
    refine Calls.mono (HSI.out _ B0.out) ?_
    rintro e w1 ⟨nb, no, c3, a2, rfl, rfl, hri, hb⟩
    have B1 := kide (B0.out.trans (hb.mono B0.out.size))
    have SI1 : Hid (Si w1 (some ⟨nb, no, none⟩) a2 ka xs wd q ⟨op, vr, A, B, bw, ws, ks⟩) := ⟨HS.out.later B1.out, hri, HKK.out.later B1.out, HXN.out, HRN.out q _ HXN.out, HWL.out, HWW.out⟩
    have HRU := kide (rule_any nb no c2 c3 q n wc kc a2 wa ka op vr A B bw ws ks xs wd HN.out HRN.out)
    rw [HWN.out, HKN.out] at HRU
    clear hb hri
    go_wp2_with fail
    have XS0 : Hid (Bz (w1.alloc (Obj.cells #[Value.slice (some ⟨nb, no, none⟩) n c2, Value.slice a2 n c3, Value.int .i64 (q : Int), Value.int .i64 op, Value.int .i64 vr, Value.int .i64 A, Value.int .i64 B, Value.int .i64 bw, Value.slice wa wn wc, Value.slice ka kn kc] 65)) w1.heap.size #[Value.slice (some ⟨nb, no, none⟩) n c2, Value.slice a2 n c3, Value.int .i64 (q : Int), Value.int .i64 op, Value.int .i64 vr, Value.int .i64 A, Value.int .i64 B, Value.int .i64 bw, Value.slice wa wn wc, Value.slice ka kn kc] 65) := Bz.new w1 _ _
    have hba : Below w1.heap.size w1 (w1.alloc (Obj.cells #[Value.slice (some ⟨nb, no, none⟩) n c2, Value.slice a2 n c3, Value.int .i64 (q : Int), Value.int .i64 op, Value.int .i64 vr, Value.int .i64 A, Value.int .i64 B, Value.int .i64 bw, Value.slice wa wn wc, Value.slice ka kn kc] 65)) := (Below.refl _ _).alloc (Nat.le_refl _) _
    have BA := kide (B1.out.trans (hba.mono B1.out.size))
    have SIA := kide (SI1.out.later hba)
    generalize w1.alloc (Obj.cells #[Value.slice (some ⟨nb, no, none⟩) n c2, Value.slice a2 n c3, Value.int .i64 (q : Int), Value.int .i64 op, Value.int .i64 vr, Value.int .i64 A, Value.int .i64 B, Value.int .i64 bw, Value.slice wa wn wc, Value.slice ka kn kc] 65) = wa1 at *
    obtain ⟨bs, hbs⟩ : ∃ x, w1.heap.size = x := ⟨_, rfl⟩
    rw [hbs] at XS0
    try simp only [hbs]
    clear hba hbs SI1 B1
    refine Calls.mono (rewrites_any _) ?_
    rintro e w2 ⟨rfl, hw2⟩
    have XR0 : Hid (Bz w2 wa1.heap.size rwRow 73) := by rw [hw2]; exact Bz.new wa1 _ _
    have hbr : Below wa1.heap.size wa1 w2 := by rw [hw2]; exact (Below.refl _ _).alloc (Nat.le_refl _) _
    have B2 := kide (BA.out.trans (hbr.mono BA.out.size))
    have XS2 := kide (XS0.out.later hbr)
    have SI2 := kide (SIA.out.later hbr)
    have HLT : Hid (w.heap.size < w2.heap.size) := by
      show _ < _
      have h1 := B2.out.size
      have h2 := XS2.out.lt
      have h3 := XR0.out.lt
      have h4 := BA.out.size
      omega
    generalize wa1.heap.size = g at *
    clear hbr hw2 XS0 SIA BA
    go_wp2_with fail
    go_loopw [9, 23] (fun v i wr => ∃ k : Nat, k ≤ 11 ∧ i = .int .i64 (k : Int) ∧ OW wr w2.heap.size v (F k) ∧ Below w.heap.size w wr ∧ Below w2.heap.size w2 wr) (fun _ i _ => 11 - (intOf i).toNat)
    case atStart => exact ⟨0, by omega, rfl, by rw [HF0.out]; exact ⟨rfl, .inl ⟨rfl, rfl⟩⟩, B2.out, Below.refl _ _⟩
    case round =>
      obtain ⟨k, hk, rfl, hown, hb1, hb2⟩ := hrel
      have HO := kide hown
      have HB1 := kide hb1
      have HB2 := kide hb2
      clear hown
      by_cases hlt : k < 11
      · obtain ⟨FN, GN, r0, r1, r2, hent, hcall⟩ := HRU.out k hlt
        have hxr := XR0.out.later hb2
        have q0 := (hxr.cell (k * 3)).trans r0
        have q1 := (hxr.cell (k * 3 + 1)).trans r1
        have q2 := (hxr.cell (k * 3 + 2)).trans r2
        have hxs := XS2.out.later hb2
        have z0 := hxs.cell 0
        have z1 := hxs.cell 1
        have z2 := hxs.cell 2
        have z3 := hxs.cell 3
        have z4 := hxs.cell 4
        have z5 := hxs.cell 5
        have z6 := hxs.cell 6
        have z7 := hxs.cell 7
        have z8 := hxs.cell 8
        have z9 := hxs.cell 9
        simp at z0 z1 z2 z3 z4 z5 z6 z7 z8 z9
        have ls := hxs.lt
        have lg := hxr.lt
        have SIK := kide (SI2.out.later hb2)
        have HCALL := kide hcall
        have HST := kide (HFS.out k)
        have HFK := kide (HFL.out k).1
        generalize fitB (xs.map Tg.ct) wd ⟨op, vr, A, B, bw, ws, ks⟩ (k + 1) = bb at *
        have i0 : (k : Int) < 11 := by omega
        have HK11 : Hid (k < 11) := hlt
        have hbn : Below wr.heap.size wr (wr.alloc (Obj.cells #[Value.int .i64 ((k + 1 : Nat) : Int), Value.func (Fn.func FN) #[] #[], Value.func (Fn.func GN) #[] #[]] 73)) := (Below.refl _ _).alloc (Nat.le_refl _) _
        have SIN := kide (SIK.out.later hbn)
        have HB3 := kide (HB1.out.trans (hbn.mono HB1.out.size))
        have HB4 := kide (HB2.out.trans (hbn.mono HB2.out.size))
        have HO3 := kide (HO.out.later hbn)
        have XK := kide (Bz.new wr #[Value.int .i64 ((k + 1 : Nat) : Int), Value.func (Fn.func FN) #[] #[], Value.func (Fn.func GN) #[] #[]] 73)
        clear hlt hcall hxs hxr hb1 hb2 hbn hk HO HB1 HB2 SIK
        obtain ⟨k1, hk1⟩ : ∃ m : Int, ((k + 1 : Nat) : Int) = m := ⟨_, rfl⟩
        have HK1 := kide hk1
        rw [hk1] at q0 SIN HB3 HB4 HO3 XK HST
        clear hk1 r0 r1 r2
        go_wp2_with fail
        refine Calls.mono (HCALL.out _ SIN.out) ?_
        rintro e w3 ⟨rfl, hb3⟩
        have O4 := kide (HO3.out.later hb3)
        have B4 := kide (HB3.out.trans (hb3.mono HB3.out.size))
        have B5 := kide (HB4.out.trans (hb3.mono HB4.out.size))
        have X4 := kide (XK.out.later hb3)
        have d0 := X4.out.cell 0
        simp at d0
        have lw := X4.out.lt
        clear hb3 HO3 HB3 HB4 XK SIN HCALL q0 q1 q2 hent z0 z1 z2 z3 z4 z5 z6 z7 z8 z9
        cases bb with
        | false =>
          go_wp2_with fail
          go_roundw
          case rel => exact ⟨k + 1, by have := HK11.out; omega, by go_num, by rw [HST.out]; simpa using O4.out, B4.out, B5.out⟩
          case measure => have := HK11.out; simp only [intOf, Int.toNat_natCast]; omega
        | true =>
          have hul : (F k).length ≤ 1073741824 := by have h1 := HFK.out; have h2 := HK11.out; omega
          have hsz : w2.heap.size ≤ w3.heap.size := B5.out.size
          go_wp2_with (at_builtin; refine wpList_appW rfl _ _ rfl w2.heap.size _ (F k) k1 rfl (World.ownsRow.alloc O4.out _) _ rfl (by simp) hul (by simp; omega) ?_)
          intro v7 w7 hos hg
          have ba4 : Below w.heap.size w (w3.alloc (Obj.cells #[Value.int .i64 k1] 2)) := B4.out.alloc B4.out.size _
          have ba5 : Below w2.heap.size w2 (w3.alloc (Obj.cells #[Value.int .i64 k1] 2)) := B5.out.alloc B5.out.size _
          have B6 := kide (ba4.grown hg ba4.size (fun kk e => by have h1 := (O4.out.lt e).1; have h2 := HLT.out; omega))
          have B7 := kide (ba5.grown hg ba5.size (fun kk e => by have h1 := (O4.out.lt e).1; omega))
          have O7 := kide hos
          clear hos hg ba4 ba5 O4 B4 B5 X4 d0 lw hul hsz
          go_wp2_with fail
          go_roundw
          case rel => exact ⟨k + 1, by have := HK11.out; omega, by go_num, by rw [HST.out]; simpa [HK1.out] using O7.out, B6.out, B7.out⟩
          case measure => have := HK11.out; simp only [intOf, Int.toNat_natCast]; omega
      · have e : k = 11 := by omega
        subst e
        clear hb1 hb2 hlt
        go_wp2_with fail
        go_ret
        exact ⟨_, rfl, HO.out.lowW (by have := HLT.out; omega), HB1.out⟩

end Go.Proofs.YtdlmgndmfphneaaGreatDoor

/- What is known of a node all of whose Kids are constants. No program in sight. -/
namespace Go.Proofs.YtdlmgndmfphneaaGreatDoor
set_option linter.unusedVariables false
set_option linter.unusedSimpArgs false
open Go.RowKit

/-- Words of zeros. -/
def zerV (ds : List Dc) : List Wd := ds.map fun d => (d.2, pack (List.replicate d.2.toNat 0))

theorem zerV_ok {ds : List Dc} (h : dclR ds = true) : valR ds (zerV ds) = true ∧ ∀ x ∈ zerV ds, ∀ y ∈ x.2, y < 18446744073709551616 := by
  refine ⟨valR_iff.2 ⟨h, by simp [zerV], fun i hi => ?_⟩, fun x hx => ?_⟩
  · have hl : i < ds.length := by simpa [zerV] using hi
    have hd := (dclR_iff.1 h).2.1 _ (List.getElem_mem hl)
    have e1 : (zerV ds).getD i (0, []) = ((ds[i]).2, pack (List.replicate (ds[i]).2.toNat 0)) := by simp [zerV, List.getD, hl]
    have e2 : ds.getD i (.empty, 0) = ds[i] := by simp [List.getD, hl]
    simp only [dcOk, Bool.and_eq_true, wOk, decide_eq_true_eq] at hd
    rw [e1, e2]
    refine ⟨(pkW_ok _ (fun x hx => ?_) ?_ ?_ ?_).1, rfl⟩
    · have := (List.mem_replicate.1 hx).2; omega
    · simp; omega
    · simp; omega
    · simp; omega
  · simp only [zerV, List.mem_map] at hx
    obtain ⟨d, -, rfl⟩ := hx
    exact pack_lt _

theorem con_at {ds : List Dc} {ns : List Tc} (hw : ¬ (widthsR ds ns).length = 0) (hnb : ∀ n ∈ ns, ∀ y ∈ n.ws, y < 18446744073709551616) {p : Nat} {n : Tc} (hk : ns[p]? = some n) (h1 : n.op ≠ 1) :
    ∃ all, NodeAt [] all n ∧ ∀ (j : Nat) (m : Tc), j < p → ns[j]? = some m → m.op = 2 → all.getD j (0, []) = (m.bw, m.ws) := by
  obtain ⟨hv, hvb⟩ := zerV_ok (right_wd hw).1
  have hA := ev_at hw hv hvb hnb hk
  have hn : nodV (zerV ds) (evR (zerV ds) (ns.take p)) n = nodV [] (evR (zerV ds) (ns.take p)) n := by
    unfold nodV
    rw [if_neg h1, if_neg h1]
  refine ⟨evR (zerV ds) (ns.take p), ⟨hA.op, hA.kid, fun h => (h1 h).elim, hA.many, hA.fit, hA.one, hA.wide, hA.oks, by rw [← hn]; exact hA.is⟩, fun j m hj hm h2 => ?_⟩
  have hlt := (List.getElem?_eq_some_iff.1 hm).1
  have e1 := ev_pre (zerV ds) ns p j hj
  have e2 := ev_pre (zerV ds) ns (j + 1) j (by omega)
  rw [ev_take hm, List.getElem?_append_right (by rw [ev_len, List.length_take]; omega), ev_len, List.length_take, show j - min j ns.length = 0 by omega] at e2
  rw [List.getD, e1, ← e2]
  simp [nodV, h2]

/-- The word of a constant node. -/
def cw (xs : List Tg) (k : Int) : Bw := match xs[k.toNat]? with
  | some x => ⟨x.ct.bw, x.wa, x.wc, x.ct.ws⟩
  | none => ⟨0, none, 0, []⟩

theorem cw_at {xs : List Tg} {j : Nat} {x : Tg} (h : xs[j]? = some x) : cw xs (j : Int) = ⟨x.ct.bw, x.wa, x.wc, x.ct.ws⟩ := by
  unfold cw
  rw [Int.toNat_natCast, h]

theorem cw_take {xs : List Tg} {ks : List Int} {i : Nat} {k : Int} (h : ks[i]? = some k) : (ks.take (i + 1)).map (cw xs) = (ks.take i).map (cw xs) ++ [cw xs k] := by
  simp [List.take_add_one, h]

theorem all_take {P : Int → Bool} {ks : List Int} {i : Nat} {k : Int} (h : ks[i]? = some k) : (ks.take (i + 1)).all P = ((ks.take i).all P && P k) := by
  simp [List.take_add_one, h]

theorem all_no {P : Int → Bool} {ks : List Int} {i : Nat} {k : Int} (h : ks[i]? = some k) (hp : P k = false) : ks.all P = false := by
  rw [Bool.eq_false_iff]
  intro h'
  have := List.all_eq_true.1 h' k (List.mem_of_getElem? h)
  rw [hp] at this
  cases this

theorem kO_at' {xs : List Tg} {k : Nat} {x : Tg} (h : xs[k]? = some x) : kO (xs.map Tg.ct) (k : Int) = x.ct.op ∧ kK (xs.map Tg.ct) (k : Int) = x.ct.ks := by
  unfold kO kK
  rw [Int.toNat_natCast, List.getElem?_map, h]
  exact ⟨rfl, rfl⟩

theorem cw_kids {xs : List Tg} {all : List Wd} {ks : List Int} {p : Nat} (hk : ∀ j ∈ ks, 0 ≤ j ∧ j < (p : Int)) (hp : p ≤ xs.length) (hc : ks.all (fun k => decide (kO (xs.map Tg.ct) k = 2)) = true)
    (ha : ∀ (j : Nat) (m : Tc), j < p → (xs.map Tg.ct)[j]? = some m → m.op = 2 → all.getD j (0, []) = (m.bw, m.ws)) : (ks.map (cw xs)).map Bw.ct = kidsV all ks := by
  unfold kidsV
  rw [List.map_map]
  refine List.map_congr_left fun k hm => ?_
  have h1 := hk k hm
  have h2 := List.all_eq_true.1 hc k hm
  simp only [decide_eq_true_eq] at h2
  obtain ⟨j, rfl⟩ : ∃ j : Nat, k = (j : Int) := ⟨k.toNat, by omega⟩
  obtain ⟨x, hx⟩ : ∃ x, xs[j]? = some x := ⟨xs[j]'(by omega), List.getElem?_eq_getElem _⟩
  rw [(kO_at' hx).1] at h2
  have := ha j x.ct (by omega) (by rw [List.getElem?_map, hx]; rfl) h2
  simp only [Function.comp, cw_at hx, Bw.ct, Int.toNat_natCast]
  exact this.symm

end Go.Proofs.YtdlmgndmfphneaaGreatDoor

/- What the given specification makes of a node of constants. -/
namespace Go.Proofs.YtdlmgndmfphneaaGreatDoor
set_option linter.unusedVariables false
set_option linter.unusedSimpArgs false
open Go.RowKit

/-- Three blocks more: what they hold. -/
theorem con_boxes {w : World} {o1 o2 : Array Value} {t1 t2 : TypeId} :
    Bz (((w.alloc (.cells o1 t1)).alloc (.cells o2 t2)).alloc (.cells #[Value.int .i64 0, Value.slice none 0 0] 53)) w.heap.size o1 t1 ∧
    Bz (((w.alloc (.cells o1 t1)).alloc (.cells o2 t2)).alloc (.cells #[Value.int .i64 0, Value.slice none 0 0] 53)) (w.heap.size + 1) o2 t2 ∧
    Bz (((w.alloc (.cells o1 t1)).alloc (.cells o2 t2)).alloc (.cells #[Value.int .i64 0, Value.slice none 0 0] 53)) (w.heap.size + 1 + 1) #[Value.int .i64 0, Value.slice none 0 0] 53 := by
  have g : ∀ (u : World) (o : Obj), Below u.heap.size u (u.alloc o) := fun u o => (Below.refl _ _).alloc (Nat.le_refl _) _
  have h2 := Bz.new (w.alloc (.cells o1 t1)) o2 t2
  rw [show (w.alloc (.cells o1 t1)).heap.size = w.heap.size + 1 by simp] at h2
  have h3 := Bz.new ((w.alloc (.cells o1 t1)).alloc (.cells o2 t2)) #[Value.int .i64 0, Value.slice none 0 0] 53
  rw [show ((w.alloc (.cells o1 t1)).alloc (.cells o2 t2)).heap.size = w.heap.size + 1 + 1 by simp] at h3
  exact ⟨((Bz.new w o1 t1).later (g _ _)).later (g _ _), h2.later (g _ _), h3⟩

set_option maxHeartbeats 1000000 in
set_option maxRecDepth 100000 in
theorem l15Const_zero (b wa ka : Option Addr) (N c2 wn wc kc : Nat) (op vr A B bw : Int) (w : World) :
    Calls Tryz.prog 43 #[.agg #[.slice b N c2], .agg #[.int .i64 op, .int .i64 vr, .int .i64 A, .int .i64 B, .int .i64 bw, .slice wa wn wc, .slice ka 0 kc]] w (RetN w false) := by
  obtain ⟨xt, xn, xr⟩ := con_boxes (w := w) (o1 := #[Value.slice b N c2]) (o2 := #[.int .i64 op, .int .i64 vr, .int .i64 A, .int .i64 B, .int .i64 bw, .slice wa wn wc, .slice ka 0 kc]) (t1 := 34) (t2 := 63)
  have XN := kide (xn.later ((Below.refl _ _).alloc (Nat.le_refl _) (.cells #[] 61)))
  have XR := kide (xr.later ((Below.refl _ _).alloc (Nat.le_refl _) (.cells #[] 61)))
  have BW : Hid (Below w.heap.size w ((((w.alloc (.cells #[Value.slice b N c2] 34)).alloc (.cells #[.int .i64 op, .int .i64 vr, .int .i64 A, .int .i64 B, .int .i64 bw, .slice wa wn wc, .slice ka 0 kc] 63)).alloc (.cells #[Value.int .i64 0, Value.slice none 0 0] 53)).alloc (.cells #[] 61))) := by
    show Below _ _ _
    repeat' (first | exact Below.refl _ _ | refine Below.alloc ?_ (by simp; try omega) _)
  clear xt xn xr
  go_enter Tryz.func43, Tryz.ntmps43
  go_wp2_with fail
  generalize (((w.alloc (.cells #[Value.slice b N c2] 34)).alloc (.cells #[.int .i64 op, .int .i64 vr, .int .i64 A, .int .i64 B, .int .i64 bw, .slice wa wn wc, .slice ka 0 kc] 63)).alloc (.cells #[Value.int .i64 0, Value.slice none 0 0] 53)).alloc (.cells #[] 61) = W0 at *
  go_loopw [6, 7] (fun o q wr => o = .slice (some ⟨w.heap.size + 1 + 1 + 1, 0, none⟩) 0 0 ∧ q = .int .i64 0 ∧ wr = W0) (fun _ _ _ => 0)
  case atStart => exact ⟨rfl, rfl, rfl⟩
  case round =>
    obtain ⟨rfl, rfl, hwe⟩ := hrel
    subst hwe
    have n6 := XN.out.cell 6
    have ln := XN.out.lt
    simp at n6
    have e0 := XR.out.cell 0
    have e1 := XR.out.cell 1
    have f0 := XR.out.froz 0
    have f1 := XR.out.froz 1
    simp at e0 e1
    have y9 := (XR.out.set 0 (Value.int .i64 0)).set 1 (Value.slice none 0 0)
    have Y0 := kide (y9.cell 0)
    have Y1 := kide (y9.cell 1)
    clear y9
    go_wp2_with fail
    have y0 := Y0.out
    have y1 := Y1.out
    simp at y0 y1
    exact bodyPost_ret (v := .tuple #[.agg #[.int .i64 0, .slice none 0 0], .bool false]) (by simp [results, Tryz.results43, go_sem, y0, y1]) rfl ⟨0, none, 0, 0, rfl, (BW.out.setCell (p := ⟨w.heap.size + 1 + 1, 0, none⟩) (by simp; omega) _).setCell (p := ⟨w.heap.size + 1 + 1, 1, none⟩) (by simp; omega) _⟩

set_option maxHeartbeats 4000000 in
set_option maxRecDepth 100000 in
theorem l15Const_any (tb to : Nat) (xa wa ka : Option Addr) (N c2 wn wc kn kc p : Nat) (op vr A B bw : Int) (ws : List Nat) (ks : List Int) (xs : List Tg) (wd : List Int) (w : World) (hS : Si w (some ⟨tb, to, none⟩) xa ka xs wd p ⟨op, vr, A, B, bw, ws, ks⟩) (hN : xs.length = N) (hwn : ws.length = wn) (hkn : ks.length = kn) (hk0 : 0 < kn) (hw : Rd w wa ws) (h64 : in64 A)
    (hcon : op ≠ 1 → ∃ all, NodeAt [] all ⟨op, vr, A, B, bw, ws, ks⟩ ∧ ∀ (j : Nat) (m : Tc), j < p → (xs.map Tg.ct)[j]? = some m → m.op = 2 → all.getD j (0, []) = (m.bw, m.ws)) :
    Calls Tryz.prog 43 #[.agg #[.slice (some ⟨tb, to, none⟩) N c2], .agg #[.int .i64 op, .int .i64 vr, .int .i64 A, .int .i64 B, .int .i64 bw, .slice wa wn wc, .slice ka kn kc]] w (RetN w (fitB (xs.map Tg.ct) wd ⟨op, vr, A, B, bw, ws, ks⟩ 10)) := by
  have ho1 : op ≠ 1 := fun h => by have := hS.rn.few (by simp only []; omega); simp only [] at this; omega
  obtain ⟨all, hA, hall⟩ := hcon ho1
  have hkr := hS.rn.kid
  have hkl := hS.rn.len
  simp only [] at hkr hkl
  have hpl := hS.lt
  have hfit : Hid (fitB (xs.map Tg.ct) wd ⟨op, vr, A, B, bw, ws, ks⟩ 10 = ks.all (fun k => decide (kO (xs.map Tg.ct) k = 2))) := by
    show _ = _
    rw [fit10]
    simp only [hkn, hk0, decide_true, Bool.true_and]
  rw [hfit.out]
  have hsw := kide hS.hn
  have hww : Hid (∀ x ∈ xs, in64 x.ct.bw) := fun x hx => by
    obtain ⟨i, hi⟩ := List.getElem?_of_mem hx
    rcases hS.hn.2 with h0 | ⟨b, o, e, hc⟩
    · rw [h0] at hi; simp at hi
    · exact (hc i x hi).2.2.2.2.2.2.2
  have hNO := kide (fun (u : World) (va k2 : Option Addr) (vc kc2 : Nat) (hb : Below w.heap.size w u) (hd : (ks.map (cw xs)).map Bw.ct = kidsV all ks) (hk : RdW u k2 (ks.map (cw xs))) => l4Node_all va k2 wa ka vc kc2 wc kc [] (ks.map (cw xs)) ⟨op, vr, A, B, bw, ws, ks⟩ all w u (by simpa using hA) ⟨by simp, .inl rfl⟩ hb hd hk hw h64)
  simp only [nodA, List.length_map, List.length_nil] at hNO
  rw [hwn, hkn] at hNO
  have hCK := kide (fun (hc : ks.all (fun k => decide (kO (xs.map Tg.ct) k = 2)) = true) => cw_kids hkr (Nat.le_of_lt hpl) hc hall)
  obtain ⟨xt, xn, xr⟩ := con_boxes (w := w) (o1 := #[Value.slice (some ⟨tb, to, none⟩) N c2]) (o2 := #[.int .i64 op, .int .i64 vr, .int .i64 A, .int .i64 B, .int .i64 bw, .slice wa wn wc, .slice ka kn kc]) (t1 := 34) (t2 := 63)
  obtain ⟨Wa, hWa⟩ : ∃ Wa, ((w.alloc (.cells #[Value.slice (some ⟨tb, to, none⟩) N c2] 34)).alloc (.cells #[.int .i64 op, .int .i64 vr, .int .i64 A, .int .i64 B, .int .i64 bw, .slice wa wn wc, .slice ka kn kc] 63)).alloc (.cells #[Value.int .i64 0, Value.slice none 0 0] 53) = Wa := ⟨_, rfl⟩
  have hsa : Wa.heap.size = w.heap.size + 1 + 1 + 1 := by rw [← hWa]; simp
  have bwa : Below w.heap.size w Wa := by
    rw [← hWa]
    repeat' (first | exact Below.refl _ _ | refine Below.alloc ?_ (by simp; try omega) _)
  rw [hWa] at xt xn xr
  have XT := kide xt
  have XN := kide xn
  have XR := kide xr
  have BWA := kide bwa
  have O0 := kide (OB2.fresh Wa Wa.heap.size (Nat.le_refl _))
  have B0 : Hid (Below Wa.heap.size Wa (Wa.alloc (.cells #[] 61))) := (Below.refl _ _).alloc (Nat.le_refl _) _
  rw [hsa] at O0
  have HSA := kide hsa
  have HWA := kide hWa
  have HS := kide hS
  have HN := kide hN
  have HKN := kide hkn
  have HKR := kide hkr
  have HKL := kide hkl
  obtain ⟨R, hR⟩ : ∃ R, ks.all (fun k => decide (kO (xs.map Tg.ct) k = 2)) = R := ⟨_, rfl⟩
  have HR := kide hR
  rw [hR]
  clear xt xn xr hS hN hwn hkn hw h64 hcon hA hall hkr hsa bwa hfit hWa hR hkl ho1 hpl
  go_enter Tryz.func43, Tryz.ntmps43
  go_wp2_with fail
  rw [HWA.out]
  generalize hW0 : Wa.alloc (.cells #[] 61) = W0 at *
  clear hW0 HWA
  go_loopw [6, 7] (fun o q wr => ∃ i : Nat, i ≤ kn ∧ q = .int .i64 (i : Int) ∧ (ks.take i).all (fun k => decide (kO (xs.map Tg.ct) k = 2)) = true ∧ OB2 wr (w.heap.size + 1 + 1 + 1) o ((ks.take i).map (cw xs)) ∧ Below Wa.heap.size Wa wr) (fun _ q _ => kn - (intOf q).toNat)
  case atStart => exact ⟨0, Nat.zero_le _, rfl, by simp, by simpa using O0.out, B0.out⟩
  case round =>
    obtain ⟨i, hi, rfl, hall, hown, hbw⟩ := hrel
    have XTk := kide (XT.out.later hbw)
    have XNk := kide (XN.out.later hbw)
    have XRk := kide (XR.out.later hbw)
    have BB := kide (BWA.out.trans (hbw.mono BWA.out.size))
    have BK := kide hbw
    have HO := kide hown
    have t0 := XTk.out.cell 0
    have n6 := XNk.out.cell 6
    simp at t0 n6
    have ltk := XTk.out.lt
    have lnk := XNk.out.lt
    have lrk := XRk.out.lt
    have hk4 : kn ≤ 4096 := by have := HKL.out; have := HKN.out; omega
    clear hbw hown
    by_cases hlt : i < kn
    · obtain ⟨kb, ko, j, rfl, k0, hj, hjp⟩ := HS.out.kid (i := i) (by simp only [HKN.out]; exact hlt)
      simp only [] at hj
      obtain ⟨b9, o9, ⟨⟨yop, yvr, yA, yB, ybw, yws, yks⟩, ywa, ywc, yka, ykc⟩, e9, hy, ⟨⟨q0, q1, q2, q3, q4, q5, q6⟩, qr, qk, -⟩⟩ := HS.out.node (k := j) (by have := HS.out.lt; omega)
      cases e9
      simp only [Tg.hd] at q0 q1 q2 q3 q4 q5 q6 qr qk
      have hik : ks[i]? = some (j : Int) := by rw [← hj]; simp [List.getD, show i < ks.length by rw [HKN.out]; exact hlt]
      have hcw := cw_take (xs := xs) hik
      rw [cw_at hy] at hcw
      simp only [] at hcw
      have hat := all_take (P := fun k => decide (kO (xs.map Tg.ct) k = 2)) hik
      have hko : kO (xs.map Tg.ct) (j : Int) = yop := (kO_at hy).1
      have l1 := block_lt_of_cell k0
      have l2 := block_lt_of_cell q0
      have K0 := kide k0
      have Q4 := kide q4
      have Q5 := kide q5
      have HL12 := kide (And.intro l1 l2)
      rw [← kcell BB.out _ _ l1] at k0
      rw [← kcell BB.out _ _ l2] at q0 q4 q5
      have j0 : (j : Int) < (N : Int) := by have := HS.out.lt; have := HN.out; omega
      have i0 : (i : Int) < (kn : Int) := by omega
      by_cases hy2 : yop = 2
      · subst hy2
        have hal2 : Hid ((ks.take (i + 1)).all (fun k => decide (kO (xs.map Tg.ct) k = 2)) = true) := by show _ = _; rw [hat, hall, hko]; rfl
        have HCW := kide hcw
        have HLT : Hid (i < kn) := hlt
        have hul : ((ks.take i).map (cw xs)).length ≤ 1073741824 := by have := HKL.out; simp; omega
        have k0w := kide k0
        have q4w := kide q4
        have q5w := kide q5
        clear hat hko hcw hik hy hjp hj hlt hi hall l1 l2 q1 q2 q3 q6 qr qk
        go_wp2_with fail
        go_quiet (fail)
        have hbq : Below wr.heap.size wr (wr.drewN nq) := below_drewN (Below.refl _ _) _
        have XTq := kide (XTk.out.later hbq)
        have XNq := kide (XNk.out.later hbq)
        have XRq := kide (XRk.out.later hbq)
        have BBq := kide (BB.out.trans (hbq.mono BB.out.size))
        have BKq := kide (BK.out.trans (hbq.mono BK.out.size))
        have HOq := kide (HO.out.later hbq)
        have lt1 := block_lt_of_cell k0w.out
        have lt2 := block_lt_of_cell q4w.out
        have k0v := kide ((kcell hbq _ _ lt1).trans k0w.out)
        have q4v := kide ((kcell hbq _ _ lt2).trans q4w.out)
        have q5v := kide ((kcell hbq _ _ lt2).trans q5w.out)
        clear k0w q4w q5w lt1 lt2
        clear hbq t0 n6 ltk lnk lrk XTk XNk XRk BB BK HO k0 q0 q4 q5
        generalize wr.drewN nq = wq at *
        have t0 := XTq.out.cell 0
        have n6 := XNq.out.cell 6
        simp at t0 n6
        have ltk := XTq.out.lt
        have lnk := XNq.out.lt
        have lrk := XRq.out.lt
        have k0 := k0v.out
        have q4 := q4v.out
        have q5 := q5v.out
        have lt1 := block_lt_of_cell k0
        have lt2 := block_lt_of_cell q4
        clear k0v q4v q5v
        go_wp2_with fail
        refine wp_region_x (SA := fun _ => False) (SB := fun uu => uu.cell? ⟨w.heap.size, 0, none⟩ = some (Value.slice (some ⟨tb, to, none⟩) N c2) ∧ uu.cell? ⟨w.heap.size + 1, 6, none⟩ = some (Value.slice (some ⟨kb, ko, none⟩) kn kc) ∧ uu.cell? ⟨kb, ko + i, none⟩ = some (Value.int .i64 (j : Int)) ∧ uu.cell? ⟨tb, to + j * 7 + 4, none⟩ = some (Value.int .i64 ybw) ∧ uu.cell? ⟨tb, to + j * 7 + 5, none⟩ = some (Value.slice ywa yws.length ywc)) (k := 999) (by kernel_rfl) ?_
        have hbd : Below wq.heap.size wq wq.drew := (Below.refl _ _).drew
        have HOd := kide (HOq.out.later hbd)
        have BKd := kide (BKq.out.trans (hbd.mono BKq.out.size))
        have c0_0 : wq.drew.cell? ⟨w.heap.size, 0, none⟩ = some (Value.slice (some ⟨tb, to, none⟩) N c2) := (kcell hbd _ _ XTq.out.lt).trans (XTq.out.cell 0)
        have c1_0 : wq.drew.cell? ⟨w.heap.size + 1, 6, none⟩ = some (Value.slice (some ⟨kb, ko, none⟩) kn kc) := (kcell hbd _ _ XNq.out.lt).trans (XNq.out.cell 6)
        have c2_0 : wq.drew.cell? ⟨kb, ko + i, none⟩ = some (Value.int .i64 (j : Int)) := (kcell hbd _ _ lt1).trans k0
        have c3_0 : wq.drew.cell? ⟨tb, to + j * 7 + 4, none⟩ = some (Value.int .i64 ybw) := (kcell hbd _ _ lt2).trans q4
        have c4_0 : wq.drew.cell? ⟨tb, to + j * 7 + 5, none⟩ = some (Value.slice ywa yws.length ywc) := (kcell hbd _ _ lt2).trans q5
        clear hbd
        generalize wq.drew = m0 at *
        have hs0 : Hid ((fun uu => uu.cell? ⟨w.heap.size, 0, none⟩ = some (Value.slice (some ⟨tb, to, none⟩) N c2) ∧ uu.cell? ⟨w.heap.size + 1, 6, none⟩ = some (Value.slice (some ⟨kb, ko, none⟩) kn kc) ∧ uu.cell? ⟨kb, ko + i, none⟩ = some (Value.int .i64 (j : Int)) ∧ uu.cell? ⟨tb, to + j * 7 + 4, none⟩ = some (Value.int .i64 ybw) ∧ uu.cell? ⟨tb, to + j * 7 + 5, none⟩ = some (Value.slice ywa yws.length ywc)) m0) := ⟨c0_0, c1_0, c2_0, c3_0, c4_0⟩
        try go_simp
        refine wpAnyX_both (T := (fun _ => True)) (i := 0) (v := u6) rfl (by kernel_rfl) (by kernel_rfl) (by kernel_rfl) (fun _ _ _ h => by first | exact h | exact h.elim) (by decide) (fun _ _ => trivial) (fun _ _ => trivial) (Sx.behind (by kernel_rfl) hs0.out) (Or.inl ⟨by rfl, fun uu hu => by go_simp⟩) ?_
        try go_simp
        refine wpAnyX_both (T := (fun _ => True)) (i := 1) (v := Value.pointer (some ⟨w.heap.size, 0, none⟩)) rfl (by kernel_rfl) (by kernel_rfl) (by kernel_rfl) (fun _ _ _ h => by first | exact h | exact h.elim) (by decide) (fun _ _ => trivial) (fun _ _ => trivial) (Sx.behind (by kernel_rfl) hs0.out) (Or.inl ⟨by rfl, fun uu hu => by go_simp⟩) ?_
        try go_simp
        refine wpAnyX_both (T := (fun uu => uu.cell? ⟨w.heap.size, 0, none⟩ = some (Value.slice (some ⟨tb, to, none⟩) N c2) ∧ uu.cell? ⟨w.heap.size + 1, 6, none⟩ = some (Value.slice (some ⟨kb, ko, none⟩) kn kc) ∧ uu.cell? ⟨kb, ko + i, none⟩ = some (Value.int .i64 (j : Int)) ∧ uu.cell? ⟨tb, to + j * 7 + 4, none⟩ = some (Value.int .i64 ybw) ∧ uu.cell? ⟨tb, to + j * 7 + 5, none⟩ = some (Value.slice ywa yws.length ywc))) (i := 2) (v := Value.slice (some ⟨tb, to, none⟩) N c2) rfl (by kernel_rfl) (by kernel_rfl) (by kernel_rfl) (fun _ _ _ h => by first | exact h | exact h.elim) (by decide) (fun _ h => h.elim) (fun _ h => h) (Sx.behind (by kernel_rfl) hs0.out) (Or.inl ⟨by rfl, fun uu hu => by obtain ⟨e0, e1, e2, e3, e4⟩ := hu; go_simp⟩) ?_
        try go_simp
        refine wpAnyX_both (T := (fun _ => True)) (i := 3) (v := Value.pointer (some ⟨w.heap.size + 1, 6, none⟩)) rfl (by kernel_rfl) (by kernel_rfl) (by kernel_rfl) (fun _ _ _ h => by first | exact h | exact h.elim) (by decide) (fun _ _ => trivial) (fun _ _ => trivial) (Sx.behind (by kernel_rfl) hs0.out) (Or.inl ⟨by rfl, fun uu hu => by go_simp⟩) ?_
        try go_simp
        refine wpAnyX_both (T := (fun uu => uu.cell? ⟨w.heap.size, 0, none⟩ = some (Value.slice (some ⟨tb, to, none⟩) N c2) ∧ uu.cell? ⟨w.heap.size + 1, 6, none⟩ = some (Value.slice (some ⟨kb, ko, none⟩) kn kc) ∧ uu.cell? ⟨kb, ko + i, none⟩ = some (Value.int .i64 (j : Int)) ∧ uu.cell? ⟨tb, to + j * 7 + 4, none⟩ = some (Value.int .i64 ybw) ∧ uu.cell? ⟨tb, to + j * 7 + 5, none⟩ = some (Value.slice ywa yws.length ywc))) (i := 4) (v := Value.slice (some ⟨kb, ko, none⟩) kn kc) rfl (by kernel_rfl) (by kernel_rfl) (by kernel_rfl) (fun _ _ _ h => by first | exact h | exact h.elim) (by decide) (fun _ h => h.elim) (fun _ h => h) (Sx.behind (by kernel_rfl) hs0.out) (Or.inl ⟨by rfl, fun uu hu => by obtain ⟨e0, e1, e2, e3, e4⟩ := hu; go_simp⟩) ?_
        try go_simp
        refine wpAnyX_both (T := (fun _ => True)) (i := 5) (v := Value.int .i64 (i : Int)) rfl (by kernel_rfl) (by kernel_rfl) (by kernel_rfl) (fun _ _ _ h => by first | exact h | exact h.elim) (by decide) (fun _ _ => trivial) (fun _ _ => trivial) (Sx.behind (by kernel_rfl) hs0.out) (Or.inl ⟨by rfl, fun uu hu => by go_simp⟩) ?_
        try go_simp
        refine wpAnyX_both (T := (fun _ => True)) (i := 6) (v := Value.pointer (some ⟨kb, ko + i, none⟩)) rfl (by kernel_rfl) (by kernel_rfl) (by kernel_rfl) (fun _ _ _ h => by first | exact h | exact h.elim) (by decide) (fun _ _ => trivial) (fun _ _ => trivial) (Sx.behind (by kernel_rfl) hs0.out) (Or.inl ⟨by rfl, fun uu hu => by go_simp⟩) ?_
        try go_simp
        refine wpAnyX_both (T := (fun uu => uu.cell? ⟨w.heap.size, 0, none⟩ = some (Value.slice (some ⟨tb, to, none⟩) N c2) ∧ uu.cell? ⟨w.heap.size + 1, 6, none⟩ = some (Value.slice (some ⟨kb, ko, none⟩) kn kc) ∧ uu.cell? ⟨kb, ko + i, none⟩ = some (Value.int .i64 (j : Int)) ∧ uu.cell? ⟨tb, to + j * 7 + 4, none⟩ = some (Value.int .i64 ybw) ∧ uu.cell? ⟨tb, to + j * 7 + 5, none⟩ = some (Value.slice ywa yws.length ywc))) (i := 7) (v := Value.int .i64 (j : Int)) rfl (by kernel_rfl) (by kernel_rfl) (by kernel_rfl) (fun _ _ _ h => by first | exact h | exact h.elim) (by decide) (fun _ h => h.elim) (fun _ h => h) (Sx.behind (by kernel_rfl) hs0.out) (Or.inl ⟨by rfl, fun uu hu => by obtain ⟨e0, e1, e2, e3, e4⟩ := hu; go_simp⟩) ?_
        try go_simp
        refine wpAnyX_both (T := (fun _ => True)) (i := 8) (v := Value.pointer (some ⟨tb, to + j * 7, none⟩)) rfl (by kernel_rfl) (by kernel_rfl) (by kernel_rfl) (fun _ _ _ h => by first | exact h | exact h.elim) (by decide) (fun _ _ => trivial) (fun _ _ => trivial) (Sx.behind (by kernel_rfl) hs0.out) (Or.inl ⟨by rfl, fun uu hu => by go_simp⟩) ?_
        try go_simp
        refine wpAnyX_both (T := (fun _ => True)) (i := 9) (v := Value.pointer (some ⟨tb, to + j * 7 + 4, none⟩)) rfl (by kernel_rfl) (by kernel_rfl) (by kernel_rfl) (fun _ _ _ h => by first | exact h | exact h.elim) (by decide) (fun _ _ => trivial) (fun _ _ => trivial) (Sx.behind (by kernel_rfl) hs0.out) (Or.inl ⟨by rfl, fun uu hu => by go_simp⟩) ?_
        try go_simp
        refine wpAnyX_both (T := (fun uu => uu.cell? ⟨w.heap.size, 0, none⟩ = some (Value.slice (some ⟨tb, to, none⟩) N c2) ∧ uu.cell? ⟨w.heap.size + 1, 6, none⟩ = some (Value.slice (some ⟨kb, ko, none⟩) kn kc) ∧ uu.cell? ⟨kb, ko + i, none⟩ = some (Value.int .i64 (j : Int)) ∧ uu.cell? ⟨tb, to + j * 7 + 4, none⟩ = some (Value.int .i64 ybw) ∧ uu.cell? ⟨tb, to + j * 7 + 5, none⟩ = some (Value.slice ywa yws.length ywc))) (i := 10) (v := Value.agg #[Value.int .i64 ybw, Value.slice ywa yws.length ywc]) rfl (by kernel_rfl) (by kernel_rfl) (by kernel_rfl) (fun _ _ _ h => by first | exact h | exact h.elim) (by decide) (fun _ h => h.elim) (fun _ h => h) (Sx.behind (by kernel_rfl) hs0.out) (Or.inl ⟨by rfl, fun uu hu => by obtain ⟨e0, e1, e2, e3, e4⟩ := hu; go_simp⟩) ?_
        try go_simp
        refine wpAnyX_ready (rs := [11]) (by kernel_rfl) (by simp) (AllX.cons rfl (fun K hK => ?_) AllX.nil)
        go_simp
        have hba : Below m0.heap.size m0 (m0.alloc (Obj.cells #[Value.int .i64 ybw, Value.slice ywa yws.length ywc] 61)) := (Below.refl _ _).alloc (Nat.le_refl _) _
        have HOa := kide (HOd.out.later hba)
        have BKa := kide (BKd.out.trans (hba.mono BKd.out.size))
        have z0 : (m0.alloc (Obj.cells #[Value.int .i64 ybw, Value.slice ywa yws.length ywc] 61)).cell? ⟨m0.heap.size, 0, none⟩ = some (.int .i64 ybw) := by simp
        have z1 : (m0.alloc (Obj.cells #[Value.int .i64 ybw, Value.slice ywa yws.length ywc] 61)).cell? ⟨m0.heap.size, 1, none⟩ = some (.slice ywa yws.length ywc) := by simp
        obtain ⟨g9, hg9⟩ : ∃ x, m0.heap.size = x := ⟨_, rfl⟩
        rw [hg9] at z0 z1
        rw [hg9]
        have Z0 := kide z0
        have Z1 := kide z1
        clear z0 z1
        have c0_1 : (m0.alloc (Obj.cells #[Value.int .i64 ybw, Value.slice ywa yws.length ywc] 61)).cell? ⟨w.heap.size, 0, none⟩ = some (Value.slice (some ⟨tb, to, none⟩) N c2) := (kcell hba _ _ (block_lt_of_cell c0_0)).trans c0_0
        have c1_1 : (m0.alloc (Obj.cells #[Value.int .i64 ybw, Value.slice ywa yws.length ywc] 61)).cell? ⟨w.heap.size + 1, 6, none⟩ = some (Value.slice (some ⟨kb, ko, none⟩) kn kc) := (kcell hba _ _ (block_lt_of_cell c1_0)).trans c1_0
        have c2_1 : (m0.alloc (Obj.cells #[Value.int .i64 ybw, Value.slice ywa yws.length ywc] 61)).cell? ⟨kb, ko + i, none⟩ = some (Value.int .i64 (j : Int)) := (kcell hba _ _ (block_lt_of_cell c2_0)).trans c2_0
        have c3_1 : (m0.alloc (Obj.cells #[Value.int .i64 ybw, Value.slice ywa yws.length ywc] 61)).cell? ⟨tb, to + j * 7 + 4, none⟩ = some (Value.int .i64 ybw) := (kcell hba _ _ (block_lt_of_cell c3_0)).trans c3_0
        have c4_1 : (m0.alloc (Obj.cells #[Value.int .i64 ybw, Value.slice ywa yws.length ywc] 61)).cell? ⟨tb, to + j * 7 + 5, none⟩ = some (Value.slice ywa yws.length ywc) := (kcell hba _ _ (block_lt_of_cell c4_0)).trans c4_0
        clear hba hg9
        generalize m0.alloc (Obj.cells #[Value.int .i64 ybw, Value.slice ywa yws.length ywc] 61) = m1 at *
        have hs1 : Hid ((fun uu => uu.cell? ⟨w.heap.size, 0, none⟩ = some (Value.slice (some ⟨tb, to, none⟩) N c2) ∧ uu.cell? ⟨w.heap.size + 1, 6, none⟩ = some (Value.slice (some ⟨kb, ko, none⟩) kn kc) ∧ uu.cell? ⟨kb, ko + i, none⟩ = some (Value.int .i64 (j : Int)) ∧ uu.cell? ⟨tb, to + j * 7 + 4, none⟩ = some (Value.int .i64 ybw) ∧ uu.cell? ⟨tb, to + j * 7 + 5, none⟩ = some (Value.slice ywa yws.length ywc)) m1) := ⟨c0_1, c1_1, c2_1, c3_1, c4_1⟩
        refine hK _ _ (Sx.behind (by kernel_rfl) hs1.out) ?_
        clear hK K
        try go_simp
        refine wpAnyX_ready (rs := [12]) (by kernel_rfl) (by simp) (AllX.cons rfl (fun K hK => ?_) AllX.nil)
        refine step_appB2E _ rfl _ _ rfl (w.heap.size + 1 + 1 + 1) u6 ((ks.take i).map (cw xs)) ⟨ybw, ywa, ywc, yws⟩ (by first | rfl | simp [Act.eval]) HOa.out g9 1 (by first | rfl | simp [Act.eval]) Z0.out Z1.out hul (by have := HSA.out; have := BKa.out.size; omega) ?_
        intro g7 cap7 N7 m2 ho7 hg7
        have B7 := kide (BKa.out.grown hg7 BKa.out.size (fun b hb => by have h1 := (HOa.out.lt hb).1; have h2 := HSA.out; omega))
        have O7 := kide ho7
        have W7 := kide (BWA.out.trans (B7.out.mono BWA.out.size))
        clear ho7 hg7
        have c0_2 : m2.cell? ⟨w.heap.size, 0, none⟩ = some (Value.slice (some ⟨tb, to, none⟩) N c2) := ((XT.out.later B7.out).cell 0)
        have c1_2 : m2.cell? ⟨w.heap.size + 1, 6, none⟩ = some (Value.slice (some ⟨kb, ko, none⟩) kn kc) := ((XN.out.later B7.out).cell 6)
        have c2_2 : m2.cell? ⟨kb, ko + i, none⟩ = some (Value.int .i64 (j : Int)) := ((kcell W7.out _ _ HL12.out.1).trans K0.out)
        have c3_2 : m2.cell? ⟨tb, to + j * 7 + 4, none⟩ = some (Value.int .i64 ybw) := ((kcell W7.out _ _ HL12.out.2).trans Q4.out)
        have c4_2 : m2.cell? ⟨tb, to + j * 7 + 5, none⟩ = some (Value.slice ywa yws.length ywc) := ((kcell W7.out _ _ HL12.out.2).trans Q5.out)
        have hs2 : Hid ((fun uu => uu.cell? ⟨w.heap.size, 0, none⟩ = some (Value.slice (some ⟨tb, to, none⟩) N c2) ∧ uu.cell? ⟨w.heap.size + 1, 6, none⟩ = some (Value.slice (some ⟨kb, ko, none⟩) kn kc) ∧ uu.cell? ⟨kb, ko + i, none⟩ = some (Value.int .i64 (j : Int)) ∧ uu.cell? ⟨tb, to + j * 7 + 4, none⟩ = some (Value.int .i64 ybw) ∧ uu.cell? ⟨tb, to + j * 7 + 5, none⟩ = some (Value.slice ywa yws.length ywc)) m2) := ⟨c0_2, c1_2, c2_2, c3_2, c4_2⟩
        refine hK _ _ (Sx.behind (by kernel_rfl) hs2.out) ?_
        clear hK K
        try go_simp
        refine wpAnyX_both (T := (fun _ => True)) (i := 13) (v := Value.slice (some ⟨g7, 0, none⟩) N7 cap7) rfl (by kernel_rfl) (by kernel_rfl) (by kernel_rfl) (fun _ _ _ h => by first | exact h | exact h.elim) (by decide) (fun _ _ => trivial) (fun _ _ => trivial) (Sx.behind (by kernel_rfl) hs2.out) (Or.inl ⟨by rfl, fun uu hu => by go_simp⟩) ?_
        try go_simp
        refine wpAnyX_done (by kernel_rfl) ?_ _
        go_wp2_with fail
        go_roundw
        case rel => exact ⟨i + 1, HLT.out, by go_num, hal2.out, by rw [HCW.out]; exact O7.out, B7.out⟩
        case measure => have := HLT.out; simp only [intOf]; omega
      · have HRF : Hid (R = false) := by show _ = _; rw [← HR.out]; exact all_no hik (by rw [hko]; simpa using hy2)
        clear hat hko hcw hik hy hjp hj hlt hi hall l1 l2 q1 q2 q3 q4 q5 q6 qr qk
        go_wp2_with fail
        go_quiet (fail)
        have hbq : Below wr.heap.size wr (wr.drewN nq) := below_drewN (Below.refl _ _) _
        have XTq := kide (XTk.out.later hbq)
        have XNq := kide (XNk.out.later hbq)
        have XRq := kide (XRk.out.later hbq)
        have BBq := kide (BB.out.trans (hbq.mono BB.out.size))
        have BKq := kide (BK.out.trans (hbq.mono BK.out.size))
        have HOq := kide (HO.out.later hbq)
        clear hbq t0 n6 ltk lnk lrk XTk XNk XRk BB BK HO k0 q0
        generalize wr.drewN nq = wq at *
        have t0 := XTq.out.cell 0
        have n6 := XNq.out.cell 6
        simp at t0 n6
        have ltk := XTq.out.lt
        have lnk := XNq.out.lt
        have lrk := XRq.out.lt
        have e0 := XRq.out.cell 0
        have e1 := XRq.out.cell 1
        have f0 := XRq.out.froz 0
        have f1 := XRq.out.froz 1
        simp at e0 e1
        have y9 := (XRq.out.set 0 (Value.int .i64 0)).set 1 (Value.slice none 0 0)
        have Y0 := kide (y9.cell 0)
        have Y1 := kide (y9.cell 1)
        have BE := kide ((BBq.out.setCell (p := ⟨w.heap.size + 1 + 1, 0, none⟩) (by simp; omega) (Value.int .i64 0)).setCell (p := ⟨w.heap.size + 1 + 1, 1, none⟩) (by simp; omega) (Value.slice none 0 0))
        clear y9
        go_wp2_with fail
        have y0 := Y0.out
        have y1 := Y1.out
        simp at y0 y1
        exact bodyPost_ret (v := .tuple #[.agg #[.int .i64 0, .slice none 0 0], .bool false]) (by simp [results, Tryz.results43, go_sem, y0, y1]) rfl ⟨0, none, 0, 0, by rw [HRF.out], BE.out⟩
    · have e9 : i = kn := by omega
      subst e9
      have hfin : ks.take i = ks := by rw [List.take_of_length_le (by rw [HKN.out]; exact Nat.le_refl _)]
      rw [hfin] at hall HO
      have HRT : Hid (R = true) := by show _ = _; rw [← HR.out]; exact hall
      have hck := hCK.out hall
      have hlm : (ks.map (cw xs)).length ≤ 1048576 := by have := HKL.out; rw [List.length_map]; omega
      have hxm : ∀ y ∈ ks.map (cw xs), Rd wr y.a y.ws ∧ in64 y.wd := fun y hy => by
        obtain ⟨k, hk, rfl⟩ := List.mem_map.1 hy
        have h1 := HKR.out k hk
        obtain ⟨j, rfl⟩ : ∃ j : Nat, k = (j : Int) := ⟨k.toNat, by omega⟩
        obtain ⟨b9, o9, x, e9, hx, hT⟩ := HS.out.node (k := j) (by have := HS.out.lt; omega)
        rw [cw_at hx]
        exact ⟨hT.2.1.later BB.out, hww.out x (List.mem_of_getElem? hx)⟩
      obtain ⟨k2, kc2, hv, hrw⟩ := HO.out.rd hlm hxm
      rw [List.length_map, HKN.out] at hv
      subst hv
      have hbl : Below wr.heap.size wr (wr.alloc (.cells #[] 61)) := (Below.refl _ _).alloc (Nat.le_refl _) _
      have BL := kide (BB.out.trans (hbl.mono BB.out.size))
      have XRl := kide (XRk.out.later hbl)
      have HNB := kide (hNO.out _ (some ⟨wr.heap.size, 0, none⟩) k2 0 kc2 BL.out hck (hrw.later hbl))
      clear hfin hall hck hrw hlt hi hbl
      have t1 := XNk.out.cell 0
      have t2 := XNk.out.cell 1
      have t3 := XNk.out.cell 2
      have t4 := XNk.out.cell 3
      have t5 := XNk.out.cell 4
      have t6 := XNk.out.cell 5
      simp at t1 t2 t3 t4 t5 t6
      have e0 : ((i : Int) == 0) = false := by simp; omega
      go_wp2_with fail
      refine Calls.mono HNB.out ?_
      rintro e w5 ⟨a5, c5, rfl, hek, hb5⟩
      have XR5 := kide (XRl.out.later hb5)
      have B5 := kide (BL.out.trans (hb5.mono BL.out.size))
      clear hb5 hek t0 t1 t2 t3 t4 t5 t6 n6 ltk lnk
      go_wp2_with fail
      refine Calls.mono (l15Node_any _ _ _ _ _ _ _ _ _ _ _ _) ?_
      rintro e w6 ⟨k5, va5, vn5, vc5, rfl, hb6⟩
      have XR6 := kide (XR5.out.later hb6)
      have B6 := kide (B5.out.trans (hb6.mono B5.out.size))
      clear hb6
      have e0 := XR6.out.cell 0
      have e1 := XR6.out.cell 1
      have f0 := XR6.out.froz 0
      have f1 := XR6.out.froz 1
      simp at e0 e1
      have y9 := (XR6.out.set 0 (Value.int .i64 k5)).set 1 (Value.slice va5 vn5 vc5)
      have Y0 := kide (y9.cell 0)
      have Y1 := kide (y9.cell 1)
      have BE := kide ((B6.out.setCell (p := ⟨w.heap.size + 1 + 1, 0, none⟩) (by simp; omega) (Value.int .i64 k5)).setCell (p := ⟨w.heap.size + 1 + 1, 1, none⟩) (by simp; omega) (Value.slice va5 vn5 vc5))
      clear y9
      go_wp2_with fail
      have y0 := Y0.out
      have y1 := Y1.out
      simp at y0 y1
      exact bodyPost_ret (v := .tuple #[.agg #[.int .i64 k5, .slice va5 vn5 vc5], .bool true]) (by simp [results, Tryz.results43, go_sem, y0, y1]) rfl ⟨k5, va5, vn5, vc5, by rw [HRT.out], BE.out⟩

end Go.Proofs.YtdlmgndmfphneaaGreatDoor
