/- Flat forms joined, on the program's side. -/
import Derived.Test.YtfanddpncipkkaaFPF
import Derived.Test.YtfanddpncipkkaaFPP
import Derived.Test.YtfanddpncipkkaaFPL
import Derived.Test.YtfanddpncipkkaaFPQ
import Derived.Handy
namespace Go.Proofs.Ytfanddpncipkkaa
set_option linter.unusedVariables false
set_option linter.unusedSimpArgs false
open Go.RowKit Go.Shelf

/-- Segments that can be read, of which there is one at least: where they lie. -/
theorem rds_at {w : World} {a : Option Addr} {xs : List Sg} (hr : RdS w a xs) (h1 : 1 ≤ sumS (xs.map Sg.ct)) (hok : ∀ s ∈ xs.map Sg.ct, okS s ∧ 0 ≤ s.lo ∧ s.lo + s.wd ≤ 4096) (hno : ∀ x ∈ xs, x.a = none → x.c = 0) (hpl : ∀ x ∈ xs, ∀ q, x.a = some q → q.block < w.heap.size) :
    ∃ fb fo, a = some ⟨fb, fo, none⟩ ∧ fb < w.heap.size ∧ (∀ i x, xs[i]? = some x → ShAt w fb (fo + i * 5) x.hd) ∧ ∀ x ∈ xs, AtS w.heap.size w x := by
  rcases hr.2 with h0 | ⟨fb, fo, rfl, hc⟩
  · rw [h0] at h1
    simp [sumS] at h1
  · refine ⟨fb, fo, rfl, ?_, fun i x hx => (hc i x hx).1, fun x hx => ?_⟩
    · cases hxe : xs with
      | nil =>
        rw [hxe] at h1
        simp [sumS] at h1
      | cons x t => exact block_lt_of_cell (hc 0 x (by rw [hxe]; rfl)).1.1
    · obtain ⟨i, hi, e⟩ := List.getElem_of_mem hx
      have h9 := hok x.ct (List.mem_map_of_mem hx)
      exact ⟨h9.1, h9.2, (hc i x (by rw [List.getElem?_eq_getElem hi, e])).2.1, hno x hx, hpl x hx⟩
/-- Two rows of segments, one behind the other, as an iterator. -/
theorem turn2_seq {w : World} {b : Nat} {la ha : Option Addr} {nl lc nh hc : Nat} {ls hs : List Sg} (b3 : b + 3 < w.heap.size)
    (x0 : Bz w b #[.slice la nl lc] 26) (x1 : Bz w (b + 1) #[.slice ha nh hc] 26)
    (x2 : Bz w (b + 1 + 1) #[.func (.func 63) #[] #[.pointer (some ⟨b, 0, none⟩)], .func (.func 63) #[] #[.pointer (some ⟨b + 1, 0, none⟩)]] 66)
    (x3 : Bz w (b + 1 + 1 + 1) #[.slice (some ⟨b + 1 + 1, 0, none⟩) 2 2] 95)
    (hnl : ls.length = nl) (hnl2 : nl ≤ 2000) (hnh : hs.length = nh) (hnh2 : nh ≤ 2000) (lr : RdS w la ls) (hr : RdS w ha hs) (l1 : 1 ≤ sumS (ls.map Sg.ct)) (h1 : 1 ≤ sumS (hs.map Sg.ct))
    (lok : ∀ s ∈ ls.map Sg.ct, okS s ∧ 0 ≤ s.lo ∧ s.lo + s.wd ≤ 4096) (hok : ∀ s ∈ hs.map Sg.ct, okS s ∧ 0 ≤ s.lo ∧ s.lo + s.wd ≤ 4096) (lno : ∀ x ∈ ls, x.a = none → x.c = 0) (hno : ∀ x ∈ hs, x.a = none → x.c = 0) (lpl : ∀ x ∈ ls, ∀ q, x.a = some q → q.block < w.heap.size) (hpl : ∀ x ∈ hs, ∀ q, x.a = some q → q.block < w.heap.size) (n : Nat) :
    SeqS n 62 #[.pointer (some ⟨b + 1 + 1 + 1, 0, none⟩)] (ls.map Sg.ct ++ hs.map Sg.ct) w.heap.size w := by
  obtain ⟨lb, lo, rfl, ll, lcell, lat⟩ := rds_at lr l1 lok lno lpl
  obtain ⟨hb, ho, rfl, hl, hcell, hat⟩ := rds_at hr h1 hok hno hpl
  have h9 := inTurn_seq n w.heap.size (b + 1 + 1 + 1) (b + 1 + 1) 0 2 2 [⟨63, #[.pointer (some ⟨b, 0, none⟩)], ls.map Sg.ct⟩, ⟨63, #[.pointer (some ⟨b + 1, 0, none⟩)], hs.map Sg.ct⟩] w (Nat.le_refl _) rfl (by omega) (fun p hp => by
      simp only [List.mem_cons, List.not_mem_nil, or_false] at hp
      rcases hp with rfl | rfl
      · exact ⟨enters_of Try.func63 (by kernel_rfl) rfl, fun n => values_seq n w.heap.size b lb lo lc nl ls w (Nat.le_refl _) hnl hnl2 lat x0 (by omega) ll lcell⟩
      · exact ⟨enters_of Try.func63 (by kernel_rfl) rfl, fun n => values_seq n w.heap.size (b + 1) hb ho hc nh hs w (Nat.le_refl _) hnh hnh2 hat x1 (by omega) hl hcell⟩) x3 (by omega) (by omega) (fun i p hp => by
      match i, hp with
      | 0, hp => simp at hp; subst hp; exact x2.cell 0
      | 1, hp => simp at hp; subst hp; exact x2.cell 1
      | i + 2, hp => simp at hp)
  simpa using h9

set_option maxHeartbeats 2000000 in
set_option maxRecDepth 100000 in
theorem implJoin_any (da ha la : Option Addr) (dc hc nh lc nl : Nat) (ds : List Dc) (hs ls : List Sg) (w : World) (hd : RdD w da ds) (hr : RdS w ha hs) (hnh : hs.length = nh) (lr : RdS w la ls) (hnl : ls.length = nl)
    (hno : ∀ x ∈ hs, x.a = none → x.c = 0) (hpl : ∀ x ∈ hs, ∀ q, x.a = some q → q.block < w.heap.size) (lno : ∀ x ∈ ls, x.a = none → x.c = 0) (lpl : ∀ x ∈ ls, ∀ q, x.a = some q → q.block < w.heap.size) :
    Calls Try.prog 18 #[.slice da ds.length dc, .slice ha nh hc, .slice la nl lc] w (RetFd (fjnR ds (hs.map Sg.ct) (ls.map Sg.ct)) w) := by
  have HFH := kide (implFlat_any ha da hc dc nh ds hs w hd hr hnh)
  have hwh := rds_words hr
  have hwl := rds_words lr
  obtain ⟨R, hR⟩ : ∃ R, fjnR ds (hs.map Sg.ct) (ls.map Sg.ct) = R := ⟨_, rfl⟩
  rw [hR]
  have HR := kide hR
  have NIL : Hid (∀ u, Below w.heap.size w u → RetFd ([], false) w (.returned (.tuple #[.slice none 0 0, .bool false])) u) := fun u hu => ⟨_, [], rfl, rfl, ⟨OS5.nil _ _, by simp⟩, Dj.nil, hu⟩
  cases hF : flatR ds (hs.map Sg.ct) with
  | false =>
    rw [hF] at HFH
    obtain rfl : R = ([], false) := by rw [← hR]; unfold fjnR; rw [if_neg]; simp [hF]
    obtain ⟨nd, hnd⟩ : ∃ n, ds.length = n := ⟨_, rfl⟩
    rw [hnd] at HFH ⊢
    clear hR hF
    go_enter Try.func18, Try.ntmps18
    go_wp2_with fail
    refine Calls.mono HFH.out ?_
    rintro e w2 ⟨rfl, hb2⟩
    have B2 := kide hb2
    clear hb2
    go_wp2_with fail
    exact bodyPost_ret (v := .tuple #[.slice none 0 0, .bool false]) (by simp [results, Try.results18, go_sem]) rfl (NIL.out _ B2.out)
  | true =>
    rw [hF] at HFH
    have hF2 := hF
    rw [flatR_form] at hF2
    simp only [Bool.and_eq_true] at hF2
    have HFL := kide (fun u (hu : Below w.heap.size w u) => formOk_any la da lc dc nl ds ls u (hd.later hu) (lr.later hu) hnl hF2.1)
    obtain ⟨nd, hnd⟩ : ∃ n, ds.length = n := ⟨_, rfl⟩
    rw [hnd] at HFH HFL ⊢
    cases hG : formR ds (ls.map Sg.ct) with
    | false =>
      rw [hG] at HFL
      obtain rfl : R = ([], false) := by rw [← hR]; unfold fjnR; rw [if_neg]; intro h9; have := h9.2.1; rw [flatR_form, hG] at this; simp at this
      clear hR hF hG hF2
      go_enter Try.func18, Try.ntmps18
      go_wp2_with fail
      refine Calls.mono HFH.out ?_
      rintro e w2 ⟨rfl, hb2⟩
      have B2 := kide hb2
      clear hb2
      go_wp2_with fail
      refine Calls.mono (HFL.out w2 B2.out) ?_
      rintro e w3 ⟨rfl, hb3⟩
      have B3 := kide (B2.out.trans (hb3.mono B2.out.size))
      clear hb3
      go_wp2_with fail
      exact bodyPost_ret (v := .tuple #[.slice none 0 0, .bool false]) (by simp [results, Try.results18, go_sem]) rfl (NIL.out _ B3.out)
    | true =>
      rw [hG] at HFL
      have hGF : flatR ds (ls.map Sg.ct) = true := by rw [flatR_form, hF2.1, hG]; rfl
      obtain ⟨hall, hs1, hs2, hl2⟩ := formR_sum hF2.1 hF2.2
      obtain ⟨gall, gs1, gs2, gl2⟩ := formR_sum hF2.1 hG
      simp only [List.length_map] at hl2 gl2
      have HWH := kide (fun u (hu : Below w.heap.size w u) => formWidth_any ha hc nh hs u (hr.later hu) hnh (by omega) (fun x hx => (hall x.ct (List.mem_map_of_mem hx)).2))
      have HWL := kide (fun u (hu : Below w.heap.size w u) => formWidth_any la lc nl ls u (lr.later hu) hnl (by omega) (fun x hx => (gall x.ct (List.mem_map_of_mem hx)).2))
      obtain ⟨SH, hSH⟩ : ∃ N : Nat, sumS (hs.map Sg.ct) = (N : Int) := ⟨(sumS (hs.map Sg.ct)).toNat, by omega⟩
      obtain ⟨SL, hSL⟩ : ∃ N : Nat, sumS (ls.map Sg.ct) = (N : Int) := ⟨(sumS (ls.map Sg.ct)).toNat, by omega⟩
      rw [hSH] at HWH
      rw [hSL] at HWL
      have hSH2 : SH ≤ 4096 := by omega
      have hSL2 : SL ≤ 4096 := by omega
      have HRV : Hid (R = if SH + SL ≤ 4096 ∧ (formB (formP (ls.map Sg.ct) ++ formP (hs.map Sg.ct))).length ≤ 2000 then (formB (formP (ls.map Sg.ct) ++ formP (hs.map Sg.ct)), true) else ([], false)) := by
        show _ = _
        rw [← hR]
        unfold fjnR
        rw [hF, hGF, hSH, hSL]
        have e : ((SH : Int) + (SL : Int) ≤ 4096) ↔ (SH + SL ≤ 4096) := by omega
        simp only [true_and, e]
      have hokh : ∀ s ∈ hs.map Sg.ct, okS s ∧ 0 ≤ s.lo ∧ s.lo + s.wd ≤ 4096 := fun s hs => ⟨sgOk_okS hF2.1 (hall s hs).1 (hwh s hs), sgOk_lo hF2.1 (hall s hs).1⟩
      have hokl : ∀ s ∈ ls.map Sg.ct, okS s ∧ 0 ≤ s.lo ∧ s.lo + s.wd ≤ 4096 := fun s hs => ⟨sgOk_okS hF2.1 (gall s hs).1 (hwl s hs), sgOk_lo hF2.1 (gall s hs).1⟩
      have HOH := kide hokh
      have HOL := kide hokl
      have HRH := kide hr
      have HRL := kide lr
      have HNOH := kide hno
      have HNOL := kide lno
      have HPLH := kide hpl
      have HPLL := kide lpl
      have HNH := kide hnh
      have HNL := kide hnl
      have HS1 := kide hs1
      have GS1 := kide gs1
      have HSH := kide hSH
      have HSL := kide hSL
      have hnh2 : nh ≤ 2000 := by omega
      have hnl2 : nl ≤ 2000 := by omega
      have hsw : IntKind.i64.wrap ((SH : Int) + (SL : Int)) = (SH : Int) + (SL : Int) := by rw [IntKind.wrap_i64]; omega
      clear hR hF hG hF2 hGF hall gall hs1 hs2 hl2 gs1 gs2 gl2 hSH hSL hr hd lr HR hwh hwl hokh hokl hno lno hpl lpl
      go_enter Try.func18, Try.ntmps18
      go_wp2_with fail
      refine Calls.mono HFH.out ?_
      rintro e w2 ⟨rfl, hb2⟩
      have B2 := kide hb2
      clear hb2
      go_wp2_with fail
      refine Calls.mono (HFL.out w2 B2.out) ?_
      rintro e w3 ⟨rfl, hb3⟩
      have B3 := kide (B2.out.trans (hb3.mono B2.out.size))
      clear hb3
      go_wp2_with fail
      refine Calls.mono (HWH.out w3 B3.out) ?_
      rintro e w4 ⟨rfl, hb4⟩
      have B4 := kide (B3.out.trans (hb4.mono B3.out.size))
      clear hb4
      go_wp2_with fail
      refine Calls.mono (HWL.out w4 B4.out) ?_
      rintro e w5 ⟨rfl, hb5⟩
      have B5 := kide (B4.out.trans (hb5.mono B4.out.size))
      clear hb5
      by_cases hle : SH + SL ≤ 4096
      · have q1 : ¬ (SH : Int) + (SL : Int) > 4096 := by omega
        go_wp2_with fail
        refine Calls.mono (values_any _ _ _ _) ?_
        rintro e w6 ⟨rfl, hw6⟩
        go_wp2_with fail
        refine Calls.mono (values_any _ _ _ _) ?_
        rintro e w7 ⟨rfl, hw7⟩
        go_wp2_with fail
        refine Calls.mono (inTurn_any _ _ _ _) ?_
        rintro e w9 ⟨rfl, hw9⟩
        obtain ⟨b, hb⟩ : ∃ b, w5.heap.size = b := ⟨_, rfl⟩
        have hba : Below w5.heap.size w5 w9 := by
          rw [hw9]
          exact ((((Below.refl _ _).alloc (Nat.le_refl _) _).alloc (by simp) _).alloc (by simp; omega) _).alloc (by simp; omega) _
        have hz9 : b + 3 < w9.heap.size := by rw [hw9]; simp [hb]
        have x0 : Bz w9 b #[.slice la nl lc] 26 := by
          rw [hw9, ← hb]
          exact (((Bz.new w5 #[.slice la nl lc] 26).later ((Below.refl _ _).alloc (Nat.le_refl _) _)).later ((Below.refl _ _).alloc (Nat.le_refl _) _)).later ((Below.refl _ _).alloc (Nat.le_refl _) _)
        have x1 : Bz w9 (b + 1) #[.slice ha nh hc] 26 := by
          have h9 := Bz.new (w5.alloc (Obj.cells #[Value.slice la nl lc] 26)) #[Value.slice ha nh hc] 26
          simp only [World.size_alloc, hb] at h9
          rw [hw9]
          exact (h9.later ((Below.refl _ _).alloc (Nat.le_refl _) _)).later ((Below.refl _ _).alloc (Nat.le_refl _) _)
        have x2 : Bz w9 (b + 1 + 1) #[.func (.func 63) #[] #[.pointer (some ⟨b, 0, none⟩)], .func (.func 63) #[] #[.pointer (some ⟨b + 1, 0, none⟩)]] 66 := by
          have h9 := Bz.new ((w5.alloc (Obj.cells #[Value.slice la nl lc] 26)).alloc (Obj.cells #[Value.slice ha nh hc] 26)) #[Value.func (Fn.func 63) #[] #[Value.pointer (some ⟨w5.heap.size, 0, none⟩)], Value.func (Fn.func 63) #[] #[Value.pointer (some ⟨w5.heap.size + 1, 0, none⟩)]] 66
          simp only [World.size_alloc, hb] at h9
          rw [hw9]
          simp only [hb]
          exact h9.later ((Below.refl _ _).alloc (Nat.le_refl _) _)
        have x3 : Bz w9 (b + 1 + 1 + 1) #[.slice (some ⟨b + 1 + 1, 0, none⟩) 2 2] 95 := by
          have h9 := Bz.new (((w5.alloc (Obj.cells #[Value.slice la nl lc] 26)).alloc (Obj.cells #[Value.slice ha nh hc] 26)).alloc (Obj.cells #[Value.func (Fn.func 63) #[] #[Value.pointer (some ⟨w5.heap.size, 0, none⟩)], Value.func (Fn.func 63) #[] #[Value.pointer (some ⟨w5.heap.size + 1, 0, none⟩)]] 66)) #[Value.slice (some ⟨w5.heap.size + 1 + 1, 0, none⟩) 2 2] 95
          simp only [World.size_alloc, hb] at h9
          rw [hw9]
          simp only [hb]
          exact h9
        have B9 := kide (B5.out.trans (hba.mono B5.out.size))
        have HSQ : Hid (∀ n, SeqS n 62 #[.pointer (some ⟨b + 1 + 1 + 1, 0, none⟩)] (ls.map Sg.ct ++ hs.map Sg.ct) w9.heap.size w9) := fun n =>
          turn2_seq hz9 x0 x1 x2 x3 HNL.out hnl2 HNH.out hnh2 (HRL.out.later B9.out) (HRH.out.later B9.out) GS1.out HS1.out HOL.out HOH.out HNOL.out HNOH.out (fun x hx q hq => Nat.lt_of_lt_of_le (HPLL.out x hx q hq) B9.out.size) (fun x hx q hq => Nat.lt_of_lt_of_le (HPLH.out x hx q hq) B9.out.size) n
        have HGA := kide (gather_any 62 _ _ w9 (enters_of Try.func62 (by kernel_rfl) rfl) HSQ.out (fun s hs => by
          rcases List.mem_append.1 hs with hs | hs
          · have h9 := HOL.out s hs; exact ⟨h9.1, h9.2.1, by have := h9.1.1; omega⟩
          · have h9 := HOH.out s hs; exact ⟨h9.1, h9.2.1, by have := h9.1.1; omega⟩) (by rw [sumS_append, HSL.out, HSH.out]; omega))
        have hbz : (((w5.alloc (Obj.cells #[Value.slice la nl lc] 26)).alloc (Obj.cells #[Value.slice ha nh hc] 26)).alloc (Obj.cells #[Value.func (Fn.func 63) #[] #[Value.pointer (some ⟨w5.heap.size, 0, none⟩)], Value.func (Fn.func 63) #[] #[Value.pointer (some ⟨w5.heap.size + 1, 0, none⟩)]] 66)).heap.size = b + 1 + 1 + 1 := by simp [hb]
        rw [hbz]
        have HRX : Hid (R = if (formB (formP (ls.map Sg.ct ++ hs.map Sg.ct))).length ≤ 2000 then (formB (formP (ls.map Sg.ct ++ hs.map Sg.ct)), true) else ([], false)) := by
          show _ = _
          rw [HRV.out, formP_app]
          simp only [hle, true_and]
        clear hw9 hba x0 x1 x2 x3 hw6 hw7 hbz
        go_wp2_with fail
        refine Calls.mono HGA.out ?_
        rintro e w10 ⟨hb5, (⟨v, l, rfl, hl5, hn5, ho5, hr5, hx5, hra5⟩ | ⟨rfl, h9⟩)⟩
        · obtain ⟨va, vc, rfl⟩ := ho5.form
          have HFR := kide (fresh_any va l.length vc w9.heap.size true l w10 ho5 rfl hn5 hb5.size hr5 hx5 hra5)
          have B10 := kide (B9.out.trans (hb5.mono B9.out.size))
          have HL5 := kide hl5
          have HZ5 : Hid (w9.heap.size ≤ w10.heap.size) := hb5.size
          have hRR := HRX.out
          rw [if_pos (by rw [← hl5, List.length_map]; exact hn5)] at hRR
          clear ho5 hr5 hx5 hra5 hb5 hl5
          go_wp2_with fail
          refine Calls.mono HFR.out ?_
          rintro e w6 ⟨rfl, m, hm⟩
          have hrow := hm.row
          rw [List.drop_of_length_le (Nat.le_refl _), List.append_nil] at hrow
          have b6 : Below w.heap.size w w6 := B10.out.trans ⟨hm.gr.os, hm.gr.tape, hm.gr.output, hm.gr.size, fun j hj => hm.gr.block j (Nat.lt_of_lt_of_le hj B10.out.size) (fun e => by
            have h8 := (hrow.lt e.symm).1
            have := B9.out.size
            omega)⟩
          have FIN : Hid (RetFd R w (.returned (.tuple #[.slice va l.length vc, .bool true])) w6) := by
            refine ⟨_, m, by rw [hRR], ?_, ⟨hrow.low B9.out.size, fun x hx => (hm.nw x hx).mono (Nat.le_trans B9.out.size HZ5.out)⟩, hm.dj, b6⟩
            rw [hm.ct, List.take_length, HL5.out, hRR]
          clear hm hrow b6
          go_wp2_with fail
          exact bodyPost_ret (v := .tuple #[.slice va l.length vc, .bool true]) (by simp [results, Try.results18, go_sem]) rfl FIN.out
        · have HFR := kide (fresh_any none 0 0 w10.heap.size false [] w10 (OS5.nil _ _) rfl (by omega) (Nat.le_refl _) (by simp) (by simp) (by simp))
          have B10 := kide (B9.out.trans (hb5.mono B9.out.size))
          have hRR := HRX.out
          rw [if_neg (by omega)] at hRR
          subst hRR
          clear hb5
          go_wp2_with fail
          refine Calls.mono HFR.out ?_
          rintro e w6 ⟨rfl, m, hm⟩
          have b6 : Below w.heap.size w w6 := B10.out.trans ⟨hm.gr.os, hm.gr.tape, hm.gr.output, hm.gr.size, fun j hj => hm.gr.block j (Nat.lt_of_lt_of_le hj B10.out.size) (fun e => by cases e)⟩
          have BF := kide b6
          clear hm b6
          go_wp2_with fail
          exact bodyPost_ret (v := .tuple #[.slice none 0 0, .bool false]) (by simp [results, Try.results18, go_sem]) rfl (NIL.out _ BF.out)
      · have q1 : (SH : Int) + (SL : Int) > 4096 := by omega
        have hRR := HRV.out
        rw [if_neg (fun h9 => hle h9.1)] at hRR
        subst hRR
        go_wp2_with fail
        exact bodyPost_ret (v := .tuple #[.slice none 0 0, .bool false]) (by simp [results, Try.results18, go_sem]) rfl (NIL.out _ B5.out)
end Go.Proofs.Ytfanddpncipkkaa
