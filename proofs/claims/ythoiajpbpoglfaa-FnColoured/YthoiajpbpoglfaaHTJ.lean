/- newPainter: hedges, narrow nodes, no word yet. -/
import Derived.Test.YthoiajpbpoglfaaZKAM
namespace Go.Proofs.Ythoiajpbpoglfaa
set_option linter.unusedVariables false
set_option linter.unusedSimpArgs false
open Go.RowKit Go.WideMaps Go.Maps Go.MapKept Go.ChangeMaps

/-- Is a node narrow? -/
def isNar (ks : List Int) (cr : Nat → Int) (i : Nat) : Bool := decide (ks.getD i 0 ≤ 10) && decide (((2 ^ (ks.getD i 0).toNat : Nat) : Int) ≤ cr i)
def narT (ks : List Int) (cr : Nat → Int) (k : Nat) : List Int := ((List.range k).filter (isNar ks cr)).map fun (i : Nat) => (i : Int)
theorem narT_succ (ks : List Int) (cr : Nat → Int) (k : Nat) : narT ks cr (k + 1) = if isNar ks cr k = true then narT ks cr k ++ [(k : Int)] else narT ks cr k := by
  unfold narT
  rw [List.range_succ, List.filter_append, List.map_append]
  by_cases e : isNar ks cr k = true <;> simp [e]
theorem narT_len (ks : List Int) (cr : Nat → Int) (k : Nat) : (narT ks cr k).length ≤ k := by
  unfold narT
  rw [List.length_map]
  refine Nat.le_trans (List.length_filter_le _ _) ?_
  simp

set_option maxHeartbeats 4000000 in
set_option maxRecDepth 100000 in
theorem newPainter_any (z : Gz) (most : Int) (w : World) (hz : RdG w z) (hgd : ∀ x ∈ z.bs, gdY z.ks.length (nrmC x.ct)) (hn2 : z.ks.length ≤ 200) (hb1000 : z.bs.length ≤ 1000) (hcap : ∀ x ∈ z.bs, x.ct.ws.length ≤ x.c) (hk : ∀ x ∈ z.ks, 1 ≤ x ∧ x ≤ 4096) :
    Calls Try.prog 34 #[z.val, .int .i64 most] w fun e w' => ∃ P0 H K va vc nv wv ov mv, e = .returned (.pointer (some ⟨P0, 0, none⟩)) ∧ RdI w va z.ks ∧ K ≤ 1048576 ∧ Pt w w' P0 H K va z.ks.length vc nv wv (narT z.ks (crF ((setG [] (z.bs.map nrmG)).map Yg.ct)) z.ks.length) (List.replicate z.ks.length (-1)) 0 most ov mv (crF ((setG [] (z.bs.map nrmG)).map Yg.ct)) (xoF ((setG [] (z.bs.map nrmG)).map Yg.ct)) (bdF ((setG [] (z.bs.map nrmG)).map Yg.ct)) := by
  have HHE := kide (fun u (hu : Below w.heap.size w u) => hedgesOf_told z u (hz.later hu) hgd (by omega) hb1000 hcap)
  have hcrb : ∀ i, 0 ≤ crF ((setG [] (z.bs.map nrmG)).map Yg.ct) i ∧ crF ((setG [] (z.bs.map nrmG)).map Yg.ct) i ≤ 2000 := fun i => by
    have h9 := crF_le ((setG [] (z.bs.map nrmG)).map Yg.ct) ((setG [] (z.bs.map nrmG)).map Yg.ct).length i
    rw [List.take_of_length_le (Nat.le_refl _), List.length_map] at h9
    have h8 := setG_len (z.bs.map nrmG) []
    rw [List.length_map, List.length_nil] at h8
    omega
  generalize crF ((setG [] (z.bs.map nrmG)).map Yg.ct) = cr at *
  generalize xoF ((setG [] (z.bs.map nrmG)).map Yg.ct) = xo at *
  generalize bdF ((setG [] (z.bs.map nrmG)).map Yg.ct) = bd at *
  have hr := hz.1
  obtain ⟨va, vc, ks, a2, c2, bs⟩ := z
  simp only [Gz.val] at *
  obtain ⟨n2, hn9⟩ : ∃ n2, bs.length = n2 := ⟨_, rfl⟩
  obtain ⟨n, hn⟩ : ∃ n, ks.length = n := ⟨_, rfl⟩
  rw [hn9, hn] at HHE
  rw [hn, hn9]
  rw [hn] at hn2
  have HCB := kide hcrb
  have HNR := kide (fun k => narT_succ ks cr k)
  have HNL := kide (fun k => narT_len ks cr k)
  have hb0 : Below w.heap.size w (w.alloc (Obj.cells #[Value.slice va n vc, Value.slice a2 n2 c2] 32)) := (Below.refl _ _).alloc (Nat.le_refl _) _
  have B0 := kide hb0
  have X0 := kide (Bz.new w #[Value.slice va n vc, Value.slice a2 n2 c2] 32)
  have HR := kide hr
  have HKS := kide (And.intro hn hk)
  clear hb0 hk hgd hcap hz hcrb hn9 hb1000
  go_enter Try.func34, Try.ntmps34
  go_wp2_with fail
  generalize w.alloc (Obj.cells #[Value.slice va n vc, Value.slice a2 n2 c2] 32) = w0 at *
  have x0 := X0.out.cell 0
  have x1 := X0.out.cell 1
  have lx := X0.out.lt
  simp at x0 x1
  go_region_held3 (fun u => u.cell? ⟨w.heap.size, 0, none⟩ = some (Value.slice va n vc) ∧ u.cell? ⟨w.heap.size, 1, none⟩ = some (Value.slice a2 n2 c2)) (first | (simp [*]; done) | exact ⟨(kcell ((Below.refl _ _).alloc (Nat.le_refl _) _) _ _ lx1).trans y0, (kcell ((Below.refl _ _).alloc (Nat.le_refl _) _) _ _ lx1).trans y1⟩)
    (first
      | (go_at_call 49; refine Calls.mono (HHE.out _ ?_) ?_; exact B0.out.drew; rintro e w1 ⟨H, rfl, hH, ⟨K, hK, ov, mv, hht⟩, hb1⟩; replace hb1 := kundrew hb1; have y0 := (kcell hb1 _ _ lx).trans x0; have y1 := (kcell hb1 _ _ lx).trans x1; have lx1 := Nat.lt_of_lt_of_le lx hb1.size; have HT := kide hht; have HH := kide hH; have HKB := kide hK; have HB1 := kide hb1; clear hht hH hK hb1))
  have hba : Below w1.heap.size w1 (w1.alloc (Obj.cells #[Value.slice va n vc, Value.slice (some ⟨H, 0, none⟩) n n, Value.slice none 0 0, Value.slice none 0 0, Value.int .i64 0, Value.int .i64 most] 69)) := (Below.refl _ _).alloc (Nat.le_refl _) _
  have hsz0 : w.heap.size ≤ w0.heap.size := B0.out.size
  have hsz1 : w0.heap.size ≤ w1.heap.size := HB1.out.size
  have BB : Below w.heap.size w w1 := B0.out.trans ((show Below w0.heap.size w0 w1 from HB1.out).mono hsz0)
  have hH0 : w0.heap.size ≤ H := HH.out
  have P1 : Hid (Pt w (w1.alloc (Obj.cells #[Value.slice va n vc, Value.slice (some ⟨H, 0, none⟩) n n, Value.slice none 0 0, Value.slice none 0 0, Value.int .i64 0, Value.int .i64 most] 69)) w1.heap.size H K va n vc (.slice none 0 0) (.slice none 0 0) (narT ks cr 0) (List.replicate 0 (-1)) 0 most ov mv cr xo bd) := by
    refine ⟨Bz.new _ _ _, HT.out.later hba, HT.out.hg.lt, OI.nilG _ _, OI.nilG _ _, (fun b hb => by cases hb), fun i hi b hb => ?_, fun i hi g hg => ?_, BB.trans (hba.mono BB.size), by omega⟩
    · obtain ⟨⟨cur, hc⟩, -⟩ := owr_typed (HT.out.ot i hi).1 hb
      exact lt_of_block hc
    · rcases HT.out.mt i hi with ⟨e, -⟩ | ⟨g', m, D, e, ho, -⟩
      · rw [hg] at e; cases e
      · rw [hg] at e; cases e
        obtain ⟨es, ck, hc⟩ := own_isMap ho
        exact lt_of_block hc
  have R1 := kide (hr.later (BB.trans (hba.mono BB.size)))
  have XG : Hid (Bz (w1.alloc (Obj.cells #[Value.slice va n vc, Value.slice (some ⟨H, 0, none⟩) n n, Value.slice none 0 0, Value.slice none 0 0, Value.int .i64 0, Value.int .i64 most] 69)) w.heap.size #[Value.slice va n vc, Value.slice a2 n2 c2] 32) := (X0.out.later (show Below w0.heap.size w0 w1 from HB1.out)).later hba
  obtain ⟨P0, hP⟩ : ∃ P0, w1.heap.size = P0 := ⟨_, rfl⟩
  rw [hP] at P1
  try simp only [hP]
  generalize w1.alloc (Obj.cells #[Value.slice va n vc, Value.slice (some ⟨H, 0, none⟩) n n, Value.slice none 0 0, Value.slice none 0 0, Value.int .i64 0, Value.int .i64 most] 69) = w2 at *
  clear hba hsz0 hsz1 BB hP x0 x1 y0 y1 lx lx1 HT HH HB1 hr hH0 HHE
  have g0 := XG.out.cell 0
  have g1 := XG.out.cell 1
  have lg := XG.out.lt
  simp at g0 g1
  go_wp2_with fail
  clear R1 XG g0 g1 lg X0 B0 hn
  go_loopw [18] (fun i wr => ∃ (k : Nat) (nv wv : Value), k ≤ n ∧ i = .int .i64 (k : Int) ∧ Pt w wr P0 H K va n vc nv wv (narT ks cr k) (List.replicate k (-1)) 0 most ov mv cr xo bd) (fun i _ => n - (intOf i).toNat)
  case atStart => exact ⟨0, _, _, Nat.zero_le _, rfl, P1.out⟩
  case round =>
    obtain ⟨k, nv, wv, hk, rfl, hpn⟩ := hrel
    have PK := kide hpn
    by_cases hlt : k < n
    · have i0 : (k : Int) < (n : Int) := by omega
      obtain ⟨-, -, h9 | ⟨kb, ko, rfl, hkc⟩⟩ := HR.out.later hpn.bel
      · have := HKS.out.1; rw [h9] at this; simp at this; omega
      have q0 := hkc k (by rw [HKS.out.1]; exact hlt)
      have hx1 := HKS.out.2 (ks.getD k 0) (by rw [List.getD, List.getElem?_eq_getElem (by rw [HKS.out.1]; exact hlt)]; exact List.getElem_mem _)
      have hnr := HNR.out k
      unfold isNar at hnr
      have hcb := HCB.out k
      obtain ⟨x, hxe⟩ : ∃ x, ks.getD k 0 = x := ⟨_, rfl⟩
      rw [hxe] at q0 hx1 hnr
      have p1 := hpn.px.cell 1
      have p3 := hpn.px.cell 3
      have p2 := hpn.px.cell 2
      simp at p1 p2 p3
      have lp := hpn.px.lt
      have h2 : wr.cell? ⟨H, k * 3 + 2, none⟩ = some (.int .i64 (cr k)) := (hpn.ht.hg.cells hlt).2.2
      have HLT : Hid (k < n) := hlt
      have HX1 := kide hx1
      generalize cr k = c at *
      clear hkc hpn hlt hk P1 hxe
      by_cases hx10 : x ≤ 10
      · obtain ⟨T, hT⟩ : ∃ T : Int, ((2 ^ x.toNat : Nat) : Int) = T := ⟨_, rfl⟩
        rw [hT] at hnr
        have hd0 : decide (x ≤ 10) = true := by simpa using hx10
        rw [hd0, Bool.true_and] at hnr
        by_cases hc : T ≤ c
        · rw [decide_eq_true hc, if_pos rfl] at hnr
          have HNX := kide hnr
          have hd : decide (T ≤ c) = true := decide_eq_true hc
          clear hnr hd0 hc
          rcases (show x = 1 ∨ x = 2 ∨ x = 3 ∨ x = 4 ∨ x = 5 ∨ x = 6 ∨ x = 7 ∨ x = 8 ∨ x = 9 ∨ x = 10 by omega) with rfl | rfl | rfl | rfl | rfl | rfl | rfl | rfl | rfl | rfl
          all_goals
            simp at hT
            subst hT
            clear hx10 hx1
            go_wp2_with fail
            go_quiet (fail)
            have PQ0 := kide (PK.out.later (below_drewN (Below.refl _ _) nq))
            clear p1 p2 p3 lp h2 q0
            generalize wr.drewN nq = wq0 at *
            have p2 := PQ0.out.px.cell 2
            simp at p2
            have lp := PQ0.out.px.lt
            have hul : (narT ks cr k).length ≤ 1073741824 := by have := HNL.out k; have := HLT.out; omega
            have hsz : P0 ≤ (wq0.alloc (Obj.cells #[Value.int .i64 (k : Int)] 2)).heap.size := by simp; omega
            go_wp2_with (at_builtin; refine wpList_appI rfl _ _ rfl P0 nv (narT ks cr k) (k : Int) rfl (PQ0.out.nar.later ((Below.refl _ _).alloc (Nat.le_refl _) _)) _ 1 rfl (by simp) hul hsz ?_)
            intro g4 cap4 w4 hos4 hg4 hat4
            obtain ⟨pn4, x4⟩ := (PQ0.out.later ((Below.refl _ _).alloc (Nat.le_refl _) (Obj.cells #[Value.int .i64 (k : Int)] 2))).pushN hos4 hg4 (by rcases hat4 with e | e; exact .inl e.symm; exact .inr (by rw [e]; simp [Value.ownBlock]))
            have e4 := x4.cell 2
            have f4 := x4.froz 2
            simp at e4
            have PQ := kide pn4
            have p3 := PQ.out.px.cell 3
            simp at p3
            clear hos4 hg4 pn4 x4 p2 lp hul hsz hat4 p3
            have p3 := PQ.out.px.cell 3
            simp at p3
            have lp := PQ.out.px.lt
            have hul : (List.replicate k (-1 : Int)).length ≤ 1073741824 := by rw [List.length_replicate]; have := HLT.out; omega
            have hsz : P0 ≤ ((w4.setCell ⟨P0, 2, none⟩ (Value.slice (some ⟨g4, 0, none⟩) ((narT ks cr k).length + 1) cap4)).alloc (Obj.cells #[Value.int .i64 (-1)] 2)).heap.size := by rw [World.size_alloc]; omega
            have q9 := kide ((Bz.new (w4.setCell ⟨P0, 2, none⟩ (Value.slice (some ⟨g4, 0, none⟩) ((narT ks cr k).length + 1) cap4)) #[Value.int .i64 (-1)] 2).cell 0)
            go_wp2_with (at_builtin; refine wpList_appI rfl _ _ rfl P0 wv (List.replicate k (-1)) (-1) rfl (PQ.out.row.later ((Below.refl _ _).alloc (Nat.le_refl _) _)) _ 1 rfl (by first | (simp; done) | (have q8 := q9.out; simp at q8; simpa using q8) | (have q8 := q9.out; simp at q8; exact q8)) hul hsz ?_)
            intro g5 cap5 w5 hos hg5 hat5
            obtain ⟨pn, x6⟩ := (PQ.out.later ((Below.refl _ _).alloc (Nat.le_refl _) (Obj.cells #[Value.int .i64 (-1)] 2))).pushW hos hg5 (by rcases hat5 with e | e; exact .inl e.symm; exact .inr (by rw [e]; simp [Value.ownBlock]))
            have e0 := x6.cell 3
            have f0 := x6.froz 3
            simp at e0
            try rw [List.length_replicate] at pn
            try rw [List.length_replicate]
            have PN := kide pn
            have hk2 : (k : Int) ≤ 200 := by have := HLT.out; omega
            clear hos hg5 pn x6 p3 lp hul hsz hat5
            go_wp2_with fail
            go_roundw
            case rel => exact ⟨k + 1, _, _, HLT.out, by go_num, by rw [List.replicate_succ', HNX.out]; exact PN.out⟩
            case measure => have := HLT.out; simp only [intOf]; omega
        · rw [decide_eq_false hc, if_neg (by simp)] at hnr
          have HNX := kide hnr
          have hd : decide (T ≤ c) = false := decide_eq_false hc
          clear hnr hd0 hc
          rcases (show x = 1 ∨ x = 2 ∨ x = 3 ∨ x = 4 ∨ x = 5 ∨ x = 6 ∨ x = 7 ∨ x = 8 ∨ x = 9 ∨ x = 10 by omega) with rfl | rfl | rfl | rfl | rfl | rfl | rfl | rfl | rfl | rfl
          all_goals
            simp at hT
            subst hT
            clear hx10 hx1
            go_wp2_with fail
            go_quiet (fail)
            have PQ := kide (PK.out.later (below_drewN (Below.refl _ _) nq))
            clear p1 p2 p3 lp h2 q0
            generalize wr.drewN nq = wq at *
            have p3 := PQ.out.px.cell 3
            simp at p3
            have lp := PQ.out.px.lt
            have hul : (List.replicate k (-1 : Int)).length ≤ 1073741824 := by rw [List.length_replicate]; have := HLT.out; omega
            have hsz : P0 ≤ (wq.alloc (Obj.cells #[Value.int .i64 (-1)] 2)).heap.size := by rw [World.size_alloc]; omega
            have q9 := kide ((Bz.new wq #[Value.int .i64 (-1)] 2).cell 0)
            go_wp2_with (at_builtin; refine wpList_appI rfl _ _ rfl P0 wv (List.replicate k (-1)) (-1) rfl (PQ.out.row.later ((Below.refl _ _).alloc (Nat.le_refl _) _)) _ 1 rfl (by first | (simp; done) | (have q8 := q9.out; simp at q8; simpa using q8) | (have q8 := q9.out; simp at q8; exact q8)) hul hsz ?_)
            intro g5 cap5 w5 hos hg5 hat5
            obtain ⟨pn, x6⟩ := (PQ.out.later ((Below.refl _ _).alloc (Nat.le_refl _) (Obj.cells #[Value.int .i64 (-1)] 2))).pushW hos hg5 (by rcases hat5 with e | e; exact .inl e.symm; exact .inr (by rw [e]; simp [Value.ownBlock]))
            have e0 := x6.cell 3
            have f0 := x6.froz 3
            simp at e0
            try rw [List.length_replicate] at pn
            try rw [List.length_replicate]
            have PN := kide pn
            have hk2 : (k : Int) ≤ 200 := by have := HLT.out; omega
            clear hos hg5 pn x6 p3 lp hul hsz hat5
            go_wp2_with fail
            go_roundw
            case rel => exact ⟨k + 1, _, _, HLT.out, by go_num, by rw [List.replicate_succ', HNX.out]; exact PN.out⟩
            case measure => have := HLT.out; simp only [intOf]; omega
      · have hd : decide (x ≤ 10) = false := by simpa using hx10
        rw [hd] at hnr
        simp only [Bool.false_and] at hnr
        rw [if_neg (by simp)] at hnr
        have HNX := kide hnr
        clear hx10 hnr
        go_wp2_with fail
        go_quiet (fail)
        have PQ := kide (PK.out.later (below_drewN (Below.refl _ _) nq))
        clear p1 p2 p3 lp h2 q0
        generalize wr.drewN nq = wq at *
        have p3 := PQ.out.px.cell 3
        simp at p3
        have lp := PQ.out.px.lt
        have hul : (List.replicate k (-1 : Int)).length ≤ 1073741824 := by rw [List.length_replicate]; have := HLT.out; omega
        have hsz : P0 ≤ (wq.alloc (Obj.cells #[Value.int .i64 (-1)] 2)).heap.size := by rw [World.size_alloc]; omega
        have q9 := kide ((Bz.new wq #[Value.int .i64 (-1)] 2).cell 0)
        go_wp2_with (at_builtin; refine wpList_appI rfl _ _ rfl P0 wv (List.replicate k (-1)) (-1) rfl (PQ.out.row.later ((Below.refl _ _).alloc (Nat.le_refl _) _)) _ 1 rfl (by first | (simp; done) | (have q8 := q9.out; simp at q8; simpa using q8) | (have q8 := q9.out; simp at q8; exact q8)) hul hsz ?_)
        intro g5 cap5 w5 hos hg5 hat5
        obtain ⟨pn, x6⟩ := (PQ.out.later ((Below.refl _ _).alloc (Nat.le_refl _) (Obj.cells #[Value.int .i64 (-1)] 2))).pushW hos hg5 (by rcases hat5 with e | e; exact .inl e.symm; exact .inr (by rw [e]; simp [Value.ownBlock]))
        have e0 := x6.cell 3
        have f0 := x6.froz 3
        simp at e0
        try rw [List.length_replicate] at pn
        try rw [List.length_replicate]
        have PN := kide pn
        have hk2 : (k : Int) ≤ 200 := by have := HLT.out; omega
        clear hos hg5 pn x6 p3 lp hul hsz hat5
        go_wp2_with fail
        go_roundw
        case rel => exact ⟨k + 1, _, _, HLT.out, by go_num, by rw [List.replicate_succ', HNX.out]; exact PN.out⟩
        case measure => have := HLT.out; simp only [intOf]; omega
    · have e9 : k = n := by omega
      subst e9
      clear hpn hlt hk P1
      go_wp2_with fail
      go_ret
      exact ⟨P0, H, K, va, vc, nv, wv, ov, mv, rfl, HR.out, HKB.out, PK.out⟩

end Go.Proofs.Ythoiajpbpoglfaa
