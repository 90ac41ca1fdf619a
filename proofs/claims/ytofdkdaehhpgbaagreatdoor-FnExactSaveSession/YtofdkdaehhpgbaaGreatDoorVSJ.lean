/- SaveSession, by the program. -/
import Derived.Test.YtofdkdaehhpgbaaGreatDoorVSI
import Derived.Test.YtofdkdaehhpgbaaGreatDoorVSM
import Derived.Lib.SmallJoins
namespace Go.Proofs.YtofdkdaehhpgbaaGreatDoor
set_option linter.unusedVariables false
set_option linter.unusedSimpArgs false
open Go.RowKit

/-- An answer that is a row of bytes in new memory. -/
def RetY (R : List Nat) (w : World) (e : Ending) (w' : World) : Prop := ∃ v, e = .returned v ∧ OwB w' w.heap.size v R ∧ Below w.heap.size w w'

theorem OwB.low {w : World} {B B' : Nat} {v : Value} {l : List Nat} (h : OwB w B v l) (hB : B' ≤ B) : OwB w B' v l := by
  refine ⟨h.1, ?_⟩
  rcases h.2 with h0 | ⟨g, cap, cur, rfl, hg, r⟩
  · exact .inl h0
  · exact .inr ⟨g, cap, cur, rfl, by omega, r⟩
theorem make_buf : ∃ C : Array Value, C.size = 60000 ∧ ∀ (kl kc : IntKind) (u : World), (Instr.makeSlice 37 (.int kl 60000) (.int kc 60000)).run Tryz.prog u = .ok (.slice (some ⟨u.heap.size, 0, none⟩) 60000 60000) (u.alloc (.cells C 5)) :=
  ⟨madeCells #[.int .u8 0] 60000, size_madeCells _ _, fun kl kc u => make_u8s 60000 (by omega) kl kc u⟩

set_option maxHeartbeats 2000000 in
set_option maxRecDepth 100000 in
theorem implSave_any (da sa : Option Addr) (dn dc n sc : Nat) (nx : Int) (ds : List Dc) (xs : List Sg) (w : World) (hd : RdD w da ds) (hdn : ds.length = dn) (hs : RdS w sa xs) (hn : xs.length = n) (hnx : in64 nx)
    (HSK : Hid (∀ u, Below w.heap.size w u → Calls Tryz.prog 27 #[.agg #[.slice da dn dc, .slice sa n sc, .int .i64 nx]] u fun e w' => e = .returned (.bool (sesR ds (xs.map Sg.ct) nx)) ∧ Below u.heap.size u w')) :
    Calls Tryz.prog 13 #[.agg #[.slice da dn dc, .slice sa n sc, .int .i64 nx]] w (RetY (saveR ds (xs.map Sg.ct) nx) w) := by
  have hb0 : Below w.heap.size w (w.alloc (.cells #[Value.slice da dn dc, Value.slice sa n sc, Value.int .i64 nx] 30)) := (Below.refl _ _).alloc (Nat.le_refl _) _
  have B0 := kide hb0
  have X0 := kide (Bz.new w #[Value.slice da dn dc, Value.slice sa n sc, Value.int .i64 nx] 30)
  obtain ⟨R, hR⟩ : ∃ R, saveR ds (xs.map Sg.ct) nx = R := ⟨_, rfl⟩
  rw [hR]
  have HR := kide hR.symm
  have HWS := kide (fun (h : sesR ds (xs.map Sg.ct) nx = true) G st u (hw : Wst G st u) (hb : Below w.heap.size w u) (hG : w.heap.size ≤ G) => ses_any G da sa dn dc n sc nx ds xs st w u hw hb hG hnx hd hdn (ses_names h) hs hn (ses_okL h))
  have HE : Hid (sesB ds (xs.map Sg.ct) nx = numB nx ++ ((numB dn ++ ds.flatMap dclB) ++ (numB n ++ xs.flatMap scpG))) := by
    show _ = _
    unfold sesB
    rw [hdn, List.length_map, hn, List.flatMap_map]
    rfl
  unfold saveR at HR
  clear hR hb0 hd hdn hs hn hnx
  cases hv : sesR ds (xs.map Sg.ct) nx with
  | false =>
    rw [hv] at HSK HR
    rw [if_neg (by simp)] at HR
    clear hv HWS
    go_enter Tryz.func13, Tryz.ntmps13
    go_wp2_with fail
    generalize w.alloc (.cells #[Value.slice da dn dc, Value.slice sa n sc, Value.int .i64 nx] 30) = W at *
    refine Calls.mono (HSK.out _ B0.out) ?_
    rintro e w1 ⟨rfl, hb1⟩
    go_wp2_with fail
    go_ret
    rw [HR.out]
    exact ⟨_, rfl, OwB.nil _ _, B0.out.trans (hb1.mono B0.out.size)⟩
  | true =>
    rw [hv] at HSK HR
    rw [if_pos rfl] at HR
    have HW2 := kide (HWS.out hv)
    clear hv HWS
    obtain ⟨C, hC, hmk0⟩ := make_buf
    have HMK := kide hmk0
    have HCS := kide hC
    clear hmk0 hC
    go_enter Tryz.func13, Tryz.ntmps13
    go_wp2_with fail
    generalize w.alloc (.cells #[Value.slice da dn dc, Value.slice sa n sc, Value.int .i64 nx] 30) = W at *
    refine Calls.mono (HSK.out _ B0.out) ?_
    rintro e w1 ⟨rfl, hb1⟩
    have B1 := kide (B0.out.trans (hb1.mono B0.out.size))
    have X1 := kide (X0.out.later hb1)
    have hmk := fun kl kc => HMK.out kl kc w1
    have hz2 : ((w1.alloc (.cells C 5)).alloc (.cells #[Value.slice (some ⟨w1.heap.size, 0, none⟩) 60000 60000, Value.int .i64 0, Value.int .i64 0, Value.int .i64 1] 74)).heap.size = w1.heap.size + 1 + 1 := by simp
    have hcv := Joins.run_convert_bytes_const_at (P := Tryz.prog) ((w1.alloc (.cells C 5)).alloc (.cells #[Value.slice (some ⟨w1.heap.size, 0, none⟩) 60000 60000, Value.int .i64 0, Value.int .i64 0, Value.int .i64 1] 74)) 37 5 #[Value.int .u8 83, Value.int .u8 1] 2 2 (w1.heap.size + 1 + 1) hz2.symm Tryz.underlying37 Tryz.underlying5
    rw [show (#[Value.int .u8 83, Value.int .u8 1] : Array Value).size = 2 from rfl] at hcv
    have b1 : Below w1.heap.size w1 (w1.alloc (.cells C 5)) := (Below.refl _ _).alloc (Nat.le_refl _) _
    have b2 : Below (w1.alloc (.cells C 5)).heap.size (w1.alloc (.cells C 5)) ((w1.alloc (.cells C 5)).alloc (.cells #[Value.slice (some ⟨w1.heap.size, 0, none⟩) 60000 60000, Value.int .i64 0, Value.int .i64 0, Value.int .i64 1] 74)) := (Below.refl _ _).alloc (Nat.le_refl _) _
    have b3 : Below ((w1.alloc (.cells C 5)).alloc (.cells #[Value.slice (some ⟨w1.heap.size, 0, none⟩) 60000 60000, Value.int .i64 0, Value.int .i64 0, Value.int .i64 1] 74)).heap.size ((w1.alloc (.cells C 5)).alloc (.cells #[Value.slice (some ⟨w1.heap.size, 0, none⟩) 60000 60000, Value.int .i64 0, Value.int .i64 0, Value.int .i64 1] 74)) (((w1.alloc (.cells C 5)).alloc (.cells #[Value.slice (some ⟨w1.heap.size, 0, none⟩) 60000 60000, Value.int .i64 0, Value.int .i64 0, Value.int .i64 1] 74)).alloc (.cells #[Value.int .u8 83, Value.int .u8 1] 5 (2, 3))) := (Below.refl _ _).alloc (Nat.le_refl _) _
    have hz1 : (w1.alloc (.cells C 5)).heap.size = w1.heap.size + 1 := by simp
    have WS2 : Wst w1.heap.size (some []) ((w1.alloc (.cells C 5)).alloc (.cells #[Value.slice (some ⟨w1.heap.size, 0, none⟩) 60000 60000, Value.int .i64 0, Value.int .i64 0, Value.int .i64 1] 74)) := ⟨0, 0, C, by rw [← hz1]; exact Bz.new _ _ _, (Bz.new w1 C 5).later b2, HCS.out, Nat.zero_le _, .inr ⟨[], rfl, rfl, rfl, by simp [u8s]⟩⟩
    have WS3 := kide (WS2.later b3)
    have hb3 : Below w1.heap.size w1 (((w1.alloc (.cells C 5)).alloc (.cells #[Value.slice (some ⟨w1.heap.size, 0, none⟩) 60000 60000, Value.int .i64 0, Value.int .i64 0, Value.int .i64 1] 74)).alloc (.cells #[Value.int .u8 83, Value.int .u8 1] 5 (2, 3))) := (b1.trans (b2.mono b1.size)).trans (b3.mono (b1.trans (b2.mono b1.size)).size)
    have B3 := kide (B1.out.trans (hb3.mono B1.out.size))
    have X3 := kide (X1.out.later hb3)
    have HRB : Hid (RdB (((w1.alloc (.cells C 5)).alloc (.cells #[Value.slice (some ⟨w1.heap.size, 0, none⟩) 60000 60000, Value.int .i64 0, Value.int .i64 0, Value.int .i64 1] 74)).alloc (.cells #[Value.int .u8 83, Value.int .u8 1] 5 (2, 3))) (some ⟨w1.heap.size + 1 + 1, 0, none⟩) [83, 1]) := .inr ⟨w1.heap.size + 1 + 1, 0, rfl, fun j u hj => by
      rw [Nat.zero_add, Joins.cell_alloc_mark_at _ _ _ _ _ _ hz2.symm]
      match j, hj with
      | 0, hj => simp [u8s] at hj; subst hj; rfl
      | 1, hj => simp [u8s] at hj; subst hj; rfl
      | j + 2, hj => simp [u8s] at hj⟩
    have HP := kide (put_any w1.heap.size 2 2 _ [83, 1] _ _ WS3.out HRB.out rfl (by omega))
    have HGW : Hid (w.heap.size < w1.heap.size) := X1.out.lt
    clear b1 b2 b3 hz1 hz2 WS2 hb3 hb1 B0 X0 HMK HRB WS3 X1
    go_wp2_with fail
    generalize (((w1.alloc (.cells C 5)).alloc (.cells #[Value.slice (some ⟨w1.heap.size, 0, none⟩) 60000 60000, Value.int .i64 0, Value.int .i64 0, Value.int .i64 1] 74)).alloc (.cells #[Value.int .u8 83, Value.int .u8 1] 5 (2, 3))) = w3 at *
    obtain ⟨G, hG⟩ : ∃ G, w1.heap.size = G := ⟨_, rfl⟩
    rw [hG] at HP HGW
    try simp only [hG]
    clear hG hcv hmk
    refine Calls.mono HP.out ?_
    rintro e w4 ⟨rfl, h1, h2⟩
    have B4 := kide (B3.out.trans (h2.bel2 (Nat.le_of_lt HGW.out) B3.out.size))
    have X4 := kide (X3.out.outs h2 (.inl HGW.out))
    have HS5 := kide (HW2.out G _ w4 h1 B4.out (Nat.le_of_lt HGW.out))
    clear h1 h2 HP X3 B3
    have x0 := X4.out.cell 0
    have x1 := X4.out.cell 1
    have x2 := X4.out.cell 2
    simp at x0 x1 x2
    go_wp2_with fail
    clear x0 x1 x2
    refine Calls.mono HS5.out ?_
    rintro e w5 ⟨rfl, h1, h2⟩
    have B5 := kide (B4.out.trans (h2.bel2 (Nat.le_of_lt HGW.out) B4.out.size))
    rw [← HE.out, putS_two] at h1
    clear h2 X4 B4 HS5
    by_cases hl : ([83, 1] ++ sesB ds (xs.map Sg.ct) nx).length ≤ 60000
    · rw [if_pos hl] at HR
      have e2 : putS (some []) ([83, 1] ++ sesB ds (xs.map Sg.ct) nx) = some R := by
        rw [HR.out]
        unfold putS
        simp only [List.length_nil, Nat.zero_add, if_pos hl, List.nil_append]
      rw [e2] at h1
      rw [← HR.out] at hl
      obtain ⟨p, code, buf, q1, q2, q3, q4, ⟨hq, -⟩ | ⟨bs, hq, rfl, rfl, q5⟩⟩ := h1
      · cases hq
      · cases hq
        obtain ⟨L, hL⟩ : ∃ L, R.length = L := ⟨_, rfl⟩
        have HRB : Hid (RdB w5 (some ⟨G, 0, none⟩) R) := .inr ⟨G, 0, rfl, fun j u hj => by
          have hjl := (List.getElem?_eq_some_iff.1 hj).1
          rw [u8s_len] at hjl
          rw [Nat.zero_add, q2.cell]
          rw [← q5, List.getElem?_take, if_pos hjl] at hj
          simpa using hj⟩
        rw [hL] at q1 q4
        have HL := kide hL
        have y0 := q1.cell 0
        have y1 := q1.cell 1
        have y2 := q1.cell 2
        simp at y0 y1 y2
        have hGl : G + 1 < w5.heap.size := q1.lt
        clear q1 q2 q3 q5 e2 hl hL
        go_wp2_with fail
        clear y2
        have q6 : (L : Int) ≤ 60000 := by omega
        go_region_held3 (fun u => u.cell? ⟨G + 1, 0, none⟩ = some (Value.slice (some ⟨G, 0, none⟩) 60000 60000) ∧ u.cell? ⟨G + 1, 1, none⟩ = some (Value.int .i64 (L : Int))) (simp [*])
          ((go_at_call 41; refine Calls.mono (clone_any G 0 L 60000 R _ HRB.out HL.out (by omega)) ?_; rintro e w6 ⟨v, rfl, ho, hb6⟩; replace hb6 := kundrew hb6; have k0 := (kcell hb6 (G + 1) 0 hGl).trans y0; have k1 := (kcell hb6 (G + 1) 1 hGl).trans y1))
        go_wp2_with fail
        go_ret
        exact ⟨v, rfl, ho.low B5.out.size, B5.out.trans (hb6.mono B5.out.size)⟩
    · rw [if_neg hl] at HR
      have e2 : putS (some []) ([83, 1] ++ sesB ds (xs.map Sg.ct) nx) = none := by
        unfold putS
        simp only [List.length_nil, Nat.zero_add, if_neg hl]
      rw [e2] at h1
      obtain ⟨p, code, buf, q1, q2, q3, q4, ⟨-, rfl⟩ | ⟨bs, hq, -⟩⟩ := h1
      · have y2 := q1.cell 2
        simp at y2
        clear q1 q2 q3 q4 e2 hl
        go_wp2_with fail
        go_ret
        rw [HR.out]
        exact ⟨_, rfl, OwB.nil _ _, B5.out⟩
      · cases hq

end Go.Proofs.YtofdkdaehhpgbaaGreatDoor
