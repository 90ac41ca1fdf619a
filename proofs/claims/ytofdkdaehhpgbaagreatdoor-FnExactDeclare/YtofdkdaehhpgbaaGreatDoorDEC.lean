/- Declare: the code that a name and a width get, by the program. -/
import Derived.Test.YtofdkdaehhpgbaaGreatDoorDEB
import Derived.Test.YtofdkdaehhpgbaaGreatDoorZK
namespace Go.Proofs.YtofdkdaehhpgbaaGreatDoor
set_option linter.unusedVariables false
set_option linter.unusedSimpArgs false
open Go.RowKit

/-- The code. -/
def decC (ds : List Dc) (s : ByteArray) (x : Int) : Int := if nmOk s = true then (if hasN s ds = true then 3 else if wOk x = true then (if dclR (ds ++ [(s, x)]) = true then 0 else 5) else 4) else 2

set_option maxHeartbeats 2000000 in
set_option maxRecDepth 100000 in
theorem declareCode_any (g1 o1 dn dc : Nat) (s : ByteArray) (x : Int) (ds : List Dc) (w : World) (hd : RdD w (some ⟨g1, o1, none⟩) ds) (hdn : ds.length = dn) (h60 : dn ≤ 60) (hs : s.size ≤ 1048576) (hx : in64 x) :
    Calls Tryz.prog 29 #[.slice (some ⟨g1, o1, none⟩) dn dc, .string s, .int .i64 x] w fun e w' => e = .returned (.int .i64 (decC ds s x)) ∧ Below w.heap.size w w' := by
  obtain ⟨b0, hb0⟩ : ∃ b0, w.heap.size = b0 := ⟨_, rfl⟩
  have hbA : Below w.heap.size w (w.alloc (Obj.cells #[Value.string s] 9)) := (Below.refl _ _).alloc (Nat.le_refl _) _
  have zA : (w.alloc (Obj.cells #[Value.string s] 9)).heap.size = b0 + 1 := by simp [hb0]
  have hbB : Below (w.alloc (Obj.cells #[Value.string s] 9)).heap.size (w.alloc (Obj.cells #[Value.string s] 9)) ((w.alloc (Obj.cells #[Value.string s] 9)).alloc (Obj.cells #[Value.string s, Value.int IntKind.i64 x] 50)) := (Below.refl _ _).alloc (Nat.le_refl _) _
  have zB : ((w.alloc (Obj.cells #[Value.string s] 9)).alloc (Obj.cells #[Value.string s, Value.int IntKind.i64 x] 50)).heap.size = b0 + 1 + 1 := by simp [hb0]
  have hbC : Below ((w.alloc (Obj.cells #[Value.string s] 9)).alloc (Obj.cells #[Value.string s, Value.int IntKind.i64 x] 50)).heap.size ((w.alloc (Obj.cells #[Value.string s] 9)).alloc (Obj.cells #[Value.string s, Value.int IntKind.i64 x] 50)) (((w.alloc (Obj.cells #[Value.string s] 9)).alloc (Obj.cells #[Value.string s, Value.int IntKind.i64 x] 50)).alloc (Obj.cells #[Value.slice (some ⟨g1, o1, none⟩) dn dc, Value.slice (some ⟨b0 + 1, 0, none⟩) 1 1] 27)) := (Below.refl _ _).alloc (Nat.le_refl _) _
  have XA : Bz (w.alloc (Obj.cells #[Value.string s] 9)) b0 #[Value.string s] 9 := by rw [← hb0]; exact Bz.new _ _ _
  have XB : Bz ((w.alloc (Obj.cells #[Value.string s] 9)).alloc (Obj.cells #[Value.string s, Value.int IntKind.i64 x] 50)) (b0 + 1) #[Value.string s, Value.int IntKind.i64 x] 50 := by rw [← zA]; exact Bz.new _ _ _
  have XC : Bz (((w.alloc (Obj.cells #[Value.string s] 9)).alloc (Obj.cells #[Value.string s, Value.int IntKind.i64 x] 50)).alloc (Obj.cells #[Value.slice (some ⟨g1, o1, none⟩) dn dc, Value.slice (some ⟨b0 + 1, 0, none⟩) 1 1] 27)) (b0 + 1 + 1) #[Value.slice (some ⟨g1, o1, none⟩) dn dc, Value.slice (some ⟨b0 + 1, 0, none⟩) 1 1] 27 := by rw [← zB]; exact Bz.new _ _ _
  have YB := XB.later hbC
  have YA := kide ((XA.later hbB).later hbC)
  have hW := kide ((hbA.trans (hbB.mono hbA.size)).trans (hbC.mono (hbA.trans (hbB.mono hbA.size)).size))
  have HRX : Hid (RdD (((w.alloc (Obj.cells #[Value.string s] 9)).alloc (Obj.cells #[Value.string s, Value.int IntKind.i64 x] 50)).alloc (Obj.cells #[Value.slice (some ⟨g1, o1, none⟩) dn dc, Value.slice (some ⟨b0 + 1, 0, none⟩) 1 1] 27)) (some ⟨b0 + 1, 0, none⟩) [(s, x)]) := ⟨by simp, fun d hd => by simp at hd; subst hd; exact ⟨hx, by show s.size ≤ _; omega⟩, .inr ⟨b0 + 1, 0, rfl, fun i d hi => by
    match i, hi with
    | 0, hi => simp at hi; subst hi; exact ⟨YB.cell 0, YB.cell 1⟩
    | i + 1, hi => simp at hi⟩⟩
  have HRD := kide (hd.later hW.out)
  have HC0 : Hid ((((w.alloc (Obj.cells #[Value.string s] 9)).alloc (Obj.cells #[Value.string s, Value.int IntKind.i64 x] 50)).alloc (Obj.cells #[Value.slice (some ⟨g1, o1, none⟩) dn dc, Value.slice (some ⟨b0 + 1, 0, none⟩) 1 1] 27)).cell? ⟨b0 + 1 + 1, 0, none⟩ = some (.slice (some ⟨g1, o1, none⟩) dn dc)) := XC.cell 0
  have HC1 : Hid ((((w.alloc (Obj.cells #[Value.string s] 9)).alloc (Obj.cells #[Value.string s, Value.int IntKind.i64 x] 50)).alloc (Obj.cells #[Value.slice (some ⟨g1, o1, none⟩) dn dc, Value.slice (some ⟨b0 + 1, 0, none⟩) 1 1] 27)).cell? ⟨b0 + 1 + 1, 1, none⟩ = some (.slice (some ⟨b0 + 1, 0, none⟩) 1 1)) := XC.cell 1
  have HDN := kide hdn
  have HD := kide hd
  have HB0 := kide hb0
  clear hbA hbB hbC zA zB XA XB XC YB hd hdn
  obtain ⟨Z, hZ⟩ : ∃ Z, decC ds s x = Z := ⟨_, rfl⟩
  rw [hZ]
  have HZ := kide hZ.symm
  clear hZ
  go_enter Tryz.func29, Tryz.ntmps29
  go_wp2_with fail
  try simp only [hb0]
  clear hb0
  generalize (((w.alloc (Obj.cells #[Value.string s] 9)).alloc (Obj.cells #[Value.string s, Value.int IntKind.i64 x] 50)).alloc (Obj.cells #[Value.slice (some ⟨g1, o1, none⟩) dn dc, Value.slice (some ⟨b0 + 1, 0, none⟩) 1 1] 27)) = W at *
  refine Calls.mono (concatD_any (b0 + 1 + 1) g1 o1 dn dc (b0 + 1) 0 1 1 ds [(s, x)] _ HC0.out HC1.out HRD.out HDN.out HRX.out rfl (by omega) (by omega)) ?_
  rintro e w1 ⟨v, rfl, ho, hb1⟩
  have hl : (ds ++ [(s, x)]).length = dn + 1 := by rw [List.length_append, HDN.out]; rfl
  obtain ⟨a, c, rfl, hrd⟩ := ho.rd (by omega) (fun y hy => by
    rcases List.mem_append.1 hy with hy | hy
    · exact HRD.out.2.1 y hy
    · simp at hy; subst hy; exact ⟨hx, by show s.size ≤ _; omega⟩)
  have HMR := kide hrd
  have B1 := kide (hW.out.trans (hb1.mono hW.out.size))
  have Y1 := kide (YA.out.later hb1)
  have HIM := kide (fun u (hu : Below w1.heap.size w1 u) => implDecls_any a c (ds ++ [(s, x)]) u (hrd.later hu))
  rw [hl] at HIM
  rw [hl]
  have y0 := Y1.out.cell 0
  simp at y0
  have HS1 := kide (fun u => nameOk_any s (by omega) u)
  have HW1 := kide (fun u => widthOk_any x u)
  have HCF := kide (fun u (hu : Below w1.heap.size w1 u) => ContainsD_any 61 enter_decF (.pointer (some ⟨b0, 0, none⟩)) (fun d => d.1.toList == s.toList) (some ⟨g1, o1, none⟩) dc dn ds u (HD.out.later (B1.out.trans (hu.mono B1.out.size))) HDN.out (kide (fun u2 hu2 d hd => decF_any s b0 d u2 ((Y1.out.later hu).later hu2 |>.cell 0))))
  have e0 : ds.any (fun d => d.1.toList == s.toList) = hasN s ds := rfl
  rw [e0] at HCF
  clear ho hrd hb1 hl HRX HRD HC0 HC1 YA hW HMR HD e0
  unfold decC at HZ
  generalize nmOk s = P1 at *
  generalize hasN s ds = P2 at *
  generalize wOk x = P3 at *
  generalize dclR (ds ++ [(s, x)]) = P4 at *
  have bt : (true == true) = true := rfl
  cases P1 with
  | false =>
    go_wp2_with fail
    refine Calls.mono (HS1.out _) ?_
    rintro e w2 ⟨rfl, hw⟩
    obtain rfl := hw.symm
    go_wp2_with fail
    go_ret
    exact ⟨by rw [HZ.out]; rfl, B1.out⟩
  | true =>
    go_wp2_with fail
    refine Calls.mono (HS1.out _) ?_
    rintro e w2 ⟨rfl, hw⟩
    obtain rfl := hw.symm
    go_wp2_with fail
    refine Calls.mono (HCF.out _ (Below.refl _ _)) ?_
    rintro e w2 ⟨rfl, hb2⟩
    have B2 := kide (B1.out.trans (hb2.mono B1.out.size))
    have HB2 := kide hb2
    clear hb2 y0
    cases P2 with
    | true =>
      go_wp2_with fail
      go_ret
      exact ⟨by rw [HZ.out]; rfl, B2.out⟩
    | false =>
      go_wp2_with fail
      refine Calls.mono (HW1.out _) ?_
      rintro e w3 ⟨rfl, hw⟩
      obtain rfl := hw.symm
      cases P3 with
      | false =>
        go_wp2_with fail
        go_ret
        exact ⟨by rw [HZ.out]; rfl, B2.out⟩
      | true =>
        go_wp2_with fail
        refine Calls.mono (HIM.out _ HB2.out) ?_
        rintro e w3 ⟨rfl, hb3⟩
        have B3 := kide (B2.out.trans (hb3.mono B2.out.size))
        clear hb3
        cases P4 with
        | false =>
          go_wp2_with fail
          go_ret
          exact ⟨by rw [HZ.out]; rfl, B3.out⟩
        | true =>
          go_wp2_with fail
          go_ret
          exact ⟨by rw [HZ.out]; rfl, B3.out⟩

end Go.Proofs.YtofdkdaehhpgbaaGreatDoor
