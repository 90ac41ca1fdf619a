/- Several texts in one. -/
import Derived.Test.YtdlmgndmfphneaaGreatDoorZGAD
import Derived.Handy
import Derived.Test.YtdlmgndmfphneaaGreatDoorZGAC
import Derived.Test.YtdlmgndmfphneaaGreatDoorZGAC
import Derived.Test.YtdlmgndmfphneaaGreatDoorZGAB

/- What the program's DeclsOk answers. -/
namespace Go.Proofs.YtdlmgndmfphneaaGreatDoor
set_option linter.unusedVariables false
set_option linter.unusedSimpArgs false
open Go.RowKit Go.WideMaps Go.Maps

set_option maxHeartbeats 1000000 in
theorem totalWidth_any (a : Option Addr) (c : Nat) (ds : List Dc) (w : World) (hr : RdD w a ds) (h60 : ds.length ≤ 60) (hok : ∀ d ∈ ds, dcOk d = true) :
    Calls Tryz.prog 118 #[.slice a ds.length c] w fun e w' => e = .returned (.int .i64 (sumW ds)) ∧ Below w.heap.size w w' := by
  have HLN := kide hr.1
  have HALL := kide hok
  go_enter Tryz.func118, Tryz.ntmps118
  clear hok
  go_wp2_with fail
  go_loopw [3, 8] (fun q i wr => ∃ k : Nat, k ≤ ds.length ∧ i = .int .i64 (k : Int) ∧ q = .int .i64 (sumW (ds.take k)) ∧ Below w.heap.size w wr) (fun _ i _ => ds.length - (intOf i).toNat)
  case atStart => exact ⟨0, Nat.zero_le _, rfl, by simp [sumW], Below.refl _ _⟩
  case round =>
    obtain ⟨k, hk, rfl, rfl, hbel⟩ := hrel
    have HB := kide hbel
    by_cases hlt : k < ds.length
    · obtain ⟨-, hsz, h | ⟨b, o, rfl, hc⟩⟩ := hr
      · subst h; simp at hlt
      obtain ⟨⟨t, x⟩, hh⟩ : ∃ x, ds[k] = x := ⟨_, rfl⟩
      have gx : ds[k]? = some (t, x) := by rw [List.getElem?_eq_getElem hlt, hh]
      obtain ⟨p0, p1⟩ := (hc k _ gx).later hbel
      simp only [] at p0 p1
      obtain ⟨hx64, hts⟩ := hsz _ (List.mem_of_getElem? gx)
      simp only [] at hx64 hts
      have i0 : (k : Int) < (ds.length : Int) := by omega
      have hsum := sumW_le (fun d hd => HALL.out d (List.mem_of_mem_take hd) : ∀ d ∈ ds.take k, dcOk d = true)
      have hst := sumW_take gx
      simp only [] at hst
      have htl : (ds.take k).length = k := by simp; omega
      rw [htl] at hsum
      have HST := kide hst
      have hx := (dcOk_iff.1 (HALL.out _ (List.mem_of_getElem? gx))).2
      simp [wOk] at hx
      obtain ⟨hx1, hx2⟩ := hx
      obtain ⟨hs1, hs2⟩ := hsum
      have HA := kide ((HB.out.alloc HB.out.size (Obj.cells #[Value.string t, Value.int .i64 x] 56)))
      clear hc gx hh hsz hst htl hbel
      generalize sumW (ds.take k) = Q at *
      go_wp2_with fail
      go_roundw
      case rel =>
        refine ⟨k + 1, by omega, by go_num, ?_, HA.out⟩
        rw [HST.out]
      case measure => simp [intOf]; omega
    · have e : k = ds.length := by omega
      have HE : Hid (sumW (ds.take k) = sumW ds) := by
        show _ = _
        rw [e, List.take_length]
      generalize sumW (ds.take k) = Q at *
      clear hbel e
      go_wp2_with fail
      go_ret
      exact ⟨by rw [HE.out]; rfl, HB.out⟩

set_option maxHeartbeats 1000000 in
theorem implDecls_any (a : Option Addr) (c : Nat) (ds : List Dc) (w : World) (hr : RdD w a ds) :
    Calls Tryz.prog 88 #[.slice a ds.length c] w fun e w' => e = .returned (.bool (dclR ds)) ∧ Below w.heap.size w w' := by
  have hlen := hr.1
  by_cases h60 : ds.length ≤ 60
  · go_enter Tryz.func88, Tryz.ntmps88
    go_wp2_with fail
    have HLN := kide hlen
    clear hlen
    go_loopw [10] (fun i wr => ∃ k : Nat, k ≤ ds.length ∧ i = .int .i64 (k : Int) ∧ (∀ d ∈ ds.take k, dcOk d = true) ∧ Below w.heap.size w wr) (fun i _ => ds.length - (intOf i).toNat)
    case atStart => exact ⟨0, Nat.zero_le _, rfl, by simp, Below.refl _ _⟩
    case round =>
      obtain ⟨k, hk, rfl, hok, hbel⟩ := hrel
      have HB := kide hbel
      by_cases hlt : k < ds.length
      · obtain ⟨-, hsz, h | ⟨b, o, rfl, hc⟩⟩ := hr
        · subst h; simp at hlt
        obtain ⟨⟨t, x⟩, hh⟩ : ∃ x, ds[k] = x := ⟨_, rfl⟩
        have gx : ds[k]? = some (t, x) := by rw [List.getElem?_eq_getElem hlt, hh]
        obtain ⟨p0, p1⟩ := (hc k _ gx).later hbel
        simp only [] at p0 p1
        obtain ⟨hx64, hts⟩ := hsz _ (List.mem_of_getElem? gx)
        simp only [] at hx64 hts
        have i0 : (k : Int) < (ds.length : Int) := by omega
        have GX := kide gx
        have hsum := sumW_le hok
        have hst := sumW_take gx
        simp only [] at hst
        have htl : (ds.take k).length = k := by simp; omega
        rw [htl] at hsum
        have HST := kide hst
        have HOK := kide hok
        have hN : ∀ u, Calls Tryz.prog 116 #[.string t] u fun e w' => e = .returned (.bool (nmOk t)) ∧ w' = u := fun u => nameOk_any t hts u
        have hW : ∀ u, Calls Tryz.prog 117 #[.int .i64 x] u fun e w' => e = .returned (.bool (wOk x)) ∧ w' = u := fun u => widthOk_any x u
        have HN := kide hN
        have HW := kide hW
        have HBAD : Hid (nmOk t = false ∨ wOk x = false → dclR ds = false) := fun h => dclR_bad gx (by rcases h with h | h <;> simp [dcOk, h])
        have HGOOD : Hid (nmOk t = true → wOk x = true → dcOk (t, x) = true) := fun h h' => by simp [dcOk, h, h']
        have hwx : wOk x = true → 1 ≤ x ∧ x ≤ 4096 := fun h => by simpa [wOk] using h
        have HA := kide ((HB.out.alloc HB.out.size (Obj.cells #[Value.string t, Value.int .i64 x] 56)))
        clear hN hW hc gx hh hsz hok hst htl hbel
        generalize sumW (ds.take k) = Q at *
        generalize nmOk t = r1 at *
        cases r1 with
        | false =>
          have HR := kide (HBAD.out (.inl (by simp)))
          go_wp2_with (go_at_call 116; refine Calls.mono (HN.out _) ?_; rintro e w1 ⟨rfl, rfl⟩)
          go_ret
          exact ⟨ret_bool HR.out.symm, HA.out⟩
        | true =>
          generalize wOk x = r2 at *
          cases r2 with
          | false =>
            have HR := kide (HBAD.out (.inr (by simp)))
            go_wp2_with (first | (go_at_call 116; refine Calls.mono (HN.out _) ?_; rintro e w1 ⟨rfl, rfl⟩) | (go_at_call 117; refine Calls.mono (HW.out _) ?_; rintro e w1 ⟨rfl, rfl⟩))
            go_ret
            exact ⟨ret_bool HR.out.symm, HA.out⟩
          | true =>
            have hx := hwx (by simp)
            obtain ⟨hx1, hx2⟩ := hx
            obtain ⟨hs1, hs2⟩ := hsum
            have HG := kide (HGOOD.out (by simp) (by simp))
            clear HBAD HGOOD hwx
            go_wp2_with (first | (go_at_call 116; refine Calls.mono (HN.out _) ?_; rintro e w1 ⟨rfl, rfl⟩) | (go_at_call 117; refine Calls.mono (HW.out _) ?_; rintro e w1 ⟨rfl, rfl⟩))
            go_roundw
            case rel =>
              refine ⟨k + 1, by omega, by go_num, ?_, HA.out⟩
              · intro d hd
                rw [List.take_add_one, GX.out] at hd
                rcases List.mem_append.1 hd with hd | hd
                · exact HOK.out d hd
                · simp at hd
                  subst hd
                  exact HG.out
            case measure => simp [intOf]; omega
      · have e : k = ds.length := by omega
        rw [e, List.take_length] at hok
        have hs := sumW_le hok
        rw [← List.take_length (l := ds), ← e] at hs
        have HR : Hid (dclR ds = (decide (sumW (ds.take k) ≤ 20000) && decide ((ds.map Prod.fst).Nodup))) := by
          show _ = _
          rw [e, List.take_length]
          rw [Bool.eq_iff_iff, dclR_iff, Bool.and_eq_true, decide_eq_true_eq, decide_eq_true_eq]
          exact ⟨fun h => ⟨h.2.2.1, h.2.2.2⟩, fun h => ⟨h60, hok, h.1, h.2⟩⟩
        have hnm : ∀ d ∈ ds, d.1.size ≤ 1048576 := fun d hd => by
          have := (dcOk_iff.1 (hok d hd)).1
          simp [nmOk] at this
          omega
        have HP := kide (fun u (hu : Below w.heap.size w u) => placesOf_any a c ds u (hr.later hu) hnm)
        have HT := kide (totalWidth_any a c ds wr (hr.later hbel) h60 hok)
        rw [e, List.take_length] at HR hs
        generalize sumW ds = Q at *
        clear hok hbel hs e hnm
        go_wp2_with fail
        refine Calls.mono HT.out ?_
        rintro e wt ⟨rfl, hbt⟩
        have HBT := kide (HB.out.trans (hbt.mono HB.out.size))
        clear hbt
        by_cases hq : Q ≤ 20000
        · have HR2 : Hid (dclR ds = decide ((ds.map Prod.fst).Nodup)) := by
            show _ = _
            rw [HR.out, decide_eq_true hq]; rfl
          go_wp2_with (go_at_call 119; refine Calls.mono (HP.out _ HBT.out) ?_; rintro e w1 ⟨rfl, ⟨D, hown, hpl⟩, hb1⟩; have hml := fun ty => hown.len Tryz.underlying155 ty; have HD : Hid (decide ((ds.map Prod.fst).Nodup) = decide (Maps.size D = ds.length)) := (by show _ = _; rw [Bool.eq_iff_iff, decide_eq_true_eq, decide_eq_true_eq, ← hpl.nodup, List.length_map]); have hle := hpl.le; rw [List.length_map] at hle; clear hown hpl; generalize Maps.size D = n at *)
          go_ret
          exact ⟨ret_bool (by rw [HR2.out, HD.out, Bool.eq_iff_iff]; simp; omega), HBT.out.trans (hb1.mono HBT.out.size)⟩
        · have HR2 : Hid (dclR ds = false) := by
            show _ = _
            rw [HR.out, decide_eq_false hq]; rfl
          go_wp2_with fail
          go_ret
          exact ⟨ret_bool HR2.out.symm, HBT.out⟩
  · rw [dclR_long (by omega)]
    go_enter Tryz.func88, Tryz.ntmps88
    go_wp2_with fail
    go_ret
    exact ⟨rfl, Below.refl _ _⟩

end Go.Proofs.YtdlmgndmfphneaaGreatDoor

/- The given l3Form: has a node the fields that its op has? -/
namespace Go.Proofs.YtdlmgndmfphneaaGreatDoor
set_option linter.unusedVariables false
set_option linter.unusedSimpArgs false
open Go.RowKit

theorem l3One_any (op : Int) (w : World) :
    Calls Tryz.prog 82 #[.int .i64 op] w fun e w' => e = .returned (.bool (decide (4 ≤ op ∧ op ≤ 9))) ∧ w' = w := by
  have HL := kide (l1In_any op 4 9 w)
  generalize decide (4 ≤ op ∧ op ≤ 9) = V at *
  go_enter Tryz.func82, Tryz.ntmps82
  go_wp2_with fail
  refine Calls.mono HL.out ?_
  rintro e w' ⟨rfl, rfl⟩
  go_wp2_with fail
  go_ret
  exact ⟨rfl, rfl⟩

/-- The fields are those of the op. -/
def fieldR (n : Tc) : Bool := !(n.op != 1 && n.vr != 0 || n.op != 2 && !(decide (n.bw = 0) && decide (n.ws.length = 0)) || n.op != 4 && n.b != 0 || !decide (4 ≤ n.op ∧ n.op ≤ 9) && n.a != 0)

/-- .. and as many kids as it wants. -/
def manyR (nd : Nat) (n : Tc) : Bool :=
  if n.op = 1 then decide (n.ks.length = 0) && decide (0 ≤ n.vr ∧ n.vr ≤ (nd : Int) - 1)
  else if n.op = 2 then decide (n.ks.length = 0) && rightB n.bw n.ws
  else if n.op = 3 then decide (2 ≤ n.ks.length)
  else if 4 ≤ n.op ∧ n.op ≤ 9 then decide (n.ks.length = 1)
  else false

def kidsR (at' : Nat) (ks : List Int) : Bool := ks.all (fun k => decide (0 ≤ k ∧ k ≤ (at' : Int) - 1))

set_option maxHeartbeats 1000000 in
theorem l3Form_any (a : Option Addr) (nd c at' : Nat) (n : Tc) (wa ka : Option Addr) (wc kc : Nat) (w : World) (hw : Rd w wa n.ws) (hk : RdI w ka n.ks) (hat : at' ≤ 1048576) (hnd : nd ≤ 1048576) :
    Calls Tryz.prog 41 #[.slice a nd c, .agg #[.int .i64 n.op, .int .i64 n.vr, .int .i64 n.a, .int .i64 n.b, .int .i64 n.bw, .slice wa n.ws.length wc, .slice ka n.ks.length kc], .int .i64 (at' : Int)] w fun e w' => e = .returned (.bool (kidsR at' n.ks && fieldR n && manyR nd n)) ∧ Below w.heap.size w w' := by
  generalize hZ : (kidsR at' n.ks && fieldR n && manyR nd n) = Z
  have HZ := kide hZ
  clear hZ
  obtain ⟨op, vr, A, B, bw, ws, ks⟩ := n
  simp only [] at hw hk ⊢
  have hb0 : Below w.heap.size w (w.alloc (Obj.cells #[Value.int .i64 op, Value.int .i64 vr, Value.int .i64 A, Value.int .i64 B, Value.int .i64 bw, Value.slice wa ws.length wc, Value.slice ka ks.length kc] 63)) := (Below.refl _ _).alloc (Nat.le_refl _) _
  have HW := kide (fun u (hu : Below w.heap.size w u) => hw.later hu)
  have HK := kide (hk.later hb0)
  have hl := hk.1
  have HWL := kide hw.1
  have B0 := kide hb0
  clear hw hk hb0
  go_enter Tryz.func41, Tryz.ntmps41
  go_wp2_with fail
  have c0 : (w.alloc (Obj.cells #[Value.int .i64 op, Value.int .i64 vr, Value.int .i64 A, Value.int .i64 B, Value.int .i64 bw, Value.slice wa ws.length wc, Value.slice ka ks.length kc] 63)).cell? ⟨w.heap.size, 0, none⟩ = some (.int .i64 op) := by simp [go_sem]
  have c1 : (w.alloc (Obj.cells #[Value.int .i64 op, Value.int .i64 vr, Value.int .i64 A, Value.int .i64 B, Value.int .i64 bw, Value.slice wa ws.length wc, Value.slice ka ks.length kc] 63)).cell? ⟨w.heap.size, 1, none⟩ = some (.int .i64 vr) := by simp [go_sem]
  have c2 : (w.alloc (Obj.cells #[Value.int .i64 op, Value.int .i64 vr, Value.int .i64 A, Value.int .i64 B, Value.int .i64 bw, Value.slice wa ws.length wc, Value.slice ka ks.length kc] 63)).cell? ⟨w.heap.size, 2, none⟩ = some (.int .i64 A) := by simp [go_sem]
  have c3 : (w.alloc (Obj.cells #[Value.int .i64 op, Value.int .i64 vr, Value.int .i64 A, Value.int .i64 B, Value.int .i64 bw, Value.slice wa ws.length wc, Value.slice ka ks.length kc] 63)).cell? ⟨w.heap.size, 3, none⟩ = some (.int .i64 B) := by simp [go_sem]
  have c4 : (w.alloc (Obj.cells #[Value.int .i64 op, Value.int .i64 vr, Value.int .i64 A, Value.int .i64 B, Value.int .i64 bw, Value.slice wa ws.length wc, Value.slice ka ks.length kc] 63)).cell? ⟨w.heap.size, 4, none⟩ = some (.int .i64 bw) := by simp [go_sem]
  have c5 : (w.alloc (Obj.cells #[Value.int .i64 op, Value.int .i64 vr, Value.int .i64 A, Value.int .i64 B, Value.int .i64 bw, Value.slice wa ws.length wc, Value.slice ka ks.length kc] 63)).cell? ⟨w.heap.size, 5, none⟩ = some (.slice wa ws.length wc) := by simp [go_sem]
  have c6 : (w.alloc (Obj.cells #[Value.int .i64 op, Value.int .i64 vr, Value.int .i64 A, Value.int .i64 B, Value.int .i64 bw, Value.slice wa ws.length wc, Value.slice ka ks.length kc] 63)).cell? ⟨w.heap.size, 6, none⟩ = some (.slice ka ks.length kc) := by simp [go_sem]
  generalize (w.alloc (Obj.cells #[Value.int .i64 op, Value.int .i64 vr, Value.int .i64 A, Value.int .i64 B, Value.int .i64 bw, Value.slice wa ws.length wc, Value.slice ka ks.length kc] 63)) = w0 at *
  go_loopw [7] (fun i wr => ∃ k : Nat, k ≤ ks.length ∧ i = .int .i64 k ∧ kidsR at' (ks.take k) = true ∧ wr = w0) (fun i _ => ks.length - (intOf i).toNat)
  case atStart => exact ⟨0, Nat.zero_le _, rfl, by simp [kidsR], rfl⟩
  case round =>
    obtain ⟨k, hk, rfl, hkr, rfl⟩ := hrel
    have HKR := kide hkr
    clear hkr
    by_cases hlt : k < ks.length
    · obtain ⟨hl1, hin, h | ⟨b, o, rfl, hc⟩⟩ := HK.out
      · subst h; simp at hlt
      have g0 := hc k hlt
      have HIN := kide hin
      clear hin hc HK
      have hgk : ks[k]? = some (ks.getD k 0) := by simp [List.getD, hlt]
      have HGK := kide hgk
      clear hgk
      generalize ks.getD k 0 = y at *
      by_cases hy : 0 ≤ y ∧ y ≤ (at' : Int) - 1
      · have HL := kide (fun u => l1In_any y 0 ((at' : Int) - 1) u)
        rw [decide_eq_true hy] at HL
        go_wp2_with (go_at_call 24; refine Calls.mono (HL.out _) ?_; rintro e w1 ⟨rfl, rfl⟩)
        go_roundw
        case rel =>
          refine ⟨k + 1, by omega, by go_num, ?_, by first | rfl | trivial⟩
          rw [List.take_add_one, HGK.out, kidsR, List.all_append]
          have := HKR.out
          rw [kidsR] at this
          rw [this]
          simp
          omega
        case measure => simp [intOf]; omega
      · have HL := kide (fun u => l1In_any y 0 ((at' : Int) - 1) u)
        rw [decide_eq_false hy] at HL
        have HY := kide hy
        clear hy
        go_wp2_with (go_at_call 24; refine Calls.mono (HL.out _) ?_; rintro e w1 ⟨rfl, rfl⟩)
        go_ret
        refine ⟨ret_bool ?_, B0.out⟩
        have hf : kidsR at' ks = false := by
          rw [kidsR, List.all_eq_false]
          exact ⟨y, List.mem_of_getElem? HGK.out, by simpa using HY.out⟩
        have hZ := HZ.out
        simp only [hf, Bool.false_and] at hZ
        exact hZ
    · have e : k = ks.length := by omega
      subst e
      have hZ : (fieldR ⟨op, vr, A, B, bw, ws, ks⟩ && manyR nd ⟨op, vr, A, B, bw, ws, ks⟩) = Z := by
        have hK := HKR.out
        rw [List.take_length] at hK
        have h := HZ.out
        simp only [hK, Bool.true_and] at h
        exact h
      have HZ2 := kide hZ
      clear hZ HZ HKR hlt hk
      have hlw : w.heap.size < wr.heap.size := block_lt_of_cell c0
      have HNB := kide (fun u => l3NoBits_any bw wa ws.length wc u HWL.out)
      have HOK := kide (fun u hu => specOk_any bw wa wc ws u (HW.out u hu))
      have HLI := kide (fun u => l1In_any vr 0 ((nd : Int) - 1) u)
      obtain ⟨NV, hnv⟩ : ∃ v, v = (decide (bw = 0) && decide (ws.length = 0)) := ⟨_, rfl⟩
      obtain ⟨LV, hlv⟩ : ∃ v, v = decide (0 ≤ vr ∧ vr ≤ (nd : Int) - 1) := ⟨_, rfl⟩
      obtain ⟨OV, hov⟩ : ∃ v, v = rightB bw ws := ⟨_, rfl⟩
      rw [← hnv] at HNB
      rw [← hlv] at HLI
      rw [← hov] at HOK
      have HF := kide (And.intro hnv (And.intro hlv hov))
      clear hnv hlv hov
      rcases (show op = 1 ∨ op = 2 ∨ op = 3 ∨ op = 4 ∨ (5 ≤ op ∧ op ≤ 9) ∨ (op < 1 ∨ 9 < op) by omega) with rfl | rfl | rfl | rfl | ⟨g1, g2⟩ | g1
      · have HO1 := kide (fun u => l3One_any 1 u)
        rw [show decide ((4 : Int) ≤ 1 ∧ (1 : Int) ≤ 9) = false by decide] at HO1
        cases NV
        all_goals
          go_wp2_with (first
            | (go_at_call 81; refine Calls.mono (HNB.out _) ?_; rintro e wq ⟨rfl, hbq⟩; have k0 := kcell hbq w.heap.size 0 hlw; have k1 := kcell hbq w.heap.size 1 hlw; have k2 := kcell hbq w.heap.size 2 hlw; have k3 := kcell hbq w.heap.size 3 hlw; have k4 := kcell hbq w.heap.size 4 hlw; have k5 := kcell hbq w.heap.size 5 hlw; have k6 := kcell hbq w.heap.size 6 hlw; have BQ := kide (B0.out.trans (hbq.mono B0.out.size)); clear hbq)
            | (go_at_call 82; refine Calls.mono (HO1.out _) ?_; rintro e wx ⟨rfl, rfl⟩)
            | (go_at_call 24; refine Calls.mono (HLI.out _) ?_; rintro e wx ⟨rfl, rfl⟩)
            | (go_at_call 83; refine Calls.mono (HOK.out _ (by first | exact BQ.out | exact B0.out)) ?_; rintro e wx ⟨rfl, hbx⟩; have BX := kide (Below.trans (by first | exact BQ.out | exact B0.out) (hbx.mono (by first | exact BQ.out.size | exact B0.out.size))); clear hbx))
          all_goals go_ret
          all_goals refine ⟨ret_bool ?_, (by first | exact BX.out | exact BQ.out | exact B0.out)⟩
          all_goals (have h := HZ2.out; obtain ⟨f1, f2, f3⟩ := HF.out; simp only [fieldR, manyR] at h; rw [← f1] at h; try rw [← f2] at h
                     try rw [← f3] at h
                     clear f1 f2 f3 HZ2 HF HNB HOK HLI HO1 B0 HW HK HWL; rw [← h]; clear h; cases hB : (B != 0) <;> cases hA : (A != 0) <;> cases hV : (vr != 0) <;> simp_all <;> first | omega | (rw [Bool.eq_iff_iff]; simp; omega))
      · have HO1 := kide (fun u => l3One_any 2 u)
        rw [show decide ((4 : Int) ≤ 2 ∧ (2 : Int) ≤ 9) = false by decide] at HO1
        cases NV
        all_goals
          go_wp2_with (first
            | (go_at_call 81; refine Calls.mono (HNB.out _) ?_; rintro e wq ⟨rfl, hbq⟩; have k0 := kcell hbq w.heap.size 0 hlw; have k1 := kcell hbq w.heap.size 1 hlw; have k2 := kcell hbq w.heap.size 2 hlw; have k3 := kcell hbq w.heap.size 3 hlw; have k4 := kcell hbq w.heap.size 4 hlw; have k5 := kcell hbq w.heap.size 5 hlw; have k6 := kcell hbq w.heap.size 6 hlw; have BQ := kide (B0.out.trans (hbq.mono B0.out.size)); clear hbq)
            | (go_at_call 82; refine Calls.mono (HO1.out _) ?_; rintro e wx ⟨rfl, rfl⟩)
            | (go_at_call 24; refine Calls.mono (HLI.out _) ?_; rintro e wx ⟨rfl, rfl⟩)
            | (go_at_call 83; refine Calls.mono (HOK.out _ (by first | exact BQ.out | exact B0.out)) ?_; rintro e wx ⟨rfl, hbx⟩; have BX := kide (Below.trans (by first | exact BQ.out | exact B0.out) (hbx.mono (by first | exact BQ.out.size | exact B0.out.size))); clear hbx))
          all_goals go_ret
          all_goals refine ⟨ret_bool ?_, (by first | exact BX.out | exact BQ.out | exact B0.out)⟩
          all_goals (have h := HZ2.out; obtain ⟨f1, f2, f3⟩ := HF.out; simp only [fieldR, manyR] at h; rw [← f1] at h; try rw [← f2] at h
                     try rw [← f3] at h
                     clear f1 f2 f3 HZ2 HF HNB HOK HLI HO1 B0 HW HK HWL; rw [← h]; clear h; cases hB : (B != 0) <;> cases hA : (A != 0) <;> cases hV : (vr != 0) <;> simp_all <;> first | omega | (rw [Bool.eq_iff_iff]; simp; omega))
      · have HO1 := kide (fun u => l3One_any 3 u)
        rw [show decide ((4 : Int) ≤ 3 ∧ (3 : Int) ≤ 9) = false by decide] at HO1
        cases NV
        all_goals
          go_wp2_with (first
            | (go_at_call 81; refine Calls.mono (HNB.out _) ?_; rintro e wq ⟨rfl, hbq⟩; have k0 := kcell hbq w.heap.size 0 hlw; have k1 := kcell hbq w.heap.size 1 hlw; have k2 := kcell hbq w.heap.size 2 hlw; have k3 := kcell hbq w.heap.size 3 hlw; have k4 := kcell hbq w.heap.size 4 hlw; have k5 := kcell hbq w.heap.size 5 hlw; have k6 := kcell hbq w.heap.size 6 hlw; have BQ := kide (B0.out.trans (hbq.mono B0.out.size)); clear hbq)
            | (go_at_call 82; refine Calls.mono (HO1.out _) ?_; rintro e wx ⟨rfl, rfl⟩)
            | (go_at_call 24; refine Calls.mono (HLI.out _) ?_; rintro e wx ⟨rfl, rfl⟩)
            | (go_at_call 83; refine Calls.mono (HOK.out _ (by first | exact BQ.out | exact B0.out)) ?_; rintro e wx ⟨rfl, hbx⟩; have BX := kide (Below.trans (by first | exact BQ.out | exact B0.out) (hbx.mono (by first | exact BQ.out.size | exact B0.out.size))); clear hbx))
          all_goals go_ret
          all_goals refine ⟨ret_bool ?_, (by first | exact BX.out | exact BQ.out | exact B0.out)⟩
          all_goals (have h := HZ2.out; obtain ⟨f1, f2, f3⟩ := HF.out; simp only [fieldR, manyR] at h; rw [← f1] at h; try rw [← f2] at h
                     try rw [← f3] at h
                     clear f1 f2 f3 HZ2 HF HNB HOK HLI HO1 B0 HW HK HWL; rw [← h]; clear h; cases hB : (B != 0) <;> cases hA : (A != 0) <;> cases hV : (vr != 0) <;> simp_all <;> first | omega | (rw [Bool.eq_iff_iff]; simp; omega))
      · have HO1 := kide (fun u => l3One_any 4 u)
        rw [show decide ((4 : Int) ≤ 4 ∧ (4 : Int) ≤ 9) = true by decide] at HO1
        cases NV
        all_goals
          go_wp2_with (first
            | (go_at_call 81; refine Calls.mono (HNB.out _) ?_; rintro e wq ⟨rfl, hbq⟩; have k0 := kcell hbq w.heap.size 0 hlw; have k1 := kcell hbq w.heap.size 1 hlw; have k2 := kcell hbq w.heap.size 2 hlw; have k3 := kcell hbq w.heap.size 3 hlw; have k4 := kcell hbq w.heap.size 4 hlw; have k5 := kcell hbq w.heap.size 5 hlw; have k6 := kcell hbq w.heap.size 6 hlw; have BQ := kide (B0.out.trans (hbq.mono B0.out.size)); clear hbq)
            | (go_at_call 82; refine Calls.mono (HO1.out _) ?_; rintro e wx ⟨rfl, rfl⟩)
            | (go_at_call 24; refine Calls.mono (HLI.out _) ?_; rintro e wx ⟨rfl, rfl⟩)
            | (go_at_call 83; refine Calls.mono (HOK.out _ (by first | exact BQ.out | exact B0.out)) ?_; rintro e wx ⟨rfl, hbx⟩; have BX := kide (Below.trans (by first | exact BQ.out | exact B0.out) (hbx.mono (by first | exact BQ.out.size | exact B0.out.size))); clear hbx))
          all_goals go_ret
          all_goals refine ⟨ret_bool ?_, (by first | exact BX.out | exact BQ.out | exact B0.out)⟩
          all_goals (have h := HZ2.out; obtain ⟨f1, f2, f3⟩ := HF.out; simp only [fieldR, manyR] at h; rw [← f1] at h; try rw [← f2] at h
                     try rw [← f3] at h
                     clear f1 f2 f3 HZ2 HF HNB HOK HLI HO1 B0 HW HK HWL; rw [← h]; clear h; cases hB : (B != 0) <;> cases hA : (A != 0) <;> cases hV : (vr != 0) <;> simp_all <;> first | omega | (rw [Bool.eq_iff_iff]; simp; omega))
      · have HO1 := kide (fun u => l3One_any op u)
        rw [show decide ((4 : Int) ≤ op ∧ op ≤ 9) = true by simp; omega] at HO1
        have n1 : (op != 1) = true := by simp; omega
        have n2 : (op != 2) = true := by simp; omega
        have n4 : (op != 4) = true := by simp; omega
        have m1 : (op == 1) = false := by simp; omega
        have m2 : (op == 2) = false := by simp; omega
        have m3 : (op == 3) = false := by simp; omega
        cases NV
        all_goals
          go_wp2_with (first
            | (go_at_call 81; refine Calls.mono (HNB.out _) ?_; rintro e wq ⟨rfl, hbq⟩; have k0 := kcell hbq w.heap.size 0 hlw; have k1 := kcell hbq w.heap.size 1 hlw; have k2 := kcell hbq w.heap.size 2 hlw; have k3 := kcell hbq w.heap.size 3 hlw; have k4 := kcell hbq w.heap.size 4 hlw; have k5 := kcell hbq w.heap.size 5 hlw; have k6 := kcell hbq w.heap.size 6 hlw; have BQ := kide (B0.out.trans (hbq.mono B0.out.size)); clear hbq)
            | (go_at_call 82; refine Calls.mono (HO1.out _) ?_; rintro e wx ⟨rfl, rfl⟩)
            | (go_at_call 24; refine Calls.mono (HLI.out _) ?_; rintro e wx ⟨rfl, rfl⟩)
            | (go_at_call 83; refine Calls.mono (HOK.out _ (by first | exact BQ.out | exact B0.out)) ?_; rintro e wx ⟨rfl, hbx⟩; have BX := kide (Below.trans (by first | exact BQ.out | exact B0.out) (hbx.mono (by first | exact BQ.out.size | exact B0.out.size))); clear hbx))
          all_goals go_ret
          all_goals refine ⟨ret_bool ?_, (by first | exact BX.out | exact BQ.out | exact B0.out)⟩
          all_goals (have h := HZ2.out; obtain ⟨f1, f2, f3⟩ := HF.out; simp only [fieldR, manyR] at h; rw [← f1] at h; try rw [← f2] at h
                     try rw [← f3] at h
                     clear f1 f2 f3 HZ2 HF HNB HOK HLI HO1 B0 HW HK HWL; rw [← h]; clear h; cases hB : (B != 0) <;> cases hA : (A != 0) <;> cases hV : (vr != 0) <;> simp_all <;> first | omega | (rw [Bool.eq_iff_iff]; simp; omega))
      · have HO1 := kide (fun u => l3One_any op u)
        rw [show decide ((4 : Int) ≤ op ∧ op ≤ 9) = false by simp; omega] at HO1
        have n1 : (op != 1) = true := by simp; omega
        have n2 : (op != 2) = true := by simp; omega
        have n4 : (op != 4) = true := by simp; omega
        have m1 : (op == 1) = false := by simp; omega
        have m2 : (op == 2) = false := by simp; omega
        have m3 : (op == 3) = false := by simp; omega
        cases NV
        all_goals
          go_wp2_with (first
            | (go_at_call 81; refine Calls.mono (HNB.out _) ?_; rintro e wq ⟨rfl, hbq⟩; have k0 := kcell hbq w.heap.size 0 hlw; have k1 := kcell hbq w.heap.size 1 hlw; have k2 := kcell hbq w.heap.size 2 hlw; have k3 := kcell hbq w.heap.size 3 hlw; have k4 := kcell hbq w.heap.size 4 hlw; have k5 := kcell hbq w.heap.size 5 hlw; have k6 := kcell hbq w.heap.size 6 hlw; have BQ := kide (B0.out.trans (hbq.mono B0.out.size)); clear hbq)
            | (go_at_call 82; refine Calls.mono (HO1.out _) ?_; rintro e wx ⟨rfl, rfl⟩)
            | (go_at_call 24; refine Calls.mono (HLI.out _) ?_; rintro e wx ⟨rfl, rfl⟩)
            | (go_at_call 83; refine Calls.mono (HOK.out _ (by first | exact BQ.out | exact B0.out)) ?_; rintro e wx ⟨rfl, hbx⟩; have BX := kide (Below.trans (by first | exact BQ.out | exact B0.out) (hbx.mono (by first | exact BQ.out.size | exact B0.out.size))); clear hbx))
          all_goals go_ret
          all_goals refine ⟨ret_bool ?_, (by first | exact BX.out | exact BQ.out | exact B0.out)⟩
          all_goals (have h := HZ2.out; obtain ⟨f1, f2, f3⟩ := HF.out; simp only [fieldR, manyR] at h; rw [← f1] at h; try rw [← f2] at h
                     try rw [← f3] at h
                     clear f1 f2 f3 HZ2 HF HNB HOK HLI HO1 B0 HW HK HWL; rw [← h]; clear h; cases hB : (B != 0) <;> cases hA : (A != 0) <;> cases hV : (vr != 0) <;> simp_all <;> first | omega | (rw [Bool.eq_iff_iff]; simp; omega))

end Go.Proofs.YtdlmgndmfphneaaGreatDoor

/- The given l3Wide: the width of a node by those of its kids. -/
namespace Go.Proofs.YtdlmgndmfphneaaGreatDoor
set_option linter.unusedVariables false
set_option linter.unusedSimpArgs false
open Go.RowKit

/-- The sum of the kids' widths, cut at 8192. -/
def sumR (wide : List Int) : List Int → Int → Int
  | [], s => s
  | k :: t, s => sumR wide t (min 8192 (s + wide.getD k.toNat 0))

/-- The width of a node; -1: its bounds are not kept. -/
def wideR (ds : List Dc) (n : Tc) (s : Int) : Int :=
  if n.op = 1 then (ds.getD n.vr.toNat (.empty, 0)).2
  else if n.op = 2 then n.bw
  else if n.op = 4 then (if n.b < 0 ∨ n.a < n.b ∨ s ≤ n.a then -1 else n.a - n.b + 1)
  else if n.op = 5 ∨ n.op = 6 then (if 0 ≤ n.a ∧ n.a ≤ 4096 then s + n.a else -1)
  else if n.op = 7 ∨ n.op = 8 then (if 0 ≤ n.a ∧ n.a ≤ 4096 then s else -1)
  else if n.op = 9 then (if 1 ≤ n.a ∧ n.a ≤ 4096 then s * n.a else -1)
  else s

theorem sumR_range (wide : List Int) (ks : List Int) (s : Int) (hw : ∀ x ∈ wide, 1 ≤ x ∧ x ≤ 4096) (h0 : 0 ≤ s) (h1 : s ≤ 8192) : 0 ≤ sumR wide ks s ∧ sumR wide ks s ≤ 8192 := by
  induction ks generalizing s with
  | nil => exact ⟨h0, h1⟩
  | cons k t ih =>
    rw [sumR]
    have hx : 0 ≤ wide.getD k.toNat 0 := by
      rw [List.getD]
      cases h : wide[k.toNat]? with
      | none => simp
      | some x => have := hw x (List.mem_of_getElem? h); simp; omega
    exact ih _ (by omega) (by omega)

set_option maxHeartbeats 1000000 in
theorem l3Wide_any (a : Option Addr) (c : Nat) (ds : List Dc) (n : Tc) (wa ka ya : Option Addr) (wc kc yc : Nat) (wide : List Int) (w : World) (hr : RdD w a ds) (hw : Rd w wa n.ws) (hk : RdI w ka n.ks) (hy : RdI w ya wide)
    (hwd : ∀ x ∈ wide, 1 ≤ x ∧ x ≤ 4096) (hkr : kidsR wide.length n.ks = true) (hv : n.op = 1 → 0 ≤ n.vr ∧ n.vr ≤ (ds.length : Int) - 1) (hA : in64 n.a) (hB : in64 n.b) :
    Calls Tryz.prog 42 #[.slice a ds.length c, .agg #[.int .i64 n.op, .int .i64 n.vr, .int .i64 n.a, .int .i64 n.b, .int .i64 n.bw, .slice wa n.ws.length wc, .slice ka n.ks.length kc], .slice ya wide.length yc] w fun e w' => e = .returned (.int .i64 (wideR ds n (sumR wide n.ks 0))) ∧ Below w.heap.size w w' := by
  obtain ⟨op, vr, A, B, bw, ws, ks⟩ := n
  simp only [] at hw hk hkr hv hA hB ⊢
  generalize hZ : wideR ds ⟨op, vr, A, B, bw, ws, ks⟩ (sumR wide ks 0) = Z
  have HZ := kide hZ
  clear hZ
  have hb0 : Below w.heap.size w (w.alloc (Obj.cells #[Value.int .i64 op, Value.int .i64 vr, Value.int .i64 A, Value.int .i64 B, Value.int .i64 bw, Value.slice wa ws.length wc, Value.slice ka ks.length kc] 63)) := (Below.refl _ _).alloc (Nat.le_refl _) _
  have HK := kide (hk.later hb0)
  have HY := kide (hy.later hb0)
  have HR := kide (hr.later hb0)
  have hl := hk.1
  have hl2 := hy.1
  have hl3 := hr.1
  have B0 := kide hb0
  have HKR := kide hkr
  have HV := kide hv
  have HWD := kide hwd
  clear hw hk hb0 hr hy hkr hv hwd
  go_enter Tryz.func42, Tryz.ntmps42
  go_wp2_with fail
  have c0 : (w.alloc (Obj.cells #[Value.int .i64 op, Value.int .i64 vr, Value.int .i64 A, Value.int .i64 B, Value.int .i64 bw, Value.slice wa ws.length wc, Value.slice ka ks.length kc] 63)).cell? ⟨w.heap.size, 0, none⟩ = some (.int .i64 op) := by simp [go_sem]
  have c1 : (w.alloc (Obj.cells #[Value.int .i64 op, Value.int .i64 vr, Value.int .i64 A, Value.int .i64 B, Value.int .i64 bw, Value.slice wa ws.length wc, Value.slice ka ks.length kc] 63)).cell? ⟨w.heap.size, 1, none⟩ = some (.int .i64 vr) := by simp [go_sem]
  have c2 : (w.alloc (Obj.cells #[Value.int .i64 op, Value.int .i64 vr, Value.int .i64 A, Value.int .i64 B, Value.int .i64 bw, Value.slice wa ws.length wc, Value.slice ka ks.length kc] 63)).cell? ⟨w.heap.size, 2, none⟩ = some (.int .i64 A) := by simp [go_sem]
  have c3 : (w.alloc (Obj.cells #[Value.int .i64 op, Value.int .i64 vr, Value.int .i64 A, Value.int .i64 B, Value.int .i64 bw, Value.slice wa ws.length wc, Value.slice ka ks.length kc] 63)).cell? ⟨w.heap.size, 3, none⟩ = some (.int .i64 B) := by simp [go_sem]
  have c4 : (w.alloc (Obj.cells #[Value.int .i64 op, Value.int .i64 vr, Value.int .i64 A, Value.int .i64 B, Value.int .i64 bw, Value.slice wa ws.length wc, Value.slice ka ks.length kc] 63)).cell? ⟨w.heap.size, 4, none⟩ = some (.int .i64 bw) := by simp [go_sem]
  have c5 : (w.alloc (Obj.cells #[Value.int .i64 op, Value.int .i64 vr, Value.int .i64 A, Value.int .i64 B, Value.int .i64 bw, Value.slice wa ws.length wc, Value.slice ka ks.length kc] 63)).cell? ⟨w.heap.size, 5, none⟩ = some (.slice wa ws.length wc) := by simp [go_sem]
  have c6 : (w.alloc (Obj.cells #[Value.int .i64 op, Value.int .i64 vr, Value.int .i64 A, Value.int .i64 B, Value.int .i64 bw, Value.slice wa ws.length wc, Value.slice ka ks.length kc] 63)).cell? ⟨w.heap.size, 6, none⟩ = some (.slice ka ks.length kc) := by simp [go_sem]
  generalize (w.alloc (Obj.cells #[Value.int .i64 op, Value.int .i64 vr, Value.int .i64 A, Value.int .i64 B, Value.int .i64 bw, Value.slice wa ws.length wc, Value.slice ka ks.length kc] 63)) = w0 at *
  have hs0 := sumR_range wide ks 0 HWD.out (by omega) (by omega)
  generalize hSS : sumR wide ks 0 = SS at *
  have HSS := kide hSS
  clear hSS
  go_loopw [7, 8] (fun q i wr => ∃ (k : Nat) (S : Int), k ≤ ks.length ∧ i = .int .i64 k ∧ q = .int .i64 S ∧ 0 ≤ S ∧ S ≤ 8192 ∧ sumR wide (ks.drop k) S = SS ∧ wr = w0) (fun _ i _ => ks.length - (intOf i).toNat)
  case atStart => exact ⟨0, 0, Nat.zero_le _, rfl, rfl, by omega, by omega, by rw [List.drop_zero]; exact HSS.out, rfl⟩
  case round =>
    obtain ⟨k, S, hk, rfl, rfl, hS0, hS1, hq, rfl⟩ := hrel
    have HQ := kide hq
    clear hq HSS
    by_cases hlt : k < ks.length
    · obtain ⟨-, -, h | ⟨b, o, rfl, hc⟩⟩ := HK.out
      · subst h; simp at hlt
      have g0 := hc k hlt
      clear hc HK
      have hgk : ks[k] = ks.getD k 0 := by simp [List.getD, hlt]
      have HGK := kide hgk
      have hmem : ks.getD k 0 ∈ ks := by rw [← hgk]; exact List.getElem_mem hlt
      clear hgk
      generalize ks.getD k 0 = y at *
      have hy := HKR.out
      rw [kidsR, List.all_eq_true] at hy
      have hy2 := hy y hmem
      clear hy hmem
      simp at hy2
      obtain ⟨m, rfl⟩ : ∃ m : Nat, y = (m : Int) := ⟨y.toNat, by omega⟩
      have hm : m < wide.length := by omega
      clear hy2
      obtain ⟨-, -, h | ⟨b', o', rfl, hc'⟩⟩ := HY.out
      · subst h; simp at hm
      have g1 := hc' m hm
      clear hc' HY
      have hxm : wide.getD m 0 ∈ wide := by
        have : wide.getD m 0 = wide[m] := by simp [List.getD, hm]
        rw [this]; exact List.getElem_mem hm
      have hx := HWD.out _ hxm
      clear hxm
      have hst : sumR wide (ks.drop (k + 1)) (min 8192 (S + wide.getD m 0)) = SS := by
        have h := HQ.out
        rw [List.drop_eq_getElem_cons hlt, HGK.out, sumR, Int.toNat_natCast] at h
        exact h
      generalize wide.getD m 0 = x at *
      have HST := kide hst
      have i0 : (k : Int) < (ks.length : Int) := by omega
      clear hst HQ HGK
      go_wp2_with fail
      go_roundw
      case rel => exact ⟨k + 1, _, by omega, by go_num, rfl, by omega, by omega, HST.out, by first | rfl | trivial⟩
      case measure => simp [intOf]; omega
    · have e : k = ks.length := by omega
      subst e
      have hSe : S = SS := by
        have h := HQ.out
        rw [List.drop_length, sumR] at h
        exact h
      subst hSe
      clear HQ hlt hk
      have HLI := kide (fun u => l1In_any A 0 4096 u)
      have HLJ := kide (fun u => l1In_any A 1 4096 u)
      rcases (show op = 1 ∨ op = 2 ∨ op = 4 ∨ op = 5 ∨ op = 6 ∨ op = 7 ∨ op = 8 ∨ op = 9 ∨ (op ≠ 1 ∧ op ≠ 2 ∧ op ≠ 4 ∧ op ≠ 5 ∧ op ≠ 6 ∧ op ≠ 7 ∧ op ≠ 8 ∧ op ≠ 9) by omega) with rfl | rfl | rfl | rfl | rfl | rfl | rfl | rfl | ⟨g1, g2, g4, g5, g6, g7, g8, g9⟩
      · have hv := HV.out rfl
        obtain ⟨m, rfl⟩ : ∃ m : Nat, vr = (m : Int) := ⟨vr.toNat, by omega⟩
        have hm : m < ds.length := by omega
        obtain ⟨-, -, h | ⟨b, o, rfl, hc⟩⟩ := HR.out
        · subst h; simp at hm
        have gd : ds[m]? = some (ds.getD m (.empty, 0)) := by simp [List.getD, hm]
        obtain ⟨g0, g1⟩ := hc m _ gd
        have hZ := HZ.out
        simp only [wideR, if_true, Int.toNat_natCast] at hZ
        generalize ds.getD m (.empty, 0) = d at *
        obtain ⟨dn, dw⟩ := d
        simp only [] at g0 g1 hZ
        subst hZ
        clear hc HR gd HV HZ hv
        go_wp2_with fail
        go_ret
        exact ⟨rfl, B0.out⟩
      · have hZ := HZ.out
        simp [wideR] at hZ
        subst hZ
        clear HZ HV
        go_wp2_with fail
        go_ret
        exact ⟨rfl, B0.out⟩
      · have hZ := HZ.out
        simp [wideR] at hZ
        have HZ2 := kide hZ
        clear HZ HV hZ
        go_wp2_with fail
        all_goals go_ret
        all_goals refine ⟨ret_int ?_, B0.out⟩
        all_goals (have h := HZ2.out; split at h <;> omega)
      · have hZ := HZ.out
        simp [wideR] at hZ
        have HZ2 := kide hZ
        clear HZ HV hZ
        by_cases hA2 : 0 ≤ A ∧ A ≤ 4096
        · rw [decide_eq_true hA2] at HLI
          have h := HZ2.out
          rw [if_pos hA2] at h
          subst h
          go_wp2_with (go_at_call 24; refine Calls.mono (HLI.out _) ?_; rintro e w1 ⟨rfl, rfl⟩)
          go_ret
          exact ⟨rfl, B0.out⟩
        · rw [decide_eq_false hA2] at HLI
          have h := HZ2.out
          rw [if_neg hA2] at h
          subst h
          go_wp2_with (go_at_call 24; refine Calls.mono (HLI.out _) ?_; rintro e w1 ⟨rfl, rfl⟩)
          go_ret
          exact ⟨rfl, B0.out⟩
      · have hZ := HZ.out
        simp [wideR] at hZ
        have HZ2 := kide hZ
        clear HZ HV hZ
        by_cases hA2 : 0 ≤ A ∧ A ≤ 4096
        · rw [decide_eq_true hA2] at HLI
          have h := HZ2.out
          rw [if_pos hA2] at h
          subst h
          go_wp2_with (go_at_call 24; refine Calls.mono (HLI.out _) ?_; rintro e w1 ⟨rfl, rfl⟩)
          go_ret
          exact ⟨rfl, B0.out⟩
        · rw [decide_eq_false hA2] at HLI
          have h := HZ2.out
          rw [if_neg hA2] at h
          subst h
          go_wp2_with (go_at_call 24; refine Calls.mono (HLI.out _) ?_; rintro e w1 ⟨rfl, rfl⟩)
          go_ret
          exact ⟨rfl, B0.out⟩
      · have hZ := HZ.out
        simp [wideR] at hZ
        have HZ2 := kide hZ
        clear HZ HV hZ
        by_cases hA2 : 0 ≤ A ∧ A ≤ 4096
        · rw [decide_eq_true hA2] at HLI
          have h := HZ2.out
          rw [if_pos hA2] at h
          subst h
          go_wp2_with (go_at_call 24; refine Calls.mono (HLI.out _) ?_; rintro e w1 ⟨rfl, rfl⟩)
          go_ret
          exact ⟨rfl, B0.out⟩
        · rw [decide_eq_false hA2] at HLI
          have h := HZ2.out
          rw [if_neg hA2] at h
          subst h
          go_wp2_with (go_at_call 24; refine Calls.mono (HLI.out _) ?_; rintro e w1 ⟨rfl, rfl⟩)
          go_ret
          exact ⟨rfl, B0.out⟩
      · have hZ := HZ.out
        simp [wideR] at hZ
        have HZ2 := kide hZ
        clear HZ HV hZ
        by_cases hA2 : 0 ≤ A ∧ A ≤ 4096
        · rw [decide_eq_true hA2] at HLI
          have h := HZ2.out
          rw [if_pos hA2] at h
          subst h
          go_wp2_with (go_at_call 24; refine Calls.mono (HLI.out _) ?_; rintro e w1 ⟨rfl, rfl⟩)
          go_ret
          exact ⟨rfl, B0.out⟩
        · rw [decide_eq_false hA2] at HLI
          have h := HZ2.out
          rw [if_neg hA2] at h
          subst h
          go_wp2_with (go_at_call 24; refine Calls.mono (HLI.out _) ?_; rintro e w1 ⟨rfl, rfl⟩)
          go_ret
          exact ⟨rfl, B0.out⟩
      · have hZ := HZ.out
        simp [wideR] at hZ
        have HZ2 := kide hZ
        clear HZ HV hZ
        by_cases hA2 : 1 ≤ A ∧ A ≤ 4096
        · rw [decide_eq_true hA2] at HLJ
          have h := HZ2.out
          rw [if_pos hA2] at h
          subst h
          first | (have hmul : 0 ≤ S * A ∧ S * A ≤ 33554432 := ⟨Int.mul_nonneg (by omega) (by omega), by have := Int.mul_le_mul hS1 hA2.2 (by omega) (by omega : (0 : Int) ≤ 8192); omega⟩) | skip
          go_wp2_with (go_at_call 24; refine Calls.mono (HLJ.out _) ?_; rintro e w1 ⟨rfl, rfl⟩)
          go_ret
          exact ⟨rfl, B0.out⟩
        · rw [decide_eq_false hA2] at HLJ
          have h := HZ2.out
          rw [if_neg hA2] at h
          subst h
          go_wp2_with (go_at_call 24; refine Calls.mono (HLJ.out _) ?_; rintro e w1 ⟨rfl, rfl⟩)
          go_ret
          exact ⟨rfl, B0.out⟩
      · have hZ := HZ.out
        simp [wideR, g1, g2, g4, g5, g6, g7, g8, g9] at hZ
        subst hZ
        have m1 : (op == 1) = false := by simp; omega
        have m2 : (op == 2) = false := by simp; omega
        have m4 : (op == 4) = false := by simp; omega
        have m5 : (op == 5) = false := by simp; omega
        have m6 : (op == 6) = false := by simp; omega
        have m7 : (op == 7) = false := by simp; omega
        have m8 : (op == 8) = false := by simp; omega
        have m9 : (op == 9) = false := by simp; omega
        clear HZ HV
        go_wp2_with fail
        go_ret
        exact ⟨rfl, B0.out⟩

end Go.Proofs.YtdlmgndmfphneaaGreatDoor

/- An owned row of whole numbers that grows; what the widths of a term are. -/
namespace Go.Proofs.YtdlmgndmfphneaaGreatDoor
set_option linter.unusedVariables false
set_option linter.unusedSimpArgs false
open Go.RowKit

/-- A row of whole numbers that is the owner's own. -/
def OW (w : World) (B : Nat) (v : Value) (xs : List Int) : Prop := w.ownsRow B 2 1 v xs.length (xs.map (Value.int .i64))

theorem OW.lt {w : World} {B : Nat} {v : Value} {xs : List Int} (h : OW w B v xs) {k : Nat} (hk : v.ownBlock = some k) : B ≤ k ∧ k < w.heap.size := World.ownsRow.lt h k hk

theorem OW.typed {w : World} {B : Nat} {v : Value} {xs : List Int} (h : OW w B v xs) {b : Nat} {cs : Array Value} {t : TypeId} {fr : Nat × Nat} (hb : w.heap[b]? = some (.cells cs t fr)) (ht : t ≠ 2) : some b ≠ v.ownBlock := fun hk => by
  rcases h.2 with ⟨rfl, -⟩ | ⟨g, cap, cur, rfl, hg, hh, -⟩
  · cases hk
  · cases hk
    rw [hb] at hh
    cases hh
    exact ht rfl

theorem OW.kept {w w' : World} {B : Nat} {v : Value} {xs : List Int} (h : OW w B v xs) {g : Option Nat} (hg : w.grownBy w' g) (hn : v.ownBlock = none ∨ v.ownBlock ≠ g) : OW w' B v xs := World.ownsRow.kept h hg (by
  rcases hn with hn | hn
  · exact .inl hn
  · exact .inr hn)

theorem OW.later {w w' : World} {B : Nat} {v : Value} {xs : List Int} (h : OW w B v xs) (hb : Below w.heap.size w w') : OW w' B v xs := World.ownsRow.kept (row := none) h ⟨hb.os, hb.tape, hb.output, hb.size, fun k hk _ => hb.block k hk⟩ (by
  cases h' : v.ownBlock with
  | none => exact .inl rfl
  | some k => exact .inr (by simp))

theorem OW.rd {w : World} {B : Nat} {v : Value} {xs : List Int} (h : OW w B v xs) (hl : xs.length ≤ 1048576) (hi : ∀ x ∈ xs, in64 x) : ∃ a c, v = .slice a xs.length c ∧ RdI w a xs := by
  have hcells := fun g hg => World.ownsRow.cells h (g := g) hg
  rcases h.2 with ⟨rfl, hn⟩ | ⟨g, cap, cur, rfl, -, -, -⟩
  · exact ⟨none, 0, by rw [hn], hl, hi, .inl (List.eq_nil_of_length_eq_zero hn)⟩
  · refine ⟨some ⟨g, 0, none⟩, cap, rfl, hl, hi, .inr ⟨g, 0, rfl, fun i hi' => ?_⟩⟩
    have c0 := hcells g rfl i (.int .i64 (xs.getD i 0)) (by simp [List.getD, hi'])
    rw [Addr.add_lit] at c0
    simpa using c0

theorem wpList_appW {w : World} {ops : Array Oper} {rest : List Oper} {o : Oper} {a : Act} {Q : Exit → Act → World → Prop} (hgd : o.guard = none) (s x : Operand)
    (ho : o.op = .call { callee := .builtin .append, args := #[s, x], argTypes := #[28, 28] })
    (B : Nat) (v : Value) (xs : List Int) (y : Int) (hs : a.eval s = v) (hown : OW w B v xs) (gx : Nat) (hx : a.eval x = .slice (some ⟨gx, 0, none⟩) 1 1)
    (h0 : w.cell? ⟨gx, 0, none⟩ = some (.int .i64 y)) (hl : xs.length ≤ 1073741824) (hB : B ≤ w.heap.size)
    (h : ∀ v' w', OW w' B v' (xs ++ [y]) → w.grownBy w' v.ownBlock → wpList Tryz.prog ops Q rest (a.put o.dst v') w') : wpList Tryz.prog ops Q (o :: rest) a w := by
  obtain ⟨i0, hi, hz0, hz1, hz2⟩ := info_parts Tryz.infoI64
  refine wpList_append_own_at w hgd s x 28 ho B 2 i0 _ 1 8 Tryz.underlying28 hi hz0 hz1 hz2 rfl (by decide) v xs.length (xs.map (Value.int .i64)) hs hown ⟨gx, 0, none⟩ 1 1 [.int .i64 y] hx rfl ?_ ?_ (by unfold maxLen; omega) (by omega) hB ?_
  · intro j u hj
    rw [Addr.add_lit]
    match j, hj with
    | 0, hj => simp at hj; subst hj; exact h0
    | j + 1, hj => simp at hj
  · intro u hu
    simp at hu
    subst hu
    rfl
  · intro v' w' ho' hg _ _
    refine h v' w' ?_ hg
    unfold OW
    rw [List.map_append, List.length_append]
    exact ho'

/-- The width of a node behind those whose widths are told; none: it is not right. -/
def stepR (ds : List Dc) (wide : List Int) (n : Tc) : Option Int :=
  if (kidsR wide.length n.ks && fieldR n && manyR ds.length n) = true then
    (if 1 ≤ wideR ds n (sumR wide n.ks 0) ∧ wideR ds n (sumR wide n.ks 0) ≤ 4096 then some (wideR ds n (sumR wide n.ks 0)) else none)
  else none

/-- .. of all, one behind the other. -/
def goR (ds : List Dc) : List Int → List Tc → Option (List Int)
  | wide, [] => some wide
  | wide, n :: t => match stepR ds wide n with
    | none => none
    | some v => goR ds (wide ++ [v]) t

def usedR (ns : List Tc) (i : Nat) : Bool := ns.any (fun n => n.ks.any (fun k => decide (k = (i : Int))))

/-- The widths of all nodes; nothing: the term is not right. -/
def widthsR (ds : List Dc) (ns : List Tc) : List Int :=
  if (dclR ds && decide (1 ≤ ns.length) && decide (ns.length ≤ 400)) = true then
    match goR ds [] ns with
    | none => []
    | some wide => if (List.range (ns.length - 1)).all (usedR ns) = true then wide else []
  else []

theorem goR_none {ds : List Dc} {wide : List Int} {ns : List Tc} {k : Nat} {n : Tc} (hk : ns[k]? = some n) (h : stepR ds wide n = none) : goR ds wide (ns.drop k) = none := by
  have l := (List.getElem?_eq_some_iff.1 hk).1
  rw [List.drop_eq_getElem_cons l, goR]
  rw [List.getElem?_eq_getElem l] at hk
  cases hk
  rw [h]

theorem goR_some {ds : List Dc} {wide : List Int} {ns : List Tc} {k : Nat} {n : Tc} {v : Int} (hk : ns[k]? = some n) (h : stepR ds wide n = some v) : goR ds wide (ns.drop k) = goR ds (wide ++ [v]) (ns.drop (k + 1)) := by
  have l := (List.getElem?_eq_some_iff.1 hk).1
  rw [List.drop_eq_getElem_cons l, goR]
  rw [List.getElem?_eq_getElem l] at hk
  cases hk
  rw [h]

theorem stepR_range {ds : List Dc} {wide : List Int} {n : Tc} {v : Int} (h : stepR ds wide n = some v) : 1 ≤ v ∧ v ≤ 4096 := by
  unfold stepR at h
  split at h
  · split at h
    · cases h; assumption
    · cases h
  · cases h

theorem stepR_kids {ds : List Dc} {wide : List Int} {n : Tc} {v : Int} (h : stepR ds wide n = some v) : (kidsR wide.length n.ks && fieldR n && manyR ds.length n) = true := by
  unfold stepR at h
  split at h
  · assumption
  · cases h

/-- A node of a variable that is as it should be names one. -/
theorem manyR_var {nd : Nat} {n : Tc} (h : manyR nd n = true) : n.op = 1 → 0 ≤ n.vr ∧ n.vr ≤ (nd : Int) - 1 := by
  intro e
  unfold manyR at h
  rw [if_pos e] at h
  simp at h
  omega

end Go.Proofs.YtdlmgndmfphneaaGreatDoor

/- The given l3Widths, where it refuses at once. (The rest, l3Widths_yes, goes on behind the same head: then hmk := run_make_row' of []bool, two allocs, the loop with slots wide 6, used 7, i 8: carry in a bundle the box and the empty row `none` as heap facts, the row of bools as rowIs U, wide as OW with base w1.heap.size.) -/
namespace Go.Proofs.YtdlmgndmfphneaaGreatDoor
set_option linter.unusedVariables false
set_option linter.unusedSimpArgs false
open Go.RowKit

theorem OW.fresh (w : World) (B : Nat) (hB : B ≤ w.heap.size) : OW (w.alloc (Obj.cells #[] 2)) B (.slice (some ⟨w.heap.size, 0, none⟩) 0 0) [] :=
  ⟨rfl, .inr ⟨w.heap.size, 0, #[], rfl, hB, heap_alloc_new _ _, Nat.le_refl _, by unfold maxLen; omega, rfl, rfl⟩⟩

theorem Tryz.infoBool : (Tryz.prog.info? 4).map (fun i => (i.zero, i.size, i.bytes)) = some (some (.bool false), 1, 1) := by kernel_rfl

set_option maxHeartbeats 1000000 in
theorem l3Widths_no (a b : Option Addr) (c c2 n : Nat) (ds : List Dc) (xs : List Tg) (w : World) (hr : RdD w a ds) (hs : RdT w b xs) (hn : xs.length = n) (hok : ¬ (dclR ds = true ∧ 1 ≤ n ∧ n ≤ 400)) :
    Calls Tryz.prog 23 #[.slice a ds.length c, .agg #[.slice b n c2]] w fun e w' => ∃ v, e = .returned v ∧ OW w' (w.heap.size + 1) v (widthsR ds (xs.map Tg.ct)) ∧ Below w.heap.size w w' := by
  have hl1 := hr.1
  have hl2 := hs.1
  rw [hn] at hl2
  have HR := kide hr
  have HS := kide hs
  have HN := kide hn
  have hb1 : Below w.heap.size w (w.alloc (Obj.cells #[Value.slice b n c2] 34)) := (Below.refl _ _).alloc (Nat.le_refl _) _
  have hb2 : Below w.heap.size w ((w.alloc (Obj.cells #[Value.slice b n c2] 34)).alloc (Obj.cells #[] 2)) := hb1.alloc (by simp) _
  have B2 := kide hb2
  have HDK := kide (fun u (hu : Below w.heap.size w u) => specDecls_any a c ds u (hr.later hu))
  generalize hZ : widthsR ds (xs.map Tg.ct) = Z
  have HZ := kide hZ
  clear hr hs hn hb1 hb2 hZ
  go_enter Tryz.func23, Tryz.ntmps23
  go_wp2_with fail
  refine Calls.mono (HDK.out _ B2.out) ?_
  rintro e w1 ⟨rfl, hb1⟩
  have c1 := kcell hb1 w.heap.size 0 (by simp; omega)
  have n1 : w1.heap[w.heap.size + 1]? = some (.cells #[] 2 (0, 0)) := by
    rw [hb1.block _ (by simp)]
    have h := heap_alloc_new (w.alloc (Obj.cells #[Value.slice b n c2] 34)) (Obj.cells #[] 2)
    simpa using h
  have B1 := kide (B2.out.trans (hb1.mono B2.out.size))
  have z1 : w.heap.size + 1 < w1.heap.size := lt_of_block n1
  have zz : w.heap.size < w1.heap.size := by omega
  simp at c1
  clear hb1 B2
  have ON1 : Hid (OW w1 (w.heap.size + 1) (.slice (some ⟨w.heap.size + 1, 0, none⟩) 0 0) []) := ⟨rfl, .inr ⟨w.heap.size + 1, 0, #[], rfl, Nat.le_refl _, n1, Nat.le_refl _, by unfold maxLen; omega, rfl, rfl⟩⟩
  have hZ0 : Z = [] := by
    rw [← HZ.out, widthsR, if_neg]
    have := HN.out
    simp only [Bool.and_eq_true, decide_eq_true_eq, List.length_map, this]
    rintro ⟨⟨h1, h2⟩, h3⟩
    exact hok ⟨h1, h2, h3⟩
  subst hZ0
  cases hd : dclR ds with
  | false =>
    clear HZ HDK hok
    go_wp2_with fail
    go_ret
    exact ⟨_, rfl, ON1.out, B1.out⟩
  | true =>
    have hor : n < 1 ∨ 400 < n := by rw [hd] at hok; simp at hok; omega
    rcases hor with hor | hor
    · have : n = 0 := by omega
      subst this
      clear HZ HDK hok
      go_wp2_with fail
      go_ret
      exact ⟨_, rfl, ON1.out, B1.out⟩
    · clear HZ HDK hok
      go_wp2_with fail
      go_ret
      exact ⟨_, rfl, ON1.out, B1.out⟩

end Go.Proofs.YtdlmgndmfphneaaGreatDoor

/- The given l3Widths, where it goes on. -/
namespace Go.Proofs.YtdlmgndmfphneaaGreatDoor
set_option linter.unusedVariables false
set_option linter.unusedSimpArgs false
open Go.RowKit

/-- What stays through the loops of l3Widths. -/
structure Lw (w : World) (b : Option Addr) (n c2 U : Nat) (q : Nat → Bool) (wr : World) : Prop where
  box : wr.heap[w.heap.size]? = some (.cells #[.slice b n c2] 34 (0, 0))
  non : wr.heap[w.heap.size + 1]? = some (.cells #[] 2 (0, 0))
  bel : Below w.heap.size w wr
  row : ∃ f, wr.rowIs U 4 n f ∧ ∀ j, j < n → f j = .bool (q j)

theorem Lw.lt {w : World} {b : Option Addr} {n c2 U : Nat} {q : Nat → Bool} {wr : World} (h : Lw w b n c2 U q wr) : U < wr.heap.size := by
  obtain ⟨f, ⟨cc, hh, -⟩, -⟩ := h.row
  exact lt_of_block hh

theorem Lw.cell {w : World} {b : Option Addr} {n c2 U : Nat} {q : Nat → Bool} {wr : World} (h : Lw w b n c2 U q wr) : wr.cell? ⟨w.heap.size, 0, none⟩ = some (.slice b n c2) := by
  simp [World.cell?, h.box]

theorem Lw.none' {w : World} {b : Option Addr} {n c2 U : Nat} {q : Nat → Bool} {wr : World} (h : Lw w b n c2 U q wr) : OW wr (w.heap.size + 1) (.slice (some ⟨w.heap.size + 1, 0, none⟩) 0 0) [] := ⟨rfl, .inr ⟨w.heap.size + 1, 0, #[], rfl, Nat.le_refl _, h.non, Nat.le_refl _, by unfold maxLen; omega, rfl, rfl⟩⟩

theorem Lw.later {w : World} {b : Option Addr} {n c2 U : Nat} {q : Nat → Bool} {wr wr' : World} (h : Lw w b n c2 U q wr) (hb : Below wr.heap.size wr wr') : Lw w b n c2 U q wr' where
  box := by rw [hb.block _ (lt_of_block h.box)]; exact h.box
  non := by rw [hb.block _ (lt_of_block h.non)]; exact h.non
  bel := h.bel.trans (hb.mono h.bel.size)
  row := by
    obtain ⟨f, hf, hq⟩ := h.row
    exact ⟨f, World.rowIs.of_block hf (hb.block _ h.lt), hq⟩

/-- .. through an append to a row of whole numbers that lies higher. -/
theorem Lw.grown {w : World} {b : Option Addr} {n c2 U B : Nat} {q : Nat → Bool} {wr wr' : World} {v : Value} {xs : List Int} (h : Lw w b n c2 U q wr) (ho : OW wr B v xs) (hB : w.heap.size + 1 < B) (hg : wr.grownBy wr' v.ownBlock) : Lw w b n c2 U q wr' where
  box := by rw [hg.block _ (lt_of_block h.box) (fun e => by have := ho.lt e.symm; omega)]; exact h.box
  non := by rw [hg.block _ (lt_of_block h.non) (fun e => by have := ho.lt e.symm; omega)]; exact h.non
  bel := ⟨hg.os.trans h.bel.os, hg.tape.trans h.bel.tape, hg.output.trans h.bel.output, Nat.le_trans h.bel.size hg.size, fun k hk => (hg.block k (Nat.lt_of_lt_of_le hk h.bel.size) (fun e => by have := ho.lt e.symm; omega)).trans (h.bel.block k hk)⟩
  row := by
    obtain ⟨f, ⟨cc, hh, h1, h2⟩, hq⟩ := h.row
    refine ⟨f, World.rowIs.of_block ⟨cc, hh, h1, h2⟩ (hg.block _ (lt_of_block hh) ?_), hq⟩
    exact ho.typed hh (by decide)

/-- .. where a place of the row of flags is set. -/
theorem Lw.mark {w : World} {b : Option Addr} {n c2 U : Nat} {q : Nat → Bool} {wr : World} (h : Lw w b n c2 U q wr) (hU : w.heap.size + 1 < U) (m : Nat) : Lw w b n c2 U (fun j => if j = m then true else q j) (wr.setCell ⟨U, m, none⟩ (.bool true)) where
  box := by rw [heap_setCell_other _ _ _ _ (by simp; omega)]; exact h.box
  non := by rw [heap_setCell_other _ _ _ _ (by simp; omega)]; exact h.non
  bel := h.bel.setCell (by simp; omega) _
  row := by
    obtain ⟨f, hf, hq⟩ := h.row
    refine ⟨_, World.rowIs.set hf m (.bool true), fun j hj => ?_⟩
    by_cases e : j = m
    · simp [e]
    · simp [e, hq j hj]

theorem OW.mono {w : World} {B B' : Nat} {v : Value} {xs : List Int} (h : OW w B v xs) (hB : B' ≤ B) : OW w B' v xs := by
  refine ⟨h.1, ?_⟩
  rcases h.2 with h | ⟨g, cap, cur, h1, h2, h3⟩
  · exact .inl h
  · exact .inr ⟨g, cap, cur, h1, Nat.le_trans hB h2, h3⟩

theorem OW.mark {w : World} {B : Nat} {v : Value} {xs : List Int} (h : OW w B v xs) {U : Nat} {f : Nat → Value} {n : Nat} (hr : w.rowIs U 4 n f) (i : Nat) (x : Value) : OW (w.setCell ⟨U, i, none⟩ x) B v xs := by
  obtain ⟨cc, hh, -⟩ := hr
  have hne := h.typed hh (by decide)
  refine World.ownsRow.kept (row := some U) h ⟨rfl, rfl, rfl, by simp, fun k hk hn => heap_setCell_other _ _ _ _ (fun e => hn (by simp at e; rw [e]))⟩ (.inr (fun e => hne e.symm))

end Go.Proofs.YtdlmgndmfphneaaGreatDoor

/- Whether a function value says yes of some number: slices.IndexFunc, slices.ContainsFunc. -/
namespace Go.Proofs.YtdlmgndmfphneaaGreatDoor
set_option linter.unusedVariables false
set_option linter.unusedSimpArgs false
open Go.RowKit

theorem any_step {α : Type} {p : α → Bool} {xs : List α} {k : Nat} {x : α} (h : xs[k]? = some x) : (xs.drop k).any p = (p x || (xs.drop (k + 1)).any p) := by
  have hk : k < xs.length := (List.getElem?_eq_some_iff.1 h).1
  have hx : xs[k] = x := (List.getElem?_eq_some_iff.1 h).2
  rw [List.drop_eq_getElem_cons hk, hx, List.any_cons]

theorem IndexS_any (f : Nat) (hf : ∀ args w, Sem.run Tryz.prog (callFunc f args) w = .ok (.enter f args) w) (cv : Value) (p : Int → Bool) (a : Option Addr) (c n : Nat) (xs : List Int) (w : World) (hr : RdI w a xs) (hn : xs.length = n)
    (HF : Hid (∀ u, Below w.heap.size w u → ∀ x ∈ xs, Calls Tryz.prog f #[.int .i64 x, cv] u fun e w' => e = .returned (.bool (p x)) ∧ Below u.heap.size u w')) :
    Calls Tryz.prog 126 #[.slice a n c, .func (.func f) #[] #[cv]] w fun e w' => ∃ r : Int, e = .returned (.int .i64 r) ∧ decide (0 ≤ r) = xs.any p ∧ Below w.heap.size w w' := by
  have hlen := hr.1
  rw [hn] at hlen
  have HN := kide hn
  generalize hzz : xs.any p = Z
  have HZ := kide hzz
  clear hn hzz
  go_enter Tryz.func126, Tryz.ntmps126
  go_wp2_with fail
  go_loopw [8] (fun i wr => ∃ k : Nat, k ≤ n ∧ i = .int .i64 (k : Int) ∧ (xs.drop k).any p = Z ∧ Below w.heap.size w wr) (fun i _ => n - (intOf i).toNat)
  case atStart => exact ⟨0, Nat.zero_le _, rfl, by simpa using HZ.out, Below.refl _ _⟩
  case round =>
      obtain ⟨k, hk, rfl, hz, hbel⟩ := hrel
      have HB := kide hbel
      by_cases hlt : k < n
      · obtain ⟨-, hi64, h | ⟨b, o, rfl, hc⟩⟩ := hr
        · have := HN.out; subst h; simp at this; omega
        have hltx : k < xs.length := by rw [HN.out]; exact hlt
        have gx : xs[k]? = some (xs.getD k 0) := by simp [List.getD, hltx]
        have p0 := hc k hltx
        rw [← kcell hbel _ _ (block_lt_of_cell p0)] at p0
        have HCL := kide (HF.out wr hbel _ (List.mem_of_getElem? gx))
        rw [any_step gx] at hz
        generalize xs.getD k 0 = x1 at *
        generalize p x1 = P1 at *
        clear hc hi64 gx hltx
        have i0 : (k : Int) < (n : Int) := by omega
        clear hbel
        cases P1 with
        | true =>
          have HZ1 : Hid (Z = true) := by show _ = _; rw [← hz]; rfl
          clear hz
          go_wp2_with fail
          refine Calls.mono HCL.out ?_
          rintro e w1 ⟨rfl, hb1⟩
          go_wp2_with fail
          go_ret
          exact ⟨_, rfl, by rw [HZ1.out]; exact decide_eq_true (by omega), HB.out.trans (hb1.mono HB.out.size)⟩
        | false =>
          rw [Bool.false_or] at hz
          have HZ1 := kide hz
          clear hz
          go_wp2_with fail
          refine Calls.mono HCL.out ?_
          rintro e w1 ⟨rfl, hb1⟩
          go_wp2_with fail
          go_roundw
          case rel => exact ⟨k + 1, by omega, by go_num, HZ1.out, HB.out.trans (hb1.mono HB.out.size)⟩
          case measure => simp [intOf]; omega
      · have HZ1 : Hid (Z = false) := by
          show _ = _
          rw [← hz, List.drop_eq_nil_of_le (by have := HN.out; simp; omega)]; rfl
        clear hz hbel
        go_wp2_with fail
        go_ret
        exact ⟨-1, rfl, by rw [HZ1.out]; rfl, HB.out⟩

theorem ContainsS_any (f : Nat) (hf : ∀ args w, Sem.run Tryz.prog (callFunc f args) w = .ok (.enter f args) w) (cv : Value) (p : Int → Bool) (a : Option Addr) (c n : Nat) (xs : List Int) (w : World) (hr : RdI w a xs) (hn : xs.length = n)
    (HF : Hid (∀ u, Below w.heap.size w u → ∀ x ∈ xs, Calls Tryz.prog f #[.int .i64 x, cv] u fun e w' => e = .returned (.bool (p x)) ∧ Below u.heap.size u w')) :
    Calls Tryz.prog 98 #[.slice a n c, .func (.func f) #[] #[cv]] w fun e w' => e = .returned (.bool (xs.any p)) ∧ Below w.heap.size w w' := by
  have HI := kide (IndexS_any f hf cv p a c n xs w hr hn HF)
  generalize xs.any p = Z at *
  clear hr hn HF
  go_enter Tryz.func98, Tryz.ntmps98
  go_wp2_with fail
  refine Calls.mono HI.out ?_
  rintro e w1 ⟨r, rfl, hr, hb1⟩
  have HR := kide hr
  clear hr
  go_wp2_with fail
  go_ret
  exact ⟨ret_bool HR.out, hb1⟩

end Go.Proofs.YtdlmgndmfphneaaGreatDoor
