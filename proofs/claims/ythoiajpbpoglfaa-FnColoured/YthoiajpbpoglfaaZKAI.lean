/- Several texts in one. -/
import Derived.Test.YthoiajpbpoglfaaZKAG
import Derived.Test.YthoiajpbpoglfaaZKAH
import Derived.Test.YthoiajpbpoglfaaZKAD
import Derived.Test.YthoiajpbpoglfaaZKAF
import Derived.Deep.AppendLies
import Derived.Handy

/- What the given l10Free answers. -/
namespace Go.Proofs.Ythoiajpbpoglfaa
set_option linter.unusedVariables false
set_option linter.unusedSimpArgs false
open Go.RowKit

/-- What a bar holds against a node: a word, or the other's. -/
def othW (hc : List (Int × List Nat)) (x : Int) (s : Yc) : Int × List Nat := if s.v = x then (if s.lo < 0 then (s.bw, s.ws) else hc.getD s.lo.toNat (0, [])) else if s.lo = x then hc.getD s.v.toNat (0, []) else (0, [])
def frS (bs : List Yc) (hc : List (Int × List Nat)) (x V : Int) (ws : List Nat) : Bool := bs.all fun s => !(decide ((othW hc x s).1 = V) && decide ((othW hc x s).2 = ws))
theorem frS_step {bs : List Yc} {k : Nat} {s : Yc} (h : bs[k]? = some s) (hc : List (Int × List Nat)) (x V : Int) (ws : List Nat) : frS (bs.take (k + 1)) hc x V ws = (frS (bs.take k) hc x V ws && !(decide ((othW hc x s).1 = V) && decide ((othW hc x s).2 = ws))) := by
  unfold frS
  rw [List.take_add_one, h, List.all_append]
  simp
theorem frS_false {bs : List Yc} {k : Nat} {s : Yc} (h : bs[k]? = some s) {hc : List (Int × List Nat)} {x V : Int} {ws : List Nat} (h1 : (othW hc x s).1 = V) (h2 : (othW hc x s).2 = ws) : frS bs hc x V ws = false := by
  unfold frS
  rw [List.all_eq_false]
  exact ⟨s, List.mem_of_getElem? h, by simp [h1, h2]⟩

set_option maxHeartbeats 1000000 in
set_option maxRecDepth 100000 in
theorem l10Free_any (z : Gz) (ha wa : Option Addr) (hcap wc : Nat) (hs : List Bw) (x V : Int) (ws : List Nat) (w : World) (hz : RdG w z) (hh : RdW w ha hs) (hw : Rd w wa ws) (hgd : ∀ y ∈ z.bs, gdB z.ks.length y.ct) (hl : hs.length = z.ks.length) (hk200 : z.ks.length ≤ 1048576) (hb1000 : z.bs.length ≤ 1000) :
    Calls Try.prog 29 #[z.val, .slice ha hs.length hcap, .int .i64 x, .agg #[.int .i64 V, .slice wa ws.length wc]] w fun e w' => e = .returned (.bool (frS (z.bs.map Yg.ct) (hs.map Bw.ct) x V ws)) ∧ Below w.heap.size w w' := by
  obtain ⟨a1, c1, ks, a2, c2, bs⟩ := z
  obtain ⟨hz1, hz2⟩ := hz
  simp only [Gz.val] at *
  have HGD := kide hgd
  have hb0 : Below w.heap.size w ((w.alloc (Obj.cells #[Value.slice a1 ks.length c1, Value.slice a2 bs.length c2] 32)).alloc (Obj.cells #[Value.int .i64 V, Value.slice wa ws.length wc] 48)) := ((Below.refl _ _).alloc (Nat.le_refl _) _).alloc (by simp) _
  have X0 := kide ((Bz.new w #[Value.slice a1 ks.length c1, Value.slice a2 bs.length c2] 32).later ((Below.refl _ _).alloc (Nat.le_refl _) (Obj.cells #[Value.int .i64 V, Value.slice wa ws.length wc] 48)))
  have X1 := kide (Bz.new (w.alloc (Obj.cells #[Value.slice a1 ks.length c1, Value.slice a2 bs.length c2] 32)) #[Value.int .i64 V, Value.slice wa ws.length wc] 48)
  have HZ2 := kide (hz2.later hb0)
  have HH := kide (hh.later hb0)
  have HW := kide (hw.later hb0)
  have BW := kide hb0
  obtain ⟨n1, e1⟩ : ∃ n1, ks.length = n1 := ⟨_, rfl⟩
  obtain ⟨n2, e2⟩ : ∃ n2, bs.length = n2 := ⟨_, rfl⟩
  obtain ⟨n3, e3⟩ : ∃ n3, ws.length = n3 := ⟨_, rfl⟩
  rw [e1] at hl HGD hk200
  rw [hl]
  rw [e1, e2, e3] at X0 HZ2 BW HH HW X1
  rw [World.size_alloc] at X1
  rw [e2] at hb1000
  rw [e1, e2, e3]
  have HE2 := kide e2
  have HE3 := kide e3
  have HL := kide hl
  clear hz1 hz2 hb0 e1 e2 e3 hgd hh hw hl
  go_enter Try.func29, Try.ntmps29
  go_wp2_with fail
  generalize (w.alloc (Obj.cells #[Value.slice a1 n1 c1, Value.slice a2 n2 c2] 32)).alloc (Obj.cells #[Value.int .i64 V, Value.slice wa n3 wc] 48) = W at *
  have x8 := X0.out.lt
  have x9 := X1.out.lt
  obtain ⟨b0, hb0⟩ : ∃ b0, w.heap.size = b0 := ⟨_, rfl⟩
  have HB0 := kide hb0
  rw [hb0] at X0 X1 BW x8 x9
  simp only [hb0]
  clear hb0
  go_loopw [9] (fun q wr => ∃ (k : Nat), k ≤ n2 ∧ q = .int .i64 (k : Int) ∧ frS ((bs.map Yg.ct).take k) (hs.map Bw.ct) x V ws = true ∧ Below W.heap.size W wr) (fun q _ => n2 - (intOf q).toNat)
  case atStart => exact ⟨0, Nat.zero_le _, rfl, rfl, Below.refl _ _⟩
  case round =>
    obtain ⟨k, hk, rfl, hfr, hb⟩ := hrel
    have HFR := kide hfr
    have HB := kide hb
    have XG := kide (X0.out.later hb)
    have XW := kide (X1.out.later hb)
    have gg1 : wr.cell? ⟨b0, 1, none⟩ = some (Value.slice a2 n2 c2) := XG.out.cell 1
    have ww0 : wr.cell? ⟨b0 + 1, 0, none⟩ = some (Value.int .i64 V) := XW.out.cell 0
    have ww1 : wr.cell? ⟨b0 + 1, 1, none⟩ = some (Value.slice wa n3 wc) := XW.out.cell 1
    have hlb := XG.out.lt
    have hlw := XW.out.lt
    clear hfr
    by_cases hlt : k < n2
    · have i0 : (k : Int) < (n2 : Int) := by omega
      obtain ⟨y, gy⟩ : ∃ y, bs[k]? = some y := ⟨bs[k]'(by rw [HE2.out]; exact hlt), List.getElem?_eq_getElem _⟩
      have gc : (bs.map Yg.ct)[k]? = some y.ct := by simp [gy]
      have hsf := frS_step gc (hs.map Bw.ct) x V ws
      have hnf := fun h1 h2 => frS_false gc (hc := hs.map Bw.ct) (x := x) (V := V) (ws := ws) h1 h2
      have hgd := HGD.out y (List.mem_of_getElem? gy)
      obtain ⟨-, h | ⟨b, o, rfl, hc⟩⟩ := HZ2.out.later hb
      · rw [h] at gy; simp at gy
      have hya := hc k y gy
      obtain ⟨⟨p0, p1, p2, p3⟩, pr, -⟩ := hya
      obtain ⟨⟨xv, xlo, xbw, xws⟩, xa, xc⟩ := y
      simp only [Yg.hd] at p0 p1 p2 p3 pr hgd hsf hnf
      obtain ⟨xn, hxn⟩ : ∃ xn, xws.length = xn := ⟨_, rfl⟩
      rw [hxn] at p3
      have HXN := kide hxn
      clear hxn hc gy gc hb
      by_cases hvx : xv = x
      · subst hvx
        have hee : (xv == xv) = true := by simp
        by_cases hl0 : xlo < 0
        · have hb2 := HB.out.trans ((((Below.refl wr.heap.size wr).alloc (Nat.le_refl _) (Obj.cells #[Value.int .i64 xv, Value.int .i64 xlo, Value.int .i64 xbw, Value.slice xa xn xc] 86)).alloc (by simp) (Obj.cells #[Value.int .i64 xbw, Value.slice xa xn xc] 48)).mono HB.out.size)
          have hcall := l3Same_any xbw xa xc xws V wa wc ws _ (pr.later ((((Below.refl _ _).alloc (Nat.le_refl _) _).alloc (by simp) _))) (HW.out.later hb2)
          rw [HXN.out, HE3.out] at hcall
          have HCALL := kide hcall
          have HB2 := kide hb2
          clear hcall hb2 pr hgd
          go_wp2_with fail
          refine Calls.mono HCALL.out ?_
          clear HCALL
          rintro e w5 ⟨rfl, hb5⟩
          have B5 := kide (HB2.out.trans (hb5.mono HB2.out.size))
          clear hb5 HB2
          by_cases hre : xbw = V ∧ xws = ws
          · have hrr : (decide (xbw = V) && decide (xws = ws)) = true := by simp [hre]
            have hfa := kide (hnf (by rw [show othW (hs.map Bw.ct) xv ⟨xv, xlo, xbw, xws⟩ = (xbw, xws) by unfold othW; simp [hl0]]; exact hre.1) (by rw [show othW (hs.map Bw.ct) xv ⟨xv, xlo, xbw, xws⟩ = (xbw, xws) by unfold othW; simp [hl0]]; exact hre.2))
            rw [hrr]
            clear hre hrr hnf hsf
            go_wp2_with fail
            go_ret
            exact ⟨by rw [hfa.out]; first | done | rfl, by rw [HB0.out]; exact BW.out.trans (B5.out.mono (Nat.le_of_lt x8))⟩
          · have hrr : (decide (xbw = V) && decide (xws = ws)) = false := by
              rw [Bool.eq_false_iff]
              intro h9
              rw [Bool.and_eq_true, decide_eq_true_eq, decide_eq_true_eq] at h9
              exact hre h9
            have HST : Hid (frS ((bs.map Yg.ct).take (k + 1)) (hs.map Bw.ct) xv V ws = true) := by
              show _ = _
              rw [hsf, HFR.out]
              rw [show othW (hs.map Bw.ct) xv ⟨xv, xlo, xbw, xws⟩ = (xbw, xws) by unfold othW; simp [hl0]]
              rw [hrr]
              rfl
            rw [hrr]
            clear hre hrr hnf hsf
            go_wp2_with fail
            go_roundw
            case rel => exact ⟨k + 1, by omega, by go_num, HST.out, B5.out⟩
            case measure => simp [intOf]; omega
        have hl1 : 0 ≤ xlo ∧ xlo < (n1 : Int) := by rcases hgd.2 with h9 | h9 <;> simp only [] at h9 <;> omega
        obtain ⟨j, rfl⟩ : ∃ j : Nat, xlo = (j : Int) := ⟨xlo.toNat, by omega⟩
        have hjn : j < n1 := by omega
        obtain ⟨z, gz⟩ : ∃ z, hs[j]? = some z := ⟨hs[j]'(by rw [HL.out]; exact hjn), List.getElem?_eq_getElem _⟩
        obtain ⟨-, h | ⟨b9, o9, rfl, hc9⟩⟩ := HH.out.later HB.out
        · rw [h] at gz; simp at gz
        obtain ⟨z0, z1, zr, zi⟩ := hc9 j z gz
        obtain ⟨zd, za, zc, zws⟩ := z
        simp only [] at z0 z1 zr
        have HOT : Hid (othW (hs.map Bw.ct) xv ⟨xv, (j : Int), xbw, xws⟩ = (zd, zws)) := by
          show _ = _
          unfold othW
          rw [if_pos rfl, if_neg (by simp)]
          simp [List.getD, gz, Bw.ct]
        obtain ⟨zn, hzn⟩ : ∃ zn, zws.length = zn := ⟨_, rfl⟩
        rw [hzn] at z1
        have HZN := kide hzn
        have lz := block_lt_of_cell z1
        simp only [] at lz
        clear hzn hc9 gz
        have hb2 := HB.out.trans ((((Below.refl wr.heap.size wr).alloc (Nat.le_refl _) (Obj.cells #[Value.int .i64 xv, Value.int .i64 (j : Int), Value.int .i64 xbw, Value.slice xa xn xc] 86)).alloc (by simp) (Obj.cells #[Value.int .i64 zd, Value.slice za zn zc] 48)).mono HB.out.size)
        have hcall := l3Same_any zd za zc zws V wa wc ws _ (zr.later ((((Below.refl _ _).alloc (Nat.le_refl _) _).alloc (by simp) _))) (HW.out.later hb2)
        rw [HZN.out, HE3.out] at hcall
        have HCALL := kide hcall
        have HB2 := kide hb2
        clear hcall hb2 pr hgd
        go_wp2_with fail
        refine Calls.mono HCALL.out ?_
        clear HCALL
        rintro e w5 ⟨rfl, hb5⟩
        have B5 := kide (HB2.out.trans (hb5.mono HB2.out.size))
        clear hb5 HB2
        by_cases hre : zd = V ∧ zws = ws
        · have hrr : (decide (zd = V) && decide (zws = ws)) = true := by simp [hre]
          have hfa := kide (hnf (by rw [HOT.out]; exact hre.1) (by rw [HOT.out]; exact hre.2))
          rw [hrr]
          clear hre hrr hnf hsf
          go_wp2_with fail
          go_ret
          exact ⟨by rw [hfa.out]; first | done | rfl, by rw [HB0.out]; exact BW.out.trans (B5.out.mono (Nat.le_of_lt x8))⟩
        · have hrr : (decide (zd = V) && decide (zws = ws)) = false := by
            rw [Bool.eq_false_iff]
            intro h9
            rw [Bool.and_eq_true, decide_eq_true_eq, decide_eq_true_eq] at h9
            exact hre h9
          have HST : Hid (frS ((bs.map Yg.ct).take (k + 1)) (hs.map Bw.ct) xv V ws = true) := by
            show _ = _
            rw [hsf, HFR.out]
            rw [HOT.out]
            rw [hrr]
            rfl
          rw [hrr]
          clear hre hrr hnf hsf
          go_wp2_with fail
          go_roundw
          case rel => exact ⟨k + 1, by omega, by go_num, HST.out, B5.out⟩
          case measure => simp [intOf]; omega
      · have hee : (xv == x) = false := by simp [hvx]
        by_cases hlx : xlo = x
        · subst hlx
          have hff : (xlo == xlo) = true := by simp
          have hl1 : 0 ≤ xv ∧ xv < (n1 : Int) := hgd.1
          obtain ⟨j, rfl⟩ : ∃ j : Nat, xv = (j : Int) := ⟨xv.toNat, by omega⟩
          have hjn : j < n1 := by omega
          obtain ⟨z, gz⟩ : ∃ z, hs[j]? = some z := ⟨hs[j]'(by rw [HL.out]; exact hjn), List.getElem?_eq_getElem _⟩
          obtain ⟨-, h | ⟨b9, o9, rfl, hc9⟩⟩ := HH.out.later HB.out
          · rw [h] at gz; simp at gz
          obtain ⟨z0, z1, zr, zi⟩ := hc9 j z gz
          obtain ⟨zd, za, zc, zws⟩ := z
          simp only [] at z0 z1 zr
          have HOT : Hid (othW (hs.map Bw.ct) xlo ⟨(j : Int), xlo, xbw, xws⟩ = (zd, zws)) := by
            show _ = _
            unfold othW
            rw [if_neg hvx, if_pos rfl]
            simp [List.getD, gz, Bw.ct]
          obtain ⟨zn, hzn⟩ : ∃ zn, zws.length = zn := ⟨_, rfl⟩
          rw [hzn] at z1
          have HZN := kide hzn
          have lz := block_lt_of_cell z1
          simp only [] at lz
          clear hzn hc9 gz
          have hb2 := HB.out.trans ((((Below.refl wr.heap.size wr).alloc (Nat.le_refl _) (Obj.cells #[Value.int .i64 (j : Int), Value.int .i64 xlo, Value.int .i64 xbw, Value.slice xa xn xc] 86)).alloc (by simp) (Obj.cells #[Value.int .i64 zd, Value.slice za zn zc] 48)).mono HB.out.size)
          have hcall := l3Same_any zd za zc zws V wa wc ws _ (zr.later ((((Below.refl _ _).alloc (Nat.le_refl _) _).alloc (by simp) _))) (HW.out.later hb2)
          rw [HZN.out, HE3.out] at hcall
          have HCALL := kide hcall
          have HB2 := kide hb2
          clear hcall hb2 pr hgd
          go_wp2_with fail
          refine Calls.mono HCALL.out ?_
          clear HCALL
          rintro e w5 ⟨rfl, hb5⟩
          have B5 := kide (HB2.out.trans (hb5.mono HB2.out.size))
          clear hb5 HB2
          by_cases hre : zd = V ∧ zws = ws
          · have hrr : (decide (zd = V) && decide (zws = ws)) = true := by simp [hre]
            have hfa := kide (hnf (by rw [HOT.out]; exact hre.1) (by rw [HOT.out]; exact hre.2))
            rw [hrr]
            clear hre hrr hnf hsf
            go_wp2_with fail
            go_ret
            exact ⟨by rw [hfa.out]; first | done | rfl, by rw [HB0.out]; exact BW.out.trans (B5.out.mono (Nat.le_of_lt x8))⟩
          · have hrr : (decide (zd = V) && decide (zws = ws)) = false := by
              rw [Bool.eq_false_iff]
              intro h9
              rw [Bool.and_eq_true, decide_eq_true_eq, decide_eq_true_eq] at h9
              exact hre h9
            have HST : Hid (frS ((bs.map Yg.ct).take (k + 1)) (hs.map Bw.ct) xlo V ws = true) := by
              show _ = _
              rw [hsf, HFR.out]
              rw [HOT.out]
              rw [hrr]
              rfl
            rw [hrr]
            clear hre hrr hnf hsf
            go_wp2_with fail
            go_roundw
            case rel => exact ⟨k + 1, by omega, by go_num, HST.out, B5.out⟩
            case measure => simp [intOf]; omega
        have hff : (xlo == x) = false := by simp [hlx]
        have hb2 := HB.out.trans ((((Below.refl wr.heap.size wr).alloc (Nat.le_refl _) (Obj.cells #[Value.int .i64 xv, Value.int .i64 xlo, Value.int .i64 xbw, Value.slice xa xn xc] 86)).alloc (by simp) (Obj.cells #[Value.int .i64 0, Value.slice none 0 0] 48)).mono HB.out.size)
        have hcall := l3Same_any 0 none 0 ([] : List Nat) V wa wc ws _ (⟨by simp, by simp, .inl rfl⟩) (HW.out.later hb2)
        rw [List.length_nil, HE3.out] at hcall
        have HCALL := kide hcall
        have HB2 := kide hb2
        clear hcall hb2 pr hgd
        go_wp2_with fail
        refine Calls.mono HCALL.out ?_
        clear HCALL
        rintro e w5 ⟨rfl, hb5⟩
        have B5 := kide (HB2.out.trans (hb5.mono HB2.out.size))
        clear hb5 HB2
        by_cases hre : 0 = V ∧ ([] : List Nat) = ws
        · have hrr : (decide (0 = V) && decide (([] : List Nat) = ws)) = true := by simp [hre]
          have hfa := kide (hnf (by rw [show othW (hs.map Bw.ct) x ⟨xv, xlo, xbw, xws⟩ = (0, []) by unfold othW; simp [hvx, hlx]]; exact hre.1) (by rw [show othW (hs.map Bw.ct) x ⟨xv, xlo, xbw, xws⟩ = (0, []) by unfold othW; simp [hvx, hlx]]; exact hre.2))
          rw [hrr]
          clear hre hrr hnf hsf
          go_wp2_with fail
          go_ret
          exact ⟨by rw [hfa.out]; first | done | rfl, by rw [HB0.out]; exact BW.out.trans (B5.out.mono (Nat.le_of_lt x8))⟩
        · have hrr : (decide (0 = V) && decide (([] : List Nat) = ws)) = false := by
            rw [Bool.eq_false_iff]
            intro h9
            rw [Bool.and_eq_true, decide_eq_true_eq, decide_eq_true_eq] at h9
            exact hre h9
          have HST : Hid (frS ((bs.map Yg.ct).take (k + 1)) (hs.map Bw.ct) x V ws = true) := by
            show _ = _
            rw [hsf, HFR.out]
            rw [show othW (hs.map Bw.ct) x ⟨xv, xlo, xbw, xws⟩ = (0, []) by unfold othW; simp [hvx, hlx]]
            rw [hrr]
            rfl
          rw [hrr]
          clear hre hrr hnf hsf
          go_wp2_with fail
          go_roundw
          case rel => exact ⟨k + 1, by omega, by go_num, HST.out, B5.out⟩
          case measure => simp [intOf]; omega
    · have e : k = n2 := by omega
      subst e
      rw [List.take_of_length_le (by rw [List.length_map, HE2.out]; exact Nat.le_refl _)] at HFR
      go_wp2_with fail
      go_ret
      exact ⟨by rw [HFR.out]; first | done | rfl, by rw [HB0.out]; exact BW.out.trans (HB.out.mono (Nat.le_of_lt x8))⟩

end Go.Proofs.Ythoiajpbpoglfaa

/- A painter of a graph without bars. -/
namespace Go.Proofs.Ythoiajpbpoglfaa
set_option linter.unusedVariables false
set_option linter.unusedSimpArgs false
open Go.RowKit

/-- A painter without bars, as it lies: k nodes have got no word yet. -/
structure Pn (w0 w : World) (P0 H : Nat) (va : Option Addr) (n vc : Nat) (wv : Value) (ls : List Int) : Prop where
  px : Bz w P0 #[.slice va n vc, .slice (some ⟨H, 0, none⟩) n n, .slice none 0 0, wv, .int .i64 0, .int .i64 0] 69
  hx : Bz w H (madeCells #[.slice none 0 0, .map none, .int .i64 0] (n * 3)) 83
  row : OI w w0.heap.size wv ls
  bel : Below w0.heap.size w0 w
  lo : w0.heap.size ≤ P0

theorem Pn.later {w0 u v : World} {P0 H n vc : Nat} {va : Option Addr} {wv : Value} {ls : List Int} (h : Pn w0 u P0 H va n vc wv ls) (hb : Below u.heap.size u v) : Pn w0 v P0 H va n vc wv ls :=
  ⟨h.px.later hb, h.hx.later hb, h.row.later hb, h.bel.trans (hb.mono h.bel.size), h.lo⟩
theorem Pn.push {w0 u v : World} {P0 H n vc : Nat} {va : Option Addr} {wv v' : Value} {ls : List Int} {y : Int} (h : Pn w0 u P0 H va n vc wv ls) (ho : OI v w0.heap.size v' (ls ++ [y])) (hg : u.grownBy v wv.ownBlock) :
    Pn w0 (v.setCell ⟨P0, 3, none⟩ v') P0 H va n vc v' (ls ++ [y]) ∧ Bz v P0 #[.slice va n vc, .slice (some ⟨H, 0, none⟩) n n, .slice none 0 0, wv, .int .i64 0, .int .i64 0] 69 := by
  have p1 := bz_grown h.px hg (bz_typed h.px (fun k e => h.row.typedG e) (by decide))
  have h1 := bz_grown h.hx hg (bz_typed h.hx (fun k e => h.row.typedG e) (by decide))
  have hne : P0 ≠ H := fun e => by
    have a := h.px
    have b := h.hx
    rw [e] at a
    have c : some _ = some _ := (show u.heap[H]? = _ from a).symm.trans b
    simp at c
  refine ⟨⟨p1.set 3 v', ?_, ?_, (h.bel.grown hg h.bel.size (fun b hb => (h.row.lt hb).1)).setCell h.lo _, h.lo⟩, p1⟩
  · exact bz_grown h1 (gsc v ⟨P0, 3, none⟩ v') (fun e => hne (by cases e; rfl))
  · exact ho.move fun b hb => by
      obtain ⟨cur, hh⟩ := ho.typedG hb
      exact (gsc v ⟨P0, 3, none⟩ v').block b (lt_of_block hh) (fun e => by
        cases e
        have c := (show v.heap[P0]? = _ from p1).symm.trans hh
        simp at c)

set_option maxHeartbeats 2000000 in
set_option maxRecDepth 100000 in
theorem newPainter0_any (va : Option Addr) (n vc : Nat) (ks : List Int) (hn : ks.length = n) (hn2 : n ≤ 200) (hk : ∀ x ∈ ks, 1 ≤ x ∧ x ≤ 4096) (w : World) (hr : RdI w va ks) :
    Calls Try.prog 34 #[.agg #[.slice va n vc, .slice none 0 0], .int .i64 0] w fun e w' => ∃ P0 H wv, e = .returned (.pointer (some ⟨P0, 0, none⟩)) ∧ Pn w w' P0 H va n vc wv (List.replicate n (-1)) := by
  have hb0 : Below w.heap.size w (w.alloc (.cells #[.slice va n vc, .slice none 0 0] 32)) := (Below.refl _ _).alloc (Nat.le_refl _) _
  have B0 := kide hb0
  have X0 := kide (Bz.new w #[.slice va n vc, .slice none 0 0] 32)
  have HR := kide hr
  have HKS := kide (And.intro hn hk)
  clear hb0 hk
  go_enter Try.func34, Try.ntmps34
  go_wp2_with fail
  generalize w.alloc (.cells #[.slice va n vc, .slice none 0 0] 32) = w0 at *
  have x0 := X0.out.cell 0
  have x1 := X0.out.cell 1
  have lx := X0.out.lt
  simp at x0 x1
  go_region_held3 (fun u => u.cell? ⟨w.heap.size, 0, none⟩ = some (Value.slice va n vc) ∧ u.cell? ⟨w.heap.size, 1, none⟩ = some (Value.slice none 0 0)) (first | (simp [*]; done) | exact ⟨(kcell ((Below.refl _ _).alloc (Nat.le_refl _) _) _ _ lx1).trans y0, (kcell ((Below.refl _ _).alloc (Nat.le_refl _) _) _ _ lx1).trans y1⟩)
    (first
      | (go_at_call 49; refine Calls.mono (hedges0_any va n vc (by omega) _) ?_; rintro e w1 ⟨H, rfl, hH, hbz, hb1⟩; replace hb1 := kundrew hb1; have y0 := (kcell hb1 _ _ lx).trans x0; have y1 := (kcell hb1 _ _ lx).trans x1; have lx1 := Nat.lt_of_lt_of_le lx hb1.size; have HZ := kide hbz; have HH := kide hH; have HB1 := kide hb1; clear hb1 hbz hH))
  have hba : Below w1.heap.size w1 (w1.alloc (.cells #[Value.slice va n vc, Value.slice (some ⟨H, 0, none⟩) n n, Value.slice none 0 0, Value.slice none 0 0, Value.int .i64 0, Value.int .i64 0] 69)) := (Below.refl _ _).alloc (Nat.le_refl _) _
  have hsz0 : w.heap.size ≤ w0.heap.size := B0.out.size
  have hsz1 : w0.heap.size ≤ w1.heap.size := HB1.out.size
  have BB : Below w.heap.size w w1 := B0.out.trans ((show Below w0.heap.size w0 w1 from HB1.out).mono hsz0)
  have P1 : Hid (Pn w (w1.alloc (.cells #[Value.slice va n vc, Value.slice (some ⟨H, 0, none⟩) n n, Value.slice none 0 0, Value.slice none 0 0, Value.int .i64 0, Value.int .i64 0] 69)) w1.heap.size H va n vc (.slice none 0 0) []) := ⟨Bz.new _ _ _, HZ.out.later hba, ⟨rfl, .inl ⟨rfl, rfl⟩⟩, BB.trans (hba.mono BB.size), BB.size⟩
  have R1 := kide (hr.later (BB.trans (hba.mono BB.size)))
  have XG : Hid (Bz (w1.alloc (.cells #[Value.slice va n vc, Value.slice (some ⟨H, 0, none⟩) n n, Value.slice none 0 0, Value.slice none 0 0, Value.int .i64 0, Value.int .i64 0] 69)) w.heap.size #[.slice va n vc, .slice none 0 0] 32) := (X0.out.later (show Below w0.heap.size w0 w1 from HB1.out)).later hba
  obtain ⟨P0, hP⟩ : ∃ P0, w1.heap.size = P0 := ⟨_, rfl⟩
  rw [hP] at P1
  try simp only [hP]
  generalize w1.alloc (.cells #[Value.slice va n vc, Value.slice (some ⟨H, 0, none⟩) n n, Value.slice none 0 0, Value.slice none 0 0, Value.int .i64 0, Value.int .i64 0] 69) = w2 at *
  clear hba hsz0 hsz1 BB hP x0 x1 y0 y1 lx lx1 HZ HH HB1 hr
  have g0 := XG.out.cell 0
  have g1 := XG.out.cell 1
  have lg := XG.out.lt
  simp at g0 g1
  go_wp2_with fail
  clear R1 XG g0 g1 lg X0 B0 hn
  go_loopw [18] (fun i wr => ∃ (k : Nat) (wv : Value), k ≤ n ∧ i = .int .i64 (k : Int) ∧ Pn w wr P0 H va n vc wv (List.replicate k (-1))) (fun i _ => n - (intOf i).toNat)
  case atStart => exact ⟨0, _, Nat.zero_le _, rfl, P1.out⟩
  case round =>
    obtain ⟨k, wv, hk, rfl, hpn⟩ := hrel
    have PK := kide hpn
    by_cases hlt : k < n
    · have i0 : (k : Int) < (n : Int) := by omega
      obtain ⟨-, -, h9 | ⟨kb, ko, rfl, hkc⟩⟩ := HR.out.later hpn.bel
      · have := HKS.out.1; rw [h9] at this; simp at this; omega
      have q0 := hkc k (by rw [HKS.out.1]; exact hlt)
      have hx1 := HKS.out.2 (ks.getD k 0) (by rw [List.getD, List.getElem?_eq_getElem (by rw [HKS.out.1]; exact hlt)]; exact List.getElem_mem _)
      generalize ks.getD k 0 = x at *
      have p1 := hpn.px.cell 1
      have p3 := hpn.px.cell 3
      simp at p1 p3
      have lp := hpn.px.lt
      have h2 : wr.cell? ⟨H, k * 3 + 2, none⟩ = some (.int .i64 0) := by
        have h9 := hpn.hx.cell (k * 3 + 2)
        rw [h9]
        have e2 : (k * 3 + 2) % 3 = 2 := by omega
        simp [madeCells, e2, show k * 3 + 2 < n * 3 by omega]
      have HLT : Hid (k < n) := hlt
      have HX1 := kide hx1
      clear hkc hpn hlt hk P1
      by_cases hx10 : x ≤ 10
      · rcases (show x = 1 ∨ x = 2 ∨ x = 3 ∨ x = 4 ∨ x = 5 ∨ x = 6 ∨ x = 7 ∨ x = 8 ∨ x = 9 ∨ x = 10 by omega) with rfl | rfl | rfl | rfl | rfl | rfl | rfl | rfl | rfl | rfl
        all_goals
          clear hx10 hx1
          go_wp2_with fail
          go_quiet (fail)
          have PQ := kide (PK.out.later (below_drewN (Below.refl _ _) nq))
          clear p1 p3 lp h2 q0
          generalize wr.drewN nq = wq at *
          have p3 := PQ.out.px.cell 3
          simp at p3
          have lp := PQ.out.px.lt
          have hul : (List.replicate k (-1 : Int)).length ≤ 1073741824 := by rw [List.length_replicate]; have := HLT.out; omega
          have hsz : w.heap.size ≤ (wq.alloc (Obj.cells #[Value.int .i64 (-1)] 2)).heap.size := by have := PQ.out.bel.size; simp; omega
          go_wp2_with (at_builtin; refine wpList_appI rfl _ _ rfl w.heap.size wv (List.replicate k (-1)) (-1) rfl (PQ.out.row.later ((Below.refl _ _).alloc (Nat.le_refl _) _)) _ 1 rfl (by simp) hul hsz ?_)
          intro g5 cap5 w5 hos hg5 _
          obtain ⟨pn, x6⟩ := (PQ.out.later ((Below.refl _ _).alloc (Nat.le_refl _) (Obj.cells #[Value.int .i64 (-1)] 2))).push hos hg5
          have e0 := x6.cell 3
          have f0 := x6.froz 3
          simp at e0
          try rw [List.length_replicate] at pn
          try rw [List.length_replicate]
          have PN := kide pn
          have hk2 : (k : Int) ≤ 200 := by have := HLT.out; omega
          clear hos hg5 pn x6 p3 lp hul hsz
          go_wp2_with fail
          go_roundw
          case rel => exact ⟨k + 1, _, HLT.out, by go_num, by rw [List.replicate_succ']; exact PN.out⟩
          case measure => have := HLT.out; simp only [intOf]; omega
      · have hd : decide (x ≤ 10) = false := by simpa using hx10
        clear hx10
        go_wp2_with fail
        go_quiet (fail)
        have PQ := kide (PK.out.later (below_drewN (Below.refl _ _) nq))
        clear p1 p3 lp h2 q0
        generalize wr.drewN nq = wq at *
        have p3 := PQ.out.px.cell 3
        simp at p3
        have lp := PQ.out.px.lt
        have hul : (List.replicate k (-1 : Int)).length ≤ 1073741824 := by rw [List.length_replicate]; have := HLT.out; omega
        have hsz : w.heap.size ≤ (wq.alloc (Obj.cells #[Value.int .i64 (-1)] 2)).heap.size := by have := PQ.out.bel.size; simp; omega
        go_wp2_with (at_builtin; refine wpList_appI rfl _ _ rfl w.heap.size wv (List.replicate k (-1)) (-1) rfl (PQ.out.row.later ((Below.refl _ _).alloc (Nat.le_refl _) _)) _ 1 rfl (by simp) hul hsz ?_)
        intro g5 cap5 w5 hos hg5 _
        obtain ⟨pn, x6⟩ := (PQ.out.later ((Below.refl _ _).alloc (Nat.le_refl _) (Obj.cells #[Value.int .i64 (-1)] 2))).push hos hg5
        have e0 := x6.cell 3
        have f0 := x6.froz 3
        simp at e0
        try rw [List.length_replicate] at pn
        try rw [List.length_replicate]
        have PN := kide pn
        have hk2 : (k : Int) ≤ 200 := by have := HLT.out; omega
        clear hos hg5 pn x6 p3 lp hul hsz
        go_wp2_with fail
        go_roundw
        case rel => exact ⟨k + 1, _, HLT.out, by go_num, by rw [List.replicate_succ']; exact PN.out⟩
        case measure => have := HLT.out; simp only [intOf]; omega
    · have e9 : k = n := by omega
      subst e9
      clear hpn hlt hk P1
      go_wp2_with fail
      go_ret
      exact ⟨P0, H, wv, rfl, PK.out⟩

end Go.Proofs.Ythoiajpbpoglfaa

/- The painter of a graph without bars: nothing is to be visited. -/
namespace Go.Proofs.Ythoiajpbpoglfaa
set_option linter.unusedVariables false
set_option linter.unusedSimpArgs false
open Go.RowKit

set_option maxHeartbeats 1000000 in
set_option maxRecDepth 100000 in
theorem visit0_any {w0 u : World} {P0 H n vc : Nat} {va : Option Addr} {wv : Value} {ls : List Int} (h : Pn w0 u P0 H va n vc wv ls) :
    Calls Try.prog 35 #[.pointer (some ⟨P0, 0, none⟩), .int .i64 0] u fun e w' => e = .returned (.int .i64 0) ∧ Below u.heap.size u w' := by
  have HP := kide h
  have p2 := h.px.cell 2
  simp at p2
  have lp := h.px.lt
  have lp1 : P0 < u.heap.size + 1 := by omega
  have lp2 : P0 < u.heap.size + 1 + 1 := by omega
  have lp3 : P0 < u.heap.size + 1 + 1 + 1 := by omega
  clear h
  go_enter Try.func35, Try.ntmps35
  go_wp2_with fail
  go_quiet (fail)
  go_wp2_with fail
  refine bodyPost_ret (v := .int .i64 0) (by simp [results, Try.results35, go_sem]) rfl ⟨rfl, ?_⟩
  have hb : Below u.heap.size u (((u.alloc (.cells #[.pointer (some ⟨P0, 0, none⟩)] 64)).alloc (.cells #[.int .i64 0] 3)).alloc (.cells #[.int .i64 0] 2)) := ((((Below.refl _ _).alloc (Nat.le_refl _) _).alloc (by simp) _).alloc (by simp; omega) _)
  first | exact below_drewN hb _ | exact (below_drewN hb _).setCell (by simp; try omega) _

end Go.Proofs.Ythoiajpbpoglfaa

/- What both CrowdOf answer. -/
namespace Go.Proofs.Ythoiajpbpoglfaa
set_option linter.unusedVariables false
set_option linter.unusedSimpArgs false
open Go.RowKit

theorem cnt_good {n : Nat} {s : Yc} (h : gdB n s) (i : Nat) : cntC i s = (if valC (i : Int) s = true then 1 else 0) + (if (othC (i : Int) s).isSome = true then 1 else 0) := by
  obtain ⟨⟨h1, h2⟩, h3⟩ := h
  unfold cntC
  rcases h3 with h3 | ⟨h4, h5, h6, -⟩
  · rw [if_pos h3]
    by_cases a1 : s.v.toNat = i
    · have e : s.v = (i : Int) := by omega
      simp [valC, othC, h3, e]
    · have e : s.v ≠ (i : Int) := by omega
      have e2 : ¬ (-1 : Int) = (i : Int) := by omega
      simp [valC, othC, h3, e, a1, e2]
  · rw [if_neg (by omega)]
    have e3 : ¬ s.lo < 0 := by omega
    by_cases a1 : s.v.toNat = i
    · have e : s.v = (i : Int) := by omega
      have a2 : ¬ s.lo.toNat = i := by omega
      simp [valC, othC, e, e3, a2]
    · have e : s.v ≠ (i : Int) := by omega
      by_cases a2 : s.lo.toNat = i
      · have e2 : s.lo = (i : Int) := by omega
        have a1' : ¬ s.v.toNat = i := a1
        simp [valC, othC, e, e2]
        omega
      · have e2 : s.lo ≠ (i : Int) := by omega
        simp [valC, othC, e, e2, a1, a2]

theorem cnt_sum {n i : Nat} : ∀ (ys : List Yc), (∀ s ∈ ys, gdB n s) → (ys.map (cntC i)).sum = ((ys.filter (valC (i : Int))).length : Int) + ((ys.filterMap (othC (i : Int))).length : Int)
  | [], _ => by simp
  | s :: t, h => by
    rw [List.map_cons, List.sum_cons, cnt_sum t (fun u hu => h u (List.mem_cons_of_mem _ hu)), cnt_good (h s (by simp)) i]
    rw [List.filter_cons, List.filterMap_cons]
    cases e1 : valC (i : Int) s <;> cases e2 : othC (i : Int) s <;> simp [e1, e2] <;> omega

theorem crowd_same {n i : Nat} {ys : List Yc} (h : ∀ s ∈ ys, gdB n s) : crF (setY [] (ys.map nrmC)) i = ((risI [] (othR (i : Int) ys)).length : Int) + ((valR (i : Int) ys).length : Int) := by
  have hD : ∀ s ∈ setY [] (ys.map nrmC), gdB n s ∧ gdN s := fun s hs => by
    rcases (setY_mem _ _ _).1 hs with h0 | h0
    · cases h0
    · obtain ⟨u, hu, rfl⟩ := List.mem_map.1 h0
      exact gdB_nrm (h u hu)
  have hnd : (setY [] (ys.map nrmC)).Nodup := setY_nodup _ _ (by simp)
  rw [crF, crF_sum, cnt_sum _ (fun s hs => (hD s hs).1)]
  have e1 : ((setY [] (ys.map nrmC)).filter (valC (i : Int))).length = (valR (i : Int) ys).length := by
    haveI : DecidableEq Yc := ycDec
    refine nodup_len (List.Pairwise.filter _ hnd) (setY_nodup _ _ (by simp)) (fun s => ?_)
    show s ∈ (setY [] (ys.map nrmC)).filter (valC (i : Int)) ↔ s ∈ setY [] (ys.filter (valC (i : Int)))
    rw [List.mem_filter, setY_mem, setY_mem, List.mem_filter]
    constructor
    · rintro ⟨h0 | h0, hv⟩
      · cases h0
      · obtain ⟨u, hu, e⟩ := List.mem_map.1 h0
        have := valC_nrm (h u hu) (i : Int) e hv
        subst this
        exact .inr ⟨hu, hv⟩
    · rintro (h0 | ⟨h0, hv⟩)
      · cases h0
      · exact ⟨.inr (List.mem_map.2 ⟨s, h0, valC_keep (h s h0) hv⟩), hv⟩
  have e2 : ((setY [] (ys.map nrmC)).filterMap (othC (i : Int))).length = (risI [] (othR (i : Int) ys)).length := by
    refine nodup_len (nodup_fm hnd (fun s hs u hu b h1 h2 => othC_inj (hD s hs).1 (hD u hu).1 (hD s hs).2 (hD u hu).2 (by omega) h1 h2)) (risI_nodup _ _ (by simp)) (fun a => ?_)
    rw [risI_mem, List.mem_filterMap]
    unfold othR
    rw [List.mem_filterMap]
    constructor
    · rintro ⟨s, hs, e⟩
      rcases (setY_mem _ _ _).1 hs with h0 | h0
      · cases h0
      · obtain ⟨u, hu, rfl⟩ := List.mem_map.1 h0
        rw [othC_nrm (h u hu)] at e
        exact .inr ⟨u, hu, e⟩
    · rintro (h0 | ⟨u, hu, e⟩)
      · cases h0
      · exact ⟨nrmC u, (setY_mem _ _ _).2 (.inr (List.mem_map.2 ⟨u, hu, rfl⟩)), by rw [othC_nrm (h u hu)]; exact e⟩
  rw [e1, e2]
  omega

theorem brOk_good {ks : List Int} {s : Yc} (h : brOk ks s = true) (hk : ∀ x ∈ ks, wOk x = true) : gdB ks.length s ∧ (s.lo < 0 → 0 < s.ws.length) ∧ gdY ks.length (nrmC s) := by
  unfold brOk at h
  rw [Bool.and_eq_true] at h
  obtain ⟨h1, h2⟩ := h
  simp [ndOk] at h1
  by_cases e : s.lo = -1
  · rw [if_pos e] at h2
    simp only [Bool.and_eq_true, decide_eq_true_eq, rightB] at h2
    obtain ⟨⟨⟨hw, hl⟩, -⟩, -⟩ := h2
    simp [wOk] at hw
    have hp : 0 < s.ws.length := by omega
    refine ⟨⟨h1, .inl e⟩, fun _ => hp, ?_⟩
    unfold nrmC
    rw [if_pos e]
    exact ⟨h1, .inl ⟨e, hp⟩⟩
  · rw [if_neg e] at h2
    simp only [Bool.and_eq_true, decide_eq_true_eq, ndOk] at h2
    obtain ⟨⟨⟨⟨h3, h4⟩, -⟩, h5⟩, h6⟩ := h2
    refine ⟨⟨h1, .inr ⟨h3.1, h3.2, h4, h5, List.eq_nil_of_length_eq_zero h6⟩⟩, fun hl => by omega, ?_⟩
    unfold nrmC
    rw [if_neg e]
    exact ⟨⟨by simp only []; omega, by simp only []; omega⟩, .inr ⟨by simp only []; omega, by simp only []; omega, by simp only []; omega⟩⟩

/-- How many bars a node has; -1: no right graph, or no node of it. -/
def crwR (ks : List Int) (bs : List Yc) (x : Int) : Int := if graphR ks bs = true ∧ ndOk ks.length x = true then crF (setY [] (bs.map nrmC)) x.toNat else -1

theorem graph_good {ks : List Int} {bs : List Yc} (h : graphR ks bs = true) : ks.length ≤ 200 ∧ bs.length ≤ 1000 ∧ ∀ s ∈ bs, gdB ks.length s ∧ (s.lo < 0 → 0 < s.ws.length) ∧ gdY ks.length (nrmC s) := by
  simp only [graphR, Bool.and_eq_true, decide_eq_true_eq, List.all_eq_true] at h
  obtain ⟨⟨⟨h1, h2⟩, h3⟩, h4⟩ := h
  exact ⟨h1, h2, fun s hs => brOk_good (h4 s hs) h3⟩

set_option maxHeartbeats 1000000 in
theorem implCrowd_any (z : Gz) (x : Int) (w : World) (hz : RdG w z) :
    Calls Try.prog 17 #[z.val, .int .i64 x] w fun e w' => e = .returned (.int .i64 (crwR z.ks (z.bs.map Yg.ct) x)) ∧ Below w.heap.size w w' := by
  obtain ⟨a1, c1, ks, a2, c2, bs⟩ := z
  have hn1 := hz.1.1
  have hb0 : Below w.heap.size w (w.alloc (Obj.cells #[Value.slice a1 ks.length c1, Value.slice a2 bs.length c2] 32)) := (Below.refl _ _).alloc (Nat.le_refl _) _
  have HG := kide (fun u (hu : Below w.heap.size w u) => implGraph_any ⟨a1, c1, ks, a2, c2, bs⟩ u (hz.later hu))
  have HI := kide (fun u => isNode_any a1 a2 ks.length c1 bs.length c2 x u hn1)
  have X0 := kide (Bz.new w #[Value.slice a1 ks.length c1, Value.slice a2 bs.length c2] 32)
  have BW := kide hb0
  simp only [Gz.val] at *
  by_cases hg : graphR ks (bs.map Yg.ct) = true
  · obtain ⟨k200, b1000, good⟩ := graph_good hg
    have HH := kide (fun u (hu : Below w.heap.size w u) => hedgesOf_any ⟨a1, c1, ks, a2, c2, bs⟩ u (hz.later hu) (fun y hy => (good y.ct (List.mem_map.2 ⟨y, hy, rfl⟩)).2.2) (by simp only []; omega) (by simp only []; simpa using b1000))
    simp only [Gz.val] at HH
    rw [hg] at HG
    by_cases hn : ndOk ks.length x = true
    · have hR : crwR ks (bs.map Yg.ct) x = crF (setY [] ((bs.map Yg.ct).map nrmC)) x.toNat := by rw [crwR, if_pos ⟨hg, hn⟩]
      rw [hR]
      have hct : (setG [] (bs.map nrmG)).map Yg.ct = setY [] ((bs.map Yg.ct).map nrmC) := by rw [setG_ct]; simp [List.map_map]; rfl
      rw [hct] at HH
      rw [hn] at HI
      simp [ndOk] at hn
      obtain ⟨i, rfl⟩ : ∃ i : Nat, x = (i : Int) := ⟨x.toNat, by omega⟩
      have hi : i < ks.length := by omega
      have hi2 : (i : Int) < (ks.length : Int) := by omega
      rw [show ((i : Int)).toNat = i by omega]
      generalize crF (setY [] ((bs.map Yg.ct).map nrmC)) = CR at *
      generalize ks.length = n1 at *
      generalize bs.length = n2 at *
      clear hR hct hz good hb0 hg
      go_enter Try.func17, Try.ntmps17
      go_wp2_with fail
      refine Calls.mono (HG.out _ BW.out) ?_
      rintro e w1 ⟨rfl, hb1⟩
      have X1 := kide (X0.out.later hb1)
      have B1 := kide (BW.out.trans (hb1.mono BW.out.size))
      have g0 : w1.cell? ⟨w.heap.size, 0, none⟩ = some (Value.slice a1 n1 c1) := X1.out.cell 0
      have g1 : w1.cell? ⟨w.heap.size, 1, none⟩ = some (Value.slice a2 n2 c2) := X1.out.cell 1
      clear hb1 HG
      go_wp2_with fail
      refine Calls.mono (HI.out _) ?_
      rintro e w2 ⟨rfl, hb2⟩
      have X2 := kide (X1.out.later hb2)
      have B2 := kide (B1.out.trans (hb2.mono B1.out.size))
      clear g0 g1
      have g0 : w2.cell? ⟨w.heap.size, 0, none⟩ = some (Value.slice a1 n1 c1) := X2.out.cell 0
      have g1 : w2.cell? ⟨w.heap.size, 1, none⟩ = some (Value.slice a2 n2 c2) := X2.out.cell 1
      clear hb2 HI
      go_wp2_with fail
      refine Calls.mono (HH.out _ B2.out) ?_
      rintro e w3 ⟨H, rfl, hc3, hb3⟩
      have c3 := hc3 i hi
      have B3 := kide (B2.out.trans (hb3.mono B2.out.size))
      clear hc3 hb3 HH
      go_wp2_with fail
      go_ret
      exact ⟨rfl, B3.out⟩
    · have hn' : ndOk ks.length x = false := by simpa using hn
      have hR : crwR ks (bs.map Yg.ct) x = -1 := by rw [crwR, if_neg (fun h => hn h.2)]
      rw [hR]
      rw [hn'] at HI
      generalize ks.length = n1 at *
      generalize bs.length = n2 at *
      clear hR hz good hb0 hg hn hn' HH
      go_enter Try.func17, Try.ntmps17
      go_wp2_with fail
      refine Calls.mono (HG.out _ BW.out) ?_
      rintro e w1 ⟨rfl, hb1⟩
      have X1 := kide (X0.out.later hb1)
      have B1 := kide (BW.out.trans (hb1.mono BW.out.size))
      have g0 : w1.cell? ⟨w.heap.size, 0, none⟩ = some (Value.slice a1 n1 c1) := X1.out.cell 0
      have g1 : w1.cell? ⟨w.heap.size, 1, none⟩ = some (Value.slice a2 n2 c2) := X1.out.cell 1
      clear hb1 HG
      go_wp2_with fail
      refine Calls.mono (HI.out _) ?_
      rintro e w2 ⟨rfl, hb2⟩
      have B2 := kide (B1.out.trans (hb2.mono B1.out.size))
      clear hb2 HI
      go_wp2_with fail
      go_ret
      exact ⟨rfl, B2.out⟩
  · have hg' : graphR ks (bs.map Yg.ct) = false := by simpa using hg
    have hR : crwR ks (bs.map Yg.ct) x = -1 := by rw [crwR, if_neg (fun h => hg h.1)]
    rw [hR]
    rw [hg'] at HG
    generalize ks.length = n1 at *
    generalize bs.length = n2 at *
    clear hR hz hb0 hg hg' HI
    go_enter Try.func17, Try.ntmps17
    go_wp2_with fail
    refine Calls.mono (HG.out _ BW.out) ?_
    rintro e w1 ⟨rfl, hb1⟩
    have B1 := kide (BW.out.trans (hb1.mono BW.out.size))
    clear hb1 HG
    go_wp2_with fail
    go_ret
    exact ⟨rfl, B1.out⟩

theorem crowdIn (n : Nat) (x : Int) (u : World) : Calls Try.prog 26 #[.int .i64 x, .int .i64 0, .int .i64 ((n : Int) - 1)] u fun e w' => e = .returned (.bool (ndOk n x)) ∧ w' = u := by
  refine (l1In_any x 0 ((n : Int) - 1) u).mono (fun e w' h => ⟨?_, h.2⟩)
  rw [h.1]
  have : decide (0 ≤ x ∧ x ≤ (n : Int) - 1) = ndOk n x := by
    rw [Bool.eq_iff_iff]; simp [ndOk]; omega
  rw [this]

set_option maxHeartbeats 1000000 in
theorem specCrowd_any (z : Gz) (x : Int) (w : World) (hz : RdG w z) :
    Calls Try.prog 18 #[z.val, .int .i64 x] w fun e w' => e = .returned (.int .i64 (crwR z.ks (z.bs.map Yg.ct) x)) ∧ Below w.heap.size w w' := by
  obtain ⟨a1, c1, ks, a2, c2, bs⟩ := z
  have hn1 := hz.1.1
  have hb0 : Below w.heap.size w (w.alloc (Obj.cells #[Value.slice a1 ks.length c1, Value.slice a2 bs.length c2] 32)) := (Below.refl _ _).alloc (Nat.le_refl _) _
  have HG := kide (fun u (hu : Below w.heap.size w u) => specGraph_any ⟨a1, c1, ks, a2, c2, bs⟩ u (hz.later hu))
  have HI := kide (fun u => crowdIn ks.length x u)
  have X0 := kide (Bz.new w #[Value.slice a1 ks.length c1, Value.slice a2 bs.length c2] 32)
  have BW := kide hb0
  simp only [Gz.val] at *
  by_cases hg : graphR ks (bs.map Yg.ct) = true
  · obtain ⟨k200, b1000, good⟩ := graph_good hg
    have HH := kide (fun u (hu : Below w.heap.size w u) => l10Crowd_any ⟨a1, c1, ks, a2, c2, bs⟩ x u (hz.later hu) (fun y hy => (good y.ct (List.mem_map.2 ⟨y, hy, rfl⟩)).2.1) (by simp only []; simpa using b1000))
    simp only [Gz.val] at HH
    rw [hg] at HG
    by_cases hn : ndOk ks.length x = true
    · have hR : crwR ks (bs.map Yg.ct) x = crF (setY [] ((bs.map Yg.ct).map nrmC)) x.toNat := by rw [crwR, if_pos ⟨hg, hn⟩]
      rw [hR]
      rw [hn] at HI
      simp [ndOk] at hn
      obtain ⟨i, rfl⟩ : ∃ i : Nat, x = (i : Int) := ⟨x.toNat, by omega⟩
      have hi : i < ks.length := by omega
      have hi2 : (i : Int) < (ks.length : Int) := by omega
      rw [show ((i : Int)).toNat = i by omega]
      rw [← crowd_same (fun s hs => (good s hs).1)] at HH
      generalize crF (setY [] ((bs.map Yg.ct).map nrmC)) = CR at *
      generalize ks.length = n1 at *
      generalize bs.length = n2 at *
      clear hR hz good hb0 hg
      go_enter Try.func18, Try.ntmps18
      go_wp2_with fail
      refine Calls.mono (HG.out _ BW.out) ?_
      rintro e w1 ⟨rfl, hb1⟩
      have X1 := kide (X0.out.later hb1)
      have B1 := kide (BW.out.trans (hb1.mono BW.out.size))
      have g0 : w1.cell? ⟨w.heap.size, 0, none⟩ = some (Value.slice a1 n1 c1) := X1.out.cell 0
      have g1 : w1.cell? ⟨w.heap.size, 1, none⟩ = some (Value.slice a2 n2 c2) := X1.out.cell 1
      clear hb1 HG
      go_wp2_with fail
      refine Calls.mono (HI.out _) ?_
      rintro e w2 ⟨rfl, hw2⟩
      have hb2 : Below w1.heap.size w1 w2 := by rw [hw2]; exact Below.refl _ _
      clear hw2
      have X2 := kide (X1.out.later hb2)
      have B2 := kide (B1.out.trans (hb2.mono B1.out.size))
      clear g0 g1
      have g0 : w2.cell? ⟨w.heap.size, 0, none⟩ = some (Value.slice a1 n1 c1) := X2.out.cell 0
      have g1 : w2.cell? ⟨w.heap.size, 1, none⟩ = some (Value.slice a2 n2 c2) := X2.out.cell 1
      clear hb2 HI
      go_wp2_with fail
      refine Calls.mono (HH.out _ B2.out) ?_
      rintro e w3 ⟨rfl, hb3⟩
      have B3 := kide (B2.out.trans (hb3.mono B2.out.size))
      clear hb3 HH
      go_wp2_with fail
      go_ret
      exact ⟨rfl, B3.out⟩
    · have hn' : ndOk ks.length x = false := by simpa using hn
      have hR : crwR ks (bs.map Yg.ct) x = -1 := by rw [crwR, if_neg (fun h => hn h.2)]
      rw [hR]
      rw [hn'] at HI
      generalize ks.length = n1 at *
      generalize bs.length = n2 at *
      clear hR hz good hb0 hg hn hn' HH
      go_enter Try.func18, Try.ntmps18
      go_wp2_with fail
      refine Calls.mono (HG.out _ BW.out) ?_
      rintro e w1 ⟨rfl, hb1⟩
      have X1 := kide (X0.out.later hb1)
      have B1 := kide (BW.out.trans (hb1.mono BW.out.size))
      have g0 : w1.cell? ⟨w.heap.size, 0, none⟩ = some (Value.slice a1 n1 c1) := X1.out.cell 0
      have g1 : w1.cell? ⟨w.heap.size, 1, none⟩ = some (Value.slice a2 n2 c2) := X1.out.cell 1
      clear hb1 HG
      go_wp2_with fail
      refine Calls.mono (HI.out _) ?_
      rintro e w2 ⟨rfl, hw2⟩
      have hb2 : Below w1.heap.size w1 w2 := by rw [hw2]; exact Below.refl _ _
      clear hw2
      have B2 := kide (B1.out.trans (hb2.mono B1.out.size))
      clear hb2 HI
      go_wp2_with fail
      go_ret
      exact ⟨rfl, B2.out⟩
  · have hg' : graphR ks (bs.map Yg.ct) = false := by simpa using hg
    have hR : crwR ks (bs.map Yg.ct) x = -1 := by rw [crwR, if_neg (fun h => hg h.1)]
    rw [hR]
    rw [hg'] at HG
    generalize ks.length = n1 at *
    generalize bs.length = n2 at *
    clear hR hz hb0 hg hg' HI
    go_enter Try.func18, Try.ntmps18
    go_wp2_with fail
    refine Calls.mono (HG.out _ BW.out) ?_
    rintro e w1 ⟨rfl, hb1⟩
    have B1 := kide (BW.out.trans (hb1.mono BW.out.size))
    clear hb1 HG
    go_wp2_with fail
    go_ret
    exact ⟨rfl, B1.out⟩

end Go.Proofs.Ythoiajpbpoglfaa

/- Rows of words of one's own: read, told. -/
namespace Go.Proofs.Ythoiajpbpoglfaa
set_option linter.unusedVariables false
set_option linter.unusedSimpArgs false
open Go.RowKit

def bwc : List Bw → List Value
  | [] => []
  | x :: t => .int .i64 x.wd :: .slice x.a x.ws.length x.c :: bwc t
theorem bwc_len (l : List Bw) : (bwc l).length = l.length * 2 := by
  induction l with
  | nil => rfl
  | cons x t ih => simp [bwc, ih]; omega
theorem bwc_append (l m : List Bw) : bwc (l ++ m) = bwc l ++ bwc m := by
  induction l with
  | nil => rfl
  | cons x t ih => simp [bwc, ih]
theorem bwc_get : ∀ {l : List Bw} {i : Nat} {x : Bw}, l[i]? = some x → (bwc l)[i * 2]? = some (.int .i64 x.wd) ∧ (bwc l)[i * 2 + 1]? = some (.slice x.a x.ws.length x.c)
  | y :: t, 0, x, h => by simp at h; subst h; simp [bwc]
  | y :: t, i + 1, x, h => by
    have := bwc_get (l := t) (i := i) (x := x) (by simpa using h)
    rw [show (i + 1) * 2 = i * 2 + 1 + 1 by omega]
    simpa [bwc] using this
theorem bwc_plain (l : List Bw) : ∀ v ∈ bwc l, (∃ x, v = .int .i64 x) ∨ ∃ a n c, v = .slice a n c := by
  induction l with
  | nil => simp [bwc]
  | cons x t ih =>
    intro v hv
    simp [bwc] at hv
    rcases hv with rfl | rfl | hv
    · exact .inl ⟨_, rfl⟩
    · exact .inr ⟨_, _, _, rfl⟩
    · exact ih v hv

/-- An owned row of words. -/
def OB2 (w : World) (B : Nat) (v : Value) (l : List Bw) : Prop := w.ownsRow B 48 2 v l.length (bwc l)

theorem OB2.later {w w' : World} {B : Nat} {v : Value} {l : List Bw} (h : OB2 w B v l) (hb : Below w.heap.size w w') : OB2 w' B v l := World.ownsRow.kept (row := none) h ⟨hb.os, hb.tape, hb.output, hb.size, fun k hk _ => hb.block k hk⟩ (by
  cases h' : v.ownBlock with
  | none => exact .inl rfl
  | some k => exact .inr (by simp))
theorem OB2.lt {w : World} {B : Nat} {v : Value} {l : List Bw} (h : OB2 w B v l) {b : Nat} (hb : v.ownBlock = some b) : B ≤ b ∧ b < w.heap.size := by
  rcases h.2 with ⟨rfl, -⟩ | ⟨g, cap, cur, rfl, hg, hh, -⟩
  · cases hb
  · cases hb
    exact ⟨hg, lt_of_block hh⟩
theorem OB2.typed {w : World} {B : Nat} {v : Value} {l : List Bw} (h : OB2 w B v l) {b : Nat} (hb : v.ownBlock = some b) : ∃ cur, w.heap[b]? = some (.cells cur 48 (0, 0)) := by
  rcases h.2 with ⟨rfl, -⟩ | ⟨g, cap, cur, rfl, hg, hh, -⟩
  · cases hb
  · cases hb
    exact ⟨cur, hh⟩
theorem OB2.nil (w : World) (B : Nat) : OB2 w B (.slice none 0 0) [] := ⟨rfl, .inl ⟨rfl, rfl⟩⟩
theorem OB2.move {w w' : World} {B : Nat} {v : Value} {l : List Bw} (h : OB2 w B v l) (hk : ∀ b, v.ownBlock = some b → w'.heap[b]? = w.heap[b]?) : OB2 w' B v l := by
  refine ⟨h.1, ?_⟩
  rcases h.2 with h0 | ⟨g, cap, cur, rfl, hg, hh, r⟩
  · exact .inl h0
  · exact .inr ⟨g, cap, cur, rfl, hg, (hk g rfl).trans hh, r⟩

theorem OB2.form {w : World} {B : Nat} {v : Value} {l : List Bw} (h : OB2 w B v l) : ∃ a c, v = .slice a l.length c := by
  rcases h.2 with ⟨e, h0⟩ | ⟨g, cap, cur, e, -⟩
  · exact ⟨none, 0, by rw [e, h0]⟩
  · exact ⟨_, _, e⟩

theorem OB2.empty (w : World) (B : Nat) (h : B ≤ w.heap.size) : OB2 (w.alloc (.cells #[] 48)) B (.slice (some ⟨w.heap.size, 0, Option.none⟩) 0 0) [] := World.ownsRow_made w #[] 0 h (Nat.zero_le _) (by simp)
theorem OB2.at {w : World} {B : Nat} {v : Value} {l : List Bw} (h : OB2 w B v l) {i : Nat} {x : Bw} (hi : l[i]? = some x) : ∃ g c, v = .slice (some ⟨g, 0, none⟩) l.length c ∧ w.cell? ⟨g, i * 2, none⟩ = some (.int .i64 x.wd) ∧ w.cell? ⟨g, i * 2 + 1, none⟩ = some (.slice x.a x.ws.length x.c) := by
  have hil := (List.getElem?_eq_some_iff.1 hi).1
  rcases h.2 with ⟨-, h0⟩ | ⟨g, cap, cur, rfl, hg, hh, hc1, hc2, hsz, hcur⟩
  · omega
  · obtain ⟨e0, e1⟩ := bwc_get hi
    rw [← hcur] at e0 e1
    rw [List.getElem?_take, if_pos (by omega)] at e0 e1
    simp only [Array.getElem?_toList] at e0 e1
    exact ⟨g, cap, rfl, by rw [cell_of_row w g _ cur _ _ hh]; exact e0, by rw [cell_of_row w g _ cur _ _ hh]; exact e1⟩
/-- What can be read of it. -/
theorem OB2.rd {w : World} {B : Nat} {v : Value} {l : List Bw} (h : OB2 w B v l) (hl : l.length ≤ 1048576) (hx : ∀ x ∈ l, Rd w x.a x.ws ∧ in64 x.wd) : ∃ a c, v = .slice a l.length c ∧ RdW w a l := by
  by_cases e : l = []
  · subst e
    obtain ⟨a, c, rfl⟩ := h.form
    exact ⟨a, c, rfl, by simp, .inl rfl⟩
  · have h0 : 0 < l.length := List.length_pos_iff.2 e
    obtain ⟨g, c, rfl, -⟩ := h.at (List.getElem?_eq_getElem h0)
    refine ⟨_, c, rfl, hl, .inr ⟨g, 0, rfl, fun i x hi => ?_⟩⟩
    obtain ⟨g', c', e', h1, h2⟩ := h.at hi
    cases e'
    obtain ⟨h3, h4⟩ := hx x (List.mem_of_getElem? hi)
    exact ⟨by rw [Nat.zero_add]; exact h1, by rw [Nat.zero_add]; exact h2, h3, h4⟩

/-- 'append(list, x)' at a step of a region that draws its order; and in a row of operations. -/
theorem step_appB2 (w : World) {ops : Array Oper} {o : Oper} {a : Act} {K : Act → World → Prop} {Q : Exit → Act → World → Prop} {E : Prop} (hgd : o.guard = none) (s x : Operand)
    (ho : o.op = .call { callee := .builtin .append, args := #[s, x], argTypes := #[27, 27] })
    (B : Nat) (v : Value) (l : List Bw) (y : Bw) (hs : a.eval s = v) (hown : OB2 w B v l) (gx c : Nat) (hx : a.eval x = .slice (some ⟨gx, 0, none⟩) 1 c)
    (h0 : w.cell? ⟨gx, 0, none⟩ = some (.int .i64 y.wd)) (h1 : w.cell? ⟨gx, 1, none⟩ = some (.slice y.a y.ws.length y.c)) (hl : l.length ≤ 1073741824) (hB : B ≤ w.heap.size)
    (h : ∀ g cap w', OB2 w' B (.slice (some ⟨g, 0, none⟩) (l.length + 1) cap) (l ++ [y]) → w.grownBy w' v.ownBlock → K (a.put o.dst (.slice (some ⟨g, 0, none⟩) (l.length + 1) cap)) w') :
    if Region.wanted o (yielded ops a.tmps) = true then Oper.wp Try.prog o a w K Q else E := by
  obtain ⟨i0, hi, hz0, hz1, hz2⟩ := info_parts Try.infoBits
  refine step_append_lies w hgd s x 27 ho B 48 i0 _ 2 32 Try.underlying27 hi hz0 hz1 hz2 rfl (by decide) v l.length (bwc l) hs hown ⟨gx, 0, none⟩ 1 c (bwc [y]) hx rfl ?_ ?_ (by decide) ?_ ?_ hB _ rfl ?_
  · intro j u hj
    rw [Addr.add_lit]
    match j, hj with
    | 0, hj => simp [bwc] at hj; subst hj; exact h0
    | 1, hj => simp [bwc] at hj; subst hj; exact h1
    | j + 2, hj => simp [bwc] at hj
  · intro u hu
    simp [bwc] at hu
    rcases hu with rfl | rfl <;> rfl
  · unfold maxLen; omega
  · omega
  · intro g cap w' h1 h2 _ _
    refine h g cap w' ?_ h2
    unfold OB2
    rw [bwc_append, List.length_append]
    exact h1

theorem wpList_appB2 {w : World} {ops : Array Oper} {rest : List Oper} {o : Oper} {a : Act} {Q : Exit → Act → World → Prop} (hgd : o.guard = none) (s x : Operand)
    (ho : o.op = .call { callee := .builtin .append, args := #[s, x], argTypes := #[27, 27] })
    (B : Nat) (v : Value) (l : List Bw) (y : Bw) (hs : a.eval s = v) (hown : OB2 w B v l) (gx c : Nat) (hx : a.eval x = .slice (some ⟨gx, 0, none⟩) 1 c)
    (h0 : w.cell? ⟨gx, 0, none⟩ = some (.int .i64 y.wd)) (h1 : w.cell? ⟨gx, 1, none⟩ = some (.slice y.a y.ws.length y.c)) (hl : l.length ≤ 1073741824) (hB : B ≤ w.heap.size)
    (h : ∀ g cap w', OB2 w' B (.slice (some ⟨g, 0, none⟩) (l.length + 1) cap) (l ++ [y]) → w.grownBy w' v.ownBlock → wpList Try.prog ops Q rest (a.put o.dst (.slice (some ⟨g, 0, none⟩) (l.length + 1) cap)) w') : wpList Try.prog ops Q (o :: rest) a w := by
  obtain ⟨i0, hi, hz0, hz1, hz2⟩ := info_parts Try.infoBits
  refine wpList_append_lies w hgd s x 27 ho B 48 i0 _ 2 32 Try.underlying27 hi hz0 hz1 hz2 rfl (by decide) v l.length (bwc l) hs hown ⟨gx, 0, none⟩ 1 c (bwc [y]) hx rfl ?_ ?_ (by decide) ?_ ?_ hB _ rfl ?_
  · intro j u hj
    rw [Addr.add_lit]
    match j, hj with
    | 0, hj => simp [bwc] at hj; subst hj; exact h0
    | 1, hj => simp [bwc] at hj; subst hj; exact h1
    | j + 2, hj => simp [bwc] at hj
  · intro u hu
    simp [bwc] at hu
    rcases hu with rfl | rfl <;> rfl
  · unfold maxLen; omega
  · omega
  · intro g cap w' h1 h2 _ _
    refine h g cap w' ?_ h2
    unfold OB2
    rw [bwc_append, List.length_append]
    exact h1

/-- No two have a block in common. -/
def DjB (l : List Bw) : Prop := ∀ (i j : Nat) (x y : Bw), i < j → l[i]? = some x → l[j]? = some y → ∀ p q, x.a = some p → y.a = some q → p.block ≠ q.block
theorem DjB.nil : DjB [] := fun i j x y _ h => by simp at h
theorem DjB.snoc {w : World} {B : Nat} {l : List Bw} {x : Bw} (h : DjB l) (hl : ∀ y ∈ l, Nw w B y.a y.ws) (hx : ∀ p, x.a = some p → w.heap.size ≤ p.block) : DjB (l ++ [x]) := fun i j y z hij hi hj p q hp hq => by
  rw [List.getElem?_append] at hi hj
  split at hj
  · rename_i hjl
    rw [if_pos (by omega)] at hi
    exact h i j y z hij hi hj p q hp hq
  · rename_i hjl
    have hj0 : j - l.length = 0 := by have := (List.getElem?_eq_some_iff.1 hj).1; simp at this; omega
    rw [hj0] at hj
    simp at hj
    subst hj
    rw [if_pos (by omega)] at hi
    have h1 := (nw_lt (hl y (List.mem_of_getElem? hi)) hp).2
    have h2 := hx q hq
    omega
theorem DjB.set {w : World} {B k : Nat} {l : List Bw} {x : Bw} (h : DjB l) (hl : ∀ y ∈ l, Nw w B y.a y.ws) (hx : ∀ p, x.a = some p → w.heap.size ≤ p.block) : DjB (l.set k x) := fun i j y z hij hi hj p q hp hq => by
  rw [List.getElem?_set] at hi hj
  split at hi
  · split at hi
    · simp at hi
      subst hi
      split at hj
      · omega
      · have h1 := (nw_lt (hl z (List.mem_of_getElem? hj)) hq).2
        have h2 := hx p hp
        omega
    · cases hi
  · split at hj
    · split at hj
      · simp at hj
        subst hj
        have h1 := (nw_lt (hl y (List.mem_of_getElem? hi)) hp).2
        have h2 := hx q hq
        omega
      · cases hj
    · exact h i j y z hij hi hj p q hp hq

end Go.Proofs.Ythoiajpbpoglfaa

/- Values copied. -/
namespace Go.Proofs.Ythoiajpbpoglfaa
set_option linter.unusedVariables false
set_option linter.unusedSimpArgs false
open Go.RowKit

/-- A row of words of one's own, each in memory of its own. -/
structure Bs (w : World) (B : Nat) (v : Value) (l : List Bw) : Prop where
  row : OB2 w B v l
  nw : ∀ x ∈ l, Nw w B x.a x.ws
  dj : DjB l

theorem Bs.later {w w' : World} {B : Nat} {v : Value} {l : List Bw} (h : Bs w B v l) (hb : Below w.heap.size w w') : Bs w' B v l := ⟨h.row.later hb, fun x hx => (h.nw x hx).later hb, h.dj⟩
theorem Bs.nil (w : World) (B : Nat) : Bs w B (.slice none 0 0) [] := ⟨OB2.nil w B, by simp, DjB.nil⟩
theorem Bs.form {w : World} {B : Nat} {v : Value} {l : List Bw} (h : Bs w B v l) : ∃ a c, v = .slice a l.length c := h.row.form
/-- Words stay where the row of them grows. -/
theorem nw_row {w w' : World} {B C : Nat} {v : Value} {l : List Bw} {a : Option Addr} {xs : List Nat} (h : Nw w C a xs) (ho : OB2 w B v l) (hg : w.grownBy w' v.ownBlock) : Nw w' C a xs :=
  h.kept fun k cur hc => hg.block k (lt_of_block hc) (fun e => by
    obtain ⟨cur', h'⟩ := ho.typed e.symm
    rw [hc] at h'
    cases h')
theorem Bs.app {w w1 w2 : World} {B : Nat} {v v' : Value} {l : List Bw} {y : Bw} (h : Bs w B v l) (hb : Below w.heap.size w w1) (hB : B ≤ w.heap.size) (hy : Nw w1 w.heap.size y.a y.ws) (hg : w1.grownBy w2 v.ownBlock) (ho : OB2 w2 B v' (l ++ [y])) : Bs w2 B v' (l ++ [y]) where
  row := ho
  nw := fun x hx => by
    rcases List.mem_append.1 hx with hx | hx
    · exact nw_row ((h.nw x hx).later hb) (h.row.later hb) hg
    · simp at hx
      subst hx
      exact (nw_row hy (h.row.later hb) hg).mono hB
  dj := h.dj.snoc h.nw fun p hp => (nw_lt hy hp).1

/-- What a call tells that has made a row of words. -/
def RetBs (w : World) (X : List (Int × List Nat)) (e : Ending) (w' : World) : Prop := ∃ v l, e = .returned v ∧ Bs w' w.heap.size v l ∧ l.map Bw.ct = X ∧ Below w.heap.size w w'


end Go.Proofs.Ythoiajpbpoglfaa

/- A row of words of one's own: a place is given another word. -/
namespace Go.Proofs.Ythoiajpbpoglfaa
set_option linter.unusedVariables false
set_option linter.unusedSimpArgs false
open Go.RowKit

theorem bwc_set : ∀ (l : List Bw) (i : Nat) (x : Bw), bwc (l.set i x) = ((bwc l).set (i * 2) (.int .i64 x.wd)).set (i * 2 + 1) (.slice x.a x.ws.length x.c)
  | [], i, x => by simp [bwc]
  | y :: t, 0, x => by simp [bwc]
  | y :: t, i + 1, x => by
    rw [show (i + 1) * 2 = i * 2 + 1 + 1 by omega]
    simp [bwc, bwc_set t i x]
theorem OB2.store {w : World} {B g n c : Nat} {l : List Bw} (h : OB2 w B (.slice (some ⟨g, 0, none⟩) n c) l) (i : Nat) (x : Bw) :
    OB2 ((w.setCell ⟨g, i * 2, none⟩ (.int .i64 x.wd)).setCell ⟨g, i * 2 + 1, none⟩ (.slice x.a x.ws.length x.c)) B (.slice (some ⟨g, 0, none⟩) n c) (l.set i x) := by
  rcases h with ⟨h1, ⟨e, -⟩ | ⟨g', cap, cur, e, hg, hh, hc1, hc2, hsz, hcur⟩⟩
  · cases e
  · cases e
    refine ⟨by rw [bwc_len, List.length_set], .inr ⟨g, c, (cur.setIfInBounds (i * 2) (.int .i64 x.wd)).setIfInBounds (i * 2 + 1) (.slice x.a x.ws.length x.c), by rw [List.length_set], hg, ?_, by rw [List.length_set]; exact hc1, hc2, by simpa using hsz, ?_⟩⟩
    · exact heap_setCell_same _ g _ _ _ _ (heap_setCell_same w g _ _ _ _ hh)
    · rw [List.length_set, bwc_set, ← hcur]
      simp [List.take_set]
theorem OB2.blk {w : World} {B g n c : Nat} {l : List Bw} (h : OB2 w B (.slice (some ⟨g, 0, none⟩) n c) l) : ∃ cur, Bz w g cur 48 := h.typed rfl
theorem Bs.store {w w1 : World} {B g n c i : Nat} {l : List Bw} {x : Bw} (h : Bs w B (.slice (some ⟨g, 0, none⟩) n c) l) (hb : Below w.heap.size w w1) (hB : B ≤ w.heap.size) (hx : Nw w1 w.heap.size x.a x.ws) :
    Bs ((w1.setCell ⟨g, i * 2, none⟩ (.int .i64 x.wd)).setCell ⟨g, i * 2 + 1, none⟩ (.slice x.a x.ws.length x.c)) B (.slice (some ⟨g, 0, none⟩) n c) (l.set i x) where
  row := (h.row.later hb).store i x
  nw := fun y hy => by
    obtain ⟨cur, hc⟩ := (h.row.later hb).blk
    rcases List.mem_or_eq_of_mem_set hy with hy | rfl
    · exact nw_set (nw_set ((h.nw y hy).later hb) hc (by decide) _ _) (hc.set _ _) (by decide) _ _
    · exact (nw_set (nw_set hx hc (by decide) _ _) (hc.set _ _) (by decide) _ _).mono hB
  dj := h.dj.set h.nw fun p hp => (nw_lt hx hp).1
theorem Bs.mono {w : World} {B B' : Nat} {v : Value} {l : List Bw} (h : Bs w B v l) (hB : B' ≤ B) : Bs w B' v l := by
  refine ⟨⟨h.row.1, ?_⟩, fun x hx => (h.nw x hx).mono hB, h.dj⟩
  rcases h.row.2 with h0 | ⟨g, cap, cur, e, hg, r⟩
  · exact .inl h0
  · exact .inr ⟨g, cap, cur, e, Nat.le_trans hB hg, r⟩

end Go.Proofs.Ythoiajpbpoglfaa
