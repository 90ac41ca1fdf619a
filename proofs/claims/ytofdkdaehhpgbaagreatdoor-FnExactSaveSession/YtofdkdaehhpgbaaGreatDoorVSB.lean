/- The writer that SaveSession fills: put. -/
import Derived.Test.YtofdkdaehhpgbaaGreatDoorVSA
namespace Go.Proofs.YtofdkdaehhpgbaaGreatDoor
set_option linter.unusedVariables false
set_option linter.unusedSimpArgs false
open Go.RowKit

theorem Out.bel2 {B1 B2 B : Nat} {w w' : World} (h : Out B1 B2 w w') (hB : B ≤ B1) (hs : B ≤ w.heap.size) : Below B w w' := ⟨h.1, h.2.1, h.2.2.1, h.2.2.2.1, fun k hk => h.2.2.2.2 k (by omega) (.inl (by omega))⟩
theorem out_setRow {B1 B2 g : Nat} {w w' : World} (h : Out B1 B2 w w') (h1 : B1 ≤ g) (h2 : g < B2) (cs : Array Value) : Out B1 B2 w (w'.setRow g cs) :=
  ⟨h.1, h.2.1, h.2.2.1, by rw [size_setRow]; exact h.2.2.2.1, fun k hk hd => (setRow_other w' g k cs (by omega)).trans (h.2.2.2.2 k hk hd)⟩

set_option maxHeartbeats 1000000 in
theorem put_any (G m c : Nat) (a : Option Addr) (r : List Nat) (st : Option (List Nat)) (w : World) (h : Wst G st w) (hr : RdB w a r) (hm : r.length = m) (hm2 : m ≤ 1048576) :
    Calls Tryz.prog 39 #[.pointer (some ⟨G + 1, 0, none⟩), .slice a m c] w (RetW G (putS st r) w) := by
  obtain ⟨p, code, buf, hb, hg, hbs, hp, ⟨rfl, rfl⟩ | ⟨bs, rfl, rfl, rfl, ht⟩⟩ := h
  · have HT := kide (take_none G m p w hb hp hm2)
    have HG := kide hg
    have HCP := kide (fun (u : World) ty => run_copy_none (P := Tryz.prog) u 37 37 ty 5 none a 0 0 m c Tryz.underlying37 Tryz.sizeU8 (by simp))
    have HLT := kide hg.lt
    clear hb hr hg
    go_enter Tryz.func39, Tryz.ntmps39
    go_wp2_with fail
    refine Calls.mono HT.out ?_
    rintro e w1 ⟨rfl, hb1, ho1⟩
    have cp := HCP.out w1
    clear HT HCP
    go_wp2_with fail
    exact bodyPost_end (v := .tuple #[]) (by simp [results, Tryz.results39, go_sem]) rfl ⟨rfl, ⟨p, 1, buf, hb1, HG.out.outs ho1 (.inl (Nat.lt_succ_self _)), hbs, hp, .inl ⟨rfl, rfl⟩⟩, outW ho1 (Nat.le_succ _) (Nat.le_refl _)⟩
  · by_cases hq : bs.length + m ≤ 60000
    · have e : putS (some bs) r = some (bs ++ r) := by unfold putS; simp only [hm, if_pos hq]
      rw [e]
      have HT := kide (take_room G m bs.length (bs.length + m) w hb rfl hq)
      by_cases hz : m = 0
      · have er : r = [] := List.eq_nil_of_length_eq_zero (by omega)
        subst er
        subst hz
        have HCP := kide (fun (u : World) ty d => run_copy_none (P := Tryz.prog) u 37 37 ty 5 d a 0 0 0 c Tryz.underlying37 Tryz.sizeU8 (by simp))
        have HG := kide hg
        have HLT := kide hg.lt
        have HTK := kide ht
        have HP := kide hp
        clear hb hr hg ht hp hq e hm
        go_enter Tryz.func39, Tryz.ntmps39
        go_wp2_with fail
        refine Calls.mono HT.out ?_
        rintro e w1 ⟨ad, rfl, -, hb1, ho1⟩
        have cp := fun ty => HCP.out w1 ty (some ad)
        clear HT HCP
        go_wp2_with fail
        exact bodyPost_end (v := .tuple #[]) (by simp [results, Tryz.results39, go_sem]) rfl ⟨rfl, ⟨bs.length, 0, buf, hb1, HG.out.outs ho1 (.inl (Nat.lt_succ_self _)), hbs, HP.out, .inr ⟨bs, by rw [List.append_nil], rfl, rfl, HTK.out⟩⟩, outW ho1 (Nat.le_succ _) (Nat.le_refl _)⟩
      · obtain rfl | ⟨b, o, rfl, hc⟩ := hr
        · simp at hm; omega
        have hbG : b ≠ G + 1 := fun e => by
          obtain ⟨x, hx⟩ : ∃ x, r[0]? = some x := ⟨r[0]'(by omega), List.getElem?_eq_getElem _⟩
          have h0 := hc 0 (.int .u8 (x : Int)) (by simp [u8s, hx])
          rw [e, hb.cell] at h0
          match o, h0 with
          | 0, h0 => simp at h0
          | 1, h0 => simp at h0
          | 2, h0 => simp at h0
          | 3, h0 => simp at h0
          | o + 4, h0 => simp at h0
        have HCP : Hid (∀ (w1 : World) ty, Out (G + 1) (G + 2) w w1 → (Builtin.copy_ #[37, 37] ty #[.slice (some ⟨G, bs.length, none⟩) m m, .slice (some ⟨b, o, none⟩) m c]).run Tryz.prog w1 = .ok (goInt (u8s r).length) (w1.setRow G (buf.toList.take bs.length ++ u8s r ++ buf.toList.drop (bs.length + (u8s r).length)).toArray)) := fun w1 ty ho =>
          run_copy_row (P := Tryz.prog) w1 37 37 ty 5 G bs.length m m ⟨b, o, none⟩ m c buf 5 (u8s r) Tryz.underlying37 Tryz.sizeU8 (hg.outs ho (.inl (Nat.lt_succ_self _))) (by rw [u8s_len, hm]; simp [Nat.min_def]) (fun j u hj => by
            rw [Addr.add_lit]
            have := hc j u hj
            rw [← this]
            simp only [World.cell?]
            rw [ho.2.2.2.2 b (block_lt_of_cell this) (by omega)]) (by rw [u8s_len]; omega) (u8s_one r)
        have HG := kide hg
        have HLT := kide hg.lt
        have HTK := kide ht
        have HM := kide hm
        have HQ := kide hq
        have HZ := kide hz
        clear hb hc hbG hg ht hp hq e hm hz
        go_enter Tryz.func39, Tryz.ntmps39
        go_wp2_with fail
        refine Calls.mono HT.out ?_
        rintro e w1 ⟨ad, rfl, had, hb1, ho1⟩
        obtain rfl : ad = ⟨G, bs.length, none⟩ := had.resolve_left HZ.out
        have cp := fun ty => HCP.out w1 ty ho1
        have HO1 := kide ho1
        have HB1 := kide hb1
        have g1 := kide (HG.out.outs ho1 (.inl (Nat.lt_succ_self _)))
        clear HT HCP had ho1 hb1
        obtain ⟨buf2, hb2⟩ : ∃ x, (buf.toList.take bs.length ++ u8s r ++ buf.toList.drop (bs.length + (u8s r).length)).toArray = x := ⟨_, rfl⟩
        rw [hb2] at cp
        have HS2 : Hid (buf2.size = 60000 ∧ buf2.toList.take (bs.length + m) = u8s (bs ++ r)) := by
          have h1 := HTK.out
          have h2 := HM.out
          have h3 := HQ.out
          subst hb2
          rw [HTK.out]
          refine ⟨by simp [u8s_len]; omega, ?_⟩
          show ((u8s bs ++ u8s r) ++ _).take (bs.length + m) = _
          rw [u8s_app, List.take_append_of_le_length (by simp [u8s_len]; omega)]
          exact List.take_of_length_le (by simp [u8s_len]; omega)
        clear hb2
        go_wp2_with fail
        exact bodyPost_end (v := .tuple #[]) (by simp [results, Tryz.results39, go_sem]) rfl ⟨rfl, ⟨bs.length + m, 0, buf2, (setRow_other w1 G (G + 1) buf2 (by omega)).trans HB1.out, setRow_heap w1 G _ _ _ _ g1.out, HS2.out.1, HQ.out, .inr ⟨bs ++ r, rfl, rfl, by rw [List.length_append, HM.out], HS2.out.2⟩⟩, out_setRow (outW HO1.out (Nat.le_succ _) (Nat.le_refl _)) (Nat.le_refl _) (by omega) _⟩
    · have e : putS (some bs) r = none := by unfold putS; simp only [hm, if_neg hq]
      rw [e]
      have HT := kide (take_full G m bs.length w hb hp (by omega) hm2)
      have HG := kide hg
      have HCP := kide (fun (u : World) ty => run_copy_none (P := Tryz.prog) u 37 37 ty 5 none a 0 0 m c Tryz.underlying37 Tryz.sizeU8 (by simp))
      have HLT := kide hg.lt
      have HP := kide hp
      clear hb hr hg hq hm e ht hp
      go_enter Tryz.func39, Tryz.ntmps39
      go_wp2_with fail
      refine Calls.mono HT.out ?_
      rintro e w1 ⟨rfl, hb1, ho1⟩
      have cp := HCP.out w1
      clear HT HCP
      go_wp2_with fail
      exact bodyPost_end (v := .tuple #[]) (by simp [results, Tryz.results39, go_sem]) rfl ⟨rfl, ⟨bs.length, 1, buf, hb1, HG.out.outs ho1 (.inl (Nat.lt_succ_self _)), hbs, HP.out, .inl ⟨rfl, rfl⟩⟩, outW ho1 (Nat.le_succ _) (Nat.le_refl _)⟩

end Go.Proofs.YtofdkdaehhpgbaaGreatDoor
