/- A new table; where the kids of a node went. -/
import Derived.Test.YtkkboaiablfdbaaGreatDoorTSG
namespace Go.Proofs.YtkkboaiablfdbaaGreatDoor
set_option linter.unusedVariables false
set_option linter.unusedSimpArgs false
open Go.RowKit Go.WideMaps Go.Maps Go.MapKept Go.ChangeMaps

theorem make_nodes (w : World) : (Instr.makeMap 66 none).run Tryz.prog w = .ok (.map (some w.heap.size)) (w.alloc (.map #[] 0)) := by
  have h := Tryz.underlying66
  simp [Instr.makeMap, go_sem, h]

theorem newArena_any (w : World) : Calls Tryz.prog 28 #[] w fun e w' => ∃ s g, e = .returned (.pointer (some ⟨s, 0, none⟩)) ∧ Ar w' w.heap.size s g (.slice none 0 0) (.map []) [] ∧ Below w.heap.size w w' := by
  have hmm := make_nodes
  go_enter Tryz.func28, Tryz.ntmps28
  go_wp2_with fail
  go_ret
  have o4 : (w.alloc (.map #[] 0)).ownsMap Tryz.prog 100 (plainElem Tryz.prog 2) w.heap.size 0 (.map [] : DataW Unit) := World.ownsMap_made _ _ _ _
  have hb1 : Below w.heap.size w (w.alloc (.map #[] 0)) := (Below.refl _ _).alloc (Nat.le_refl _) _
  have hb2 : Below (w.alloc (.map #[] 0)).heap.size (w.alloc (.map #[] 0)) ((w.alloc (.map #[] 0)).alloc (Obj.cells #[Value.slice none 0 0, Value.map (some w.heap.size)] 68)) := (Below.refl _ _).alloc (Nat.le_refl _) _
  refine ⟨_, w.heap.size, rfl, ⟨Ts.nil _ _, ?_, own_belowN o4 (fun hl => hb2.block _ hl), Ak.start, by simp, Nat.le_refl _⟩, hb1.trans (hb2.mono hb1.size)⟩
  have h9 := Bz.new (w.alloc (.map #[] 0)) #[Value.slice none 0 0, Value.map (some w.heap.size)] 68
  rw [show (w.alloc (Obj.map #[] 0)).heap.size = w.heap.size + 1 by simp] at h9
  exact h9

set_option maxHeartbeats 4000000 in
set_option maxRecDepth 100000 in
theorem movedKids_any (nd : Tc) (wa ka : Option Addr) (wc kc gp n pc M : Nat) (to : List Int) (w : World) (hk : RdI w ka nd.ks) (hp : Ni w M (some ⟨gp, 0, none⟩) to) (hn : to.length = n) (hto : ∀ y ∈ to, in64 y) (hkk : ∀ j ∈ nd.ks, 0 ≤ j ∧ j < (n : Int)) :
    Calls Tryz.prog 44 #[.agg #[Value.int .i64 nd.op, Value.int .i64 nd.vr, Value.int .i64 nd.a, Value.int .i64 nd.b, Value.int .i64 nd.bw, Value.slice wa nd.ws.length wc, Value.slice ka nd.ks.length kc], .slice (some ⟨gp, 0, none⟩) n pc] w fun e w' => ∃ v, e = .returned v ∧ OI w' w.heap.size v (nd.ks.map fun k => to.getD k.toNat 0) ∧ Below w.heap.size w w' := by
  obtain ⟨op, vr, aa, bb, bw, ws, ks⟩ := nd
  simp only [] at hk hkk ⊢
  obtain ⟨nw, hnw⟩ : ∃ n, ws.length = n := ⟨_, rfl⟩
  obtain ⟨nk, hnk⟩ : ∃ n, ks.length = n := ⟨_, rfl⟩
  rw [hnw, hnk]
  have hlk := hk.1
  rw [hnk] at hlk
  have HNK := kide hnk
  have hb0 : Below w.heap.size w (w.alloc (Obj.cells #[Value.int .i64 op, Value.int .i64 vr, Value.int .i64 aa, Value.int .i64 bb, Value.int .i64 bw, Value.slice wa nw wc, Value.slice ka nk kc] 53)) := (Below.refl _ _).alloc (Nat.le_refl _) _
  have X0 := kide (Bz.new w #[Value.int .i64 op, Value.int .i64 vr, Value.int .i64 aa, Value.int .i64 bb, Value.int .i64 bw, Value.slice wa nw wc, Value.slice ka nk kc] 53)
  have BW := kide hb0
  have HK := kide (hk.later hb0)
  have HP := kide (hp.later hb0)
  have HN := kide hn
  have HTO := kide hto
  have HKK := kide hkk
  clear hnw hnk hk hp hn hto hkk hb0
  go_enter Tryz.func44, Tryz.ntmps44
  go_wp2_with fail
  have HBW := kide BW.out.size
  generalize w.alloc (Obj.cells #[Value.int .i64 op, Value.int .i64 vr, Value.int .i64 aa, Value.int .i64 bb, Value.int .i64 bw, Value.slice wa nw wc, Value.slice ka nk kc] 53) = W at *
  go_loopw [5, 11] (fun v q wr => ∃ k : Nat, k ≤ nk ∧ q = .int .i64 (k : Int) ∧ OI wr w.heap.size v ((ks.take k).map fun j => to.getD j.toNat 0) ∧ (∀ b, v.ownBlock = some b → W.heap.size ≤ b) ∧ Below W.heap.size W wr) (fun _ q _ => nk - (intOf q).toNat)
  case atStart => exact ⟨0, Nat.zero_le _, rfl, ⟨rfl, .inl ⟨rfl, rfl⟩⟩, (fun b h => by cases h), Below.refl _ _⟩
  case round =>
    obtain ⟨k, hk, rfl, hown, hov, hst⟩ := hrel
    have HO := kide hown
    have HOV := kide hov
    have HST := kide hst
    clear hown hov hst
    by_cases hlt : k < nk
    · have i0 : (k : Int) < (nk : Int) := by omega
      obtain ⟨-, -, h | ⟨b3, o3, rfl, hc⟩⟩ := HK.out.later HST.out
      · rw [← HNK.out, h] at hlt; simp at hlt
      have p0 := hc k (by rw [HNK.out]; exact hlt)
      have hkm : ks[k]? = some (ks.getD k 0) := by
        have : k < ks.length := by rw [HNK.out]; exact hlt
        rw [List.getElem?_eq_getElem this]; simp [List.getD, this]
      obtain ⟨y, hy⟩ : ∃ y, ks.getD k 0 = y := ⟨_, rfl⟩
      rw [hy] at p0 hkm
      have hyr := HKK.out y (List.mem_of_getElem? hkm)
      obtain ⟨yn, rfl⟩ : ∃ yn : Nat, y = (yn : Int) := ⟨y.toNat, by omega⟩
      have hyn : yn < to.length := by rw [HN.out]; omega
      have hyi : (yn : Int) < (n : Int) := hyr.2
      have p1 := ((HP.out.later HST.out).cell hyn).1
      have HX : Hid ((ks.take (k + 1)).map (fun j => to.getD j.toNat 0) = (ks.take k).map (fun j => to.getD j.toNat 0) ++ [to.getD yn 0]) := by
        show _ = _
        rw [List.take_add_one, hkm]
        simp
      obtain ⟨z, hz⟩ : ∃ z, to.getD yn 0 = z := ⟨_, rfl⟩
      rw [hz] at p1 HX
      have hul : ((ks.take k).map (fun j => to.getD j.toNat 0)).length ≤ 1073741824 := by simp; omega
      obtain ⟨L0, hL0⟩ : ∃ L0, (ks.take k).map (fun j => to.getD j.toNat 0) = L0 := ⟨_, rfl⟩
      rw [hL0] at HO HX hul
      have hbn : Below wr.heap.size wr (wr.alloc (Obj.cells #[Value.int .i64 z] 2)) := (Below.refl _ _).alloc (Nat.le_refl _) _
      have S3 := kide (HST.out.trans (hbn.mono HST.out.size))
      have O3 := kide (HO.out.later hbn)
      have XN := kide (Bz.new wr #[Value.int .i64 z] 2)
      have HB3 : Hid (w.heap.size ≤ (wr.alloc (Obj.cells #[Value.int .i64 z] 2)).heap.size) := Nat.le_trans (Nat.le_trans HBW.out HST.out.size) hbn.size
      clear hc hbn hy hkm hL0 hz hyn
      go_wp2_with (at_builtin; refine wpList_appI rfl _ _ rfl w.heap.size _ L0 z rfl O3.out wr.heap.size 1 (by first | rfl | simp [Act.eval]) (XN.out.cell 0) hul HB3.out ?_)
      intro g7 c7 w7 hos hg hat
      have O7 := kide hos
      have S7 := kide (Below.grown S3.out hg (Nat.le_trans (Nat.le_refl _) S3.out.size) (fun j hj => HOV.out j hj))
      have V7 : Hid (∀ b, (Value.slice (some ⟨g7, 0, none⟩) (L0.length + 1) c7).ownBlock = some b → W.heap.size ≤ b) := fun b hb => by
        cases hb
        rcases hat with h | h
        · exact HOV.out _ h
        · rw [h]; have := S3.out.size; simpa using this
      clear hos hg hat p0 p1
      go_wp2_with fail
      go_roundw
      case rel => exact ⟨k + 1, by omega, by go_num, by rw [HX.out]; exact O7.out, V7.out, S7.out⟩
      case measure => simp [intOf]; omega
    · have hfin : Hid ((ks.take k) = ks) := by show _ = _; rw [List.take_of_length_le (by rw [HNK.out]; omega)]
      rw [hfin.out] at HO
      go_wp2_with fail
      go_ret
      exact ⟨_, rfl, HO.out, BW.out.trans (HST.out.mono BW.out.size)⟩

end Go.Proofs.YtkkboaiablfdbaaGreatDoor
