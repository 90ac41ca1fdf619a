/- Touching: varsIn. -/
import Derived.Test.YtheglnkndjheaaaGreatDoorTQB
import Derived.Test.YtheglnkndjheaaaGreatDoorBTX
import Derived.Test.YtheglnkndjheaaaGreatDoorEG
namespace Go.Proofs.YtheglnkndjheaaaGreatDoor
set_option linter.unusedVariables false
set_option linter.unusedSimpArgs false
open Go.RowKit

/-- All nodes of literals, in turn. -/
def nodL (xs : List Lg) : List Tc := xs.flatMap fun x => (x.ss ++ x.ts).map Tg.ct

theorem varL_append (a b : List Tc) : varL (a ++ b) = varL a ++ varL b := by simp [varL]

theorem nodL_take {xs : List Lg} {k : Nat} {x : Lg} (h : xs[k]? = some x) : nodL (xs.take (k + 1)) = nodL (xs.take k) ++ (x.ss ++ x.ts).map Tg.ct := by
  unfold nodL
  rw [List.take_add_one, h]
  simp

theorem nodL_len (m : Nat) : ∀ xs : List Lg, (∀ x ∈ xs, x.ss.length ≤ m ∧ x.ts.length ≤ m) → (nodL xs).length ≤ xs.length * (2 * m)
  | [], _ => by simp [nodL]
  | x :: t, h => by
    have ih := nodL_len m t (fun y hy => h y (List.mem_cons_of_mem _ hy))
    obtain ⟨h1, h2⟩ := h x List.mem_cons_self
    have e : nodL (x :: t) = (x.ss ++ x.ts).map Tg.ct ++ nodL t := by simp [nodL]
    rw [e, List.length_append, List.length_map, List.length_append, List.length_cons, Nat.succ_mul]
    omega

theorem RdT.some {w : World} {a : Option Addr} {l : List Tg} (h : RdT w a l) (h0 : 0 < l.length) : ∃ b o, a = some ⟨b, o, none⟩ := by
  obtain ⟨-, h | ⟨b, o, e, -⟩⟩ := h
  · rw [h] at h0; simp at h0
  · exact ⟨b, o, e⟩

/-- A row of nodes stays where a row of numbers grows. -/
theorem OT.aside {w w' : World} {B C : Nat} {v u : Value} {l : List Tg} {xs : List Int} (h : OT w B v l) (ho : OW w C u xs) (hg : w.grownBy w' u.ownBlock) : OT w' B v l :=
  h.move fun b hb => hg.block b (h.lt hb).2 (fun e => by
    obtain ⟨c1, h1⟩ := h.typed hb
    obtain ⟨⟨c2, h2⟩, -⟩ := owr_typed ho e.symm
    rw [h1] at h2
    simp at h2)

set_option maxHeartbeats 1000000 in
theorem varsIn_any (b : Option Addr) (c2 n : Nat) (xs : List Lg) (w : World) (hs : RdL w b xs) (hn : xs.length = n) (hn6 : n ≤ 60) (hp : ∀ x ∈ xs, (0 < x.ss.length ∧ x.ss.length ≤ 400) ∧ 0 < x.ts.length ∧ x.ts.length ≤ 400) :
    Calls Tryz.prog 45 #[.slice b n c2] w fun e w' => ∃ v, e = .returned v ∧ OW w' w.heap.size v (Go.Lib.compact ((varL (nodL xs)).mergeSort fun x y => decide (x ≤ y))) ∧ Below w.heap.size w w' := by
  have HL : Hid ((varL (nodL xs)).length ≤ 48000) := by
    show _ ≤ _
    have h1 := varL_len (nodL xs)
    have h2 := nodL_len 400 xs (fun x hx => ⟨(hp x hx).1.2, (hp x hx).2.2⟩)
    rw [hn] at h2
    omega
  have HLK : Hid (∀ k, (varL (nodL (xs.take k))).length ≤ 48000) := fun k => by
    have h1 := varL_len (nodL (xs.take k))
    have h2 := nodL_len 400 (xs.take k) (fun x hx => ⟨(hp x (List.mem_of_mem_take hx)).1.2, (hp x (List.mem_of_mem_take hx)).2.2⟩)
    have h4 : (xs.take k).length ≤ n := by rw [List.length_take, hn]; omega
    have h5 : (xs.take k).length * (2 * 400) ≤ 60 * 800 := Nat.mul_le_mul (by omega) (by omega)
    omega
  have HN6 := kide hn6
  have HP := kide hp
  have HS := kide hs
  have HN := kide hn
  clear hs hn hp hn6
  go_enter Tryz.func45, Tryz.ntmps45
  go_wp2_with fail
  go_loopw [3, 10] (fun o q wr => ∃ k : Nat, k ≤ n ∧ q = .int .i64 (k : Int) ∧ OW wr w.heap.size o (varL (nodL (xs.take k))) ∧ Below w.heap.size w wr) (fun _ q _ => n - (intOf q).toNat)
  case atStart => exact ⟨0, Nat.zero_le _, rfl, OW.nils _ _, Below.refl _ _⟩
  case round =>
    obtain ⟨k, hk, rfl, how, hb⟩ := hrel
    have HO := kide how
    have HB := kide hb
    clear how
    by_cases hlt : k < n
    · have i0 : (k : Int) < (n : Int) := by omega
      obtain ⟨x, gx⟩ : ∃ x, xs[k]? = some x := ⟨xs[k]'(by rw [HN.out]; exact hlt), List.getElem?_eq_getElem _⟩
      obtain ⟨b3, o3, rfl, ⟨p0, p1, p2, p3⟩, r1, r2, r3⟩ := (HS.out.later hb).at gx
      obtain ⟨⟨z1, z2⟩, z3, z4⟩ := HP.out x (List.mem_of_getElem? gx)
      have HST := kide (nodL_take gx)
      have hul := HLK.out k
      obtain ⟨id, q, ss, sa, sc, ts, ta, tc⟩ := x
      simp only [] at p0 p1 p2 p3 r1 r2 z1 z2 z3 z4 HST
      obtain ⟨g1, o1, rfl⟩ := r1.some z1
      obtain ⟨g2, o2, rfl⟩ := r2.some z3
      have R1 := kide r1
      have R2 := kide r2
      obtain ⟨sn, hsn⟩ : ∃ sn, ss.length = sn := ⟨_, rfl⟩
      obtain ⟨tn, htn⟩ : ∃ tn, ts.length = tn := ⟨_, rfl⟩
      rw [hsn] at p2 z1 z2
      rw [htn] at p3 z3 z4
      have SN := kide hsn
      have TN := kide htn
      have Z := kide (And.intro (And.intro z1 z2) (And.intro z3 z4))
      have hbx : Below wr.heap.size wr ((wr.alloc (Obj.cells #[Value.int .i64 id, Value.bool q, Value.slice (some ⟨g1, o1, none⟩) sn sc, Value.slice (some ⟨g2, o2, none⟩) tn tc] 62)).alloc (Obj.cells #[Value.slice (some ⟨g1, o1, none⟩) sn sc, Value.slice (some ⟨g2, o2, none⟩) tn tc] 58)) := ((Below.refl _ _).alloc (Nat.le_refl _) _).alloc (by simp) _
      have BX := kide hbx
      have HUL := kide hul
      clear gx r1 r2 r3 hsn htn z1 z2 z3 z4 hbx hul HL HLK
      go_wp2_with fail
      refine Calls.mono (concatT_any (wr.heap.size + 1) g1 o1 sn sc g2 o2 tn tc ss ts _ (by simp [go_sem]) (by simp [go_sem]) (R1.out.later BX.out) SN.out (R2.out.later BX.out) TN.out Z.out.2.1) ?_
      rintro e w3 ⟨v3, rfl, ho3, hb3⟩
      obtain ⟨a4, c4, rfl⟩ := ho3.form
      have BK := kide (hb.trans ((BX.out.trans (hb3.mono (by simp; omega))).mono hb.size))
      have OK := kide (HO.out.later (BX.out.trans (hb3.mono (by simp; omega))))
      obtain ⟨D, hD⟩ : ∃ D, D = ((wr.alloc (Obj.cells #[Value.int .i64 id, Value.bool q, Value.slice (some ⟨g1, o1, none⟩) sn sc, Value.slice (some ⟨g2, o2, none⟩) tn tc] 62)).alloc (Obj.cells #[Value.slice (some ⟨g1, o1, none⟩) sn sc, Value.slice (some ⟨g2, o2, none⟩) tn tc] 58)).heap.size := ⟨_, rfl⟩
      have NK : Hid (OT w3 D (.slice a4 (ss ++ ts).length c4) (ss ++ ts)) := by rw [hD]; exact ho3
      have hm : Hid ((ss ++ ts).length ≤ 800) := by show _ ≤ _; have := Z.out; have := SN.out; have := TN.out; rw [List.length_append]; omega
      generalize ss ++ ts = ns at *
      obtain ⟨m, hml⟩ : ∃ m, ns.length = m := ⟨_, rfl⟩
      rw [hml] at NK hm ⊢
      have ML := kide hml
      clear ho3 hb3 hD hml BX hb HO HB p0 p1 p2 p3 R1 R2 SN TN Z HP HS
      have HST2 : Hid (varL (nodL (xs.take (k + 1))) = varL (nodL (xs.take k)) ++ varL (ns.map Tg.ct)) := by show _ = _; rw [HST.out, varL_append]
      generalize varL (nodL (xs.take k)) = rs at *
      go_wp2_with fail
      go_loopw [3, 23] (fun o q wi => ∃ j : Nat, j ≤ m ∧ q = .int .i64 (j : Int) ∧ OW wi w.heap.size o (rs ++ varL ((ns.map Tg.ct).take j)) ∧ OT wi D (.slice a4 m c4) ns ∧ Below w.heap.size w wi) (fun _ q _ => m - (intOf q).toNat)
      case atStart => exact ⟨0, Nat.zero_le _, rfl, by simpa [varL] using OK.out, NK.out, BK.out⟩
      case round =>
        obtain ⟨j, hj, rfl, how, hot, hbi⟩ := hrel
        have HO := kide how
        have HT := kide hot
        have HB := kide hbi
        clear how OK NK BK
        by_cases hjl : j < m
        · have i1 : (j : Int) < (m : Int) := by omega
          obtain ⟨⟨s1, wa, wc, ka, kc⟩, gx⟩ : ∃ x, ns[j]? = some x := ⟨ns[j]'(by rw [ML.out]; exact hjl), List.getElem?_eq_getElem _⟩
          have gn : (ns.map Tg.ct)[j]? = some s1 := by rw [List.getElem?_map, gx]; rfl
          obtain ⟨g, c, e, p0, p1, p2, p3, p4, p5, p6⟩ := hot.at gx
          cases e
          simp only [Tg.hd] at p0 p1 p2 p3 p4 p5 p6
          have HX := kide (varL_take gn)
          obtain ⟨op, vr, aa, bb, bw, ws, ks⟩ := s1
          simp only [] at p0 p1 p2 p3 p4 p5 p6 HX
          have hul : (rs ++ varL ((ns.map Tg.ct).take j)).length ≤ 1073741824 := by
            have h1 := varL_len ((ns.map Tg.ct).take j)
            have h2 := List.length_take_le j (ns.map Tg.ct)
            have := HUL.out
            have := hm.out
            rw [List.length_append]; omega
          generalize ws.length = wn at *
          generalize ks.length = kn at *
          have hbn : Below wr.heap.size wr (wr.alloc (Obj.cells #[.int .i64 op, .int .i64 vr, .int .i64 aa, .int .i64 bb, .int .i64 bw, .slice wa wn wc, .slice ka kn kc] 104)) := (Below.refl _ _).alloc (Nat.le_refl _) _
          have B3 := kide (hbi.trans (hbn.mono hbi.size))
          have O3 := kide (HO.out.later hbn)
          have T3 := kide (HT.out.later hbn)
          have hsz := B3.out.size
          have hsz0 := hbi.size
          clear gx gn hbn hbi hot
          by_cases hop : op = 1
          · subst hop
            rw [if_pos rfl] at HX
            go_wp2_with (at_builtin; refine wpList_appW rfl _ _ rfl w.heap.size _ (rs ++ varL ((ns.map Tg.ct).take j)) vr rfl (World.ownsRow.alloc O3.out _) _ rfl (by simp) hul (by simp at hsz ⊢; omega) ?_)
            intro v7 w7 hos hg
            have B7 := kide (Below.grown (B3.out.alloc hsz (Obj.cells #[Value.int .i64 vr] 2)) hg (by simp at hsz ⊢; omega) (fun j hj => (O3.out.lt hj).1))
            have O7 := kide hos
            have T7 := kide (OT.aside (T3.out.later ((Below.refl _ _).alloc (Nat.le_refl _) (Obj.cells #[Value.int .i64 vr] 2))) (World.ownsRow.alloc O3.out _) hg)
            clear hos hg p0 p1 p2 p3 p4 p5 p6
            go_wp2_with fail
            have hm8 := hm.out
            have e1 : wrap64 ((j : Int) + 1) = ((j + 1 : Nat) : Int) := by unfold wrap64; omega
            rw [e1]
            go_roundw
            case rel => exact ⟨j + 1, by omega, rfl, by rw [HX.out]; first | exact O7.out | (rw [← List.append_assoc]; exact O7.out), T7.out, B7.out⟩
            case measure => simp only [intOf, Int.toNat_natCast]; omega
          · have he : (op == 1) = false := by simpa using hop
            rw [if_neg hop, List.append_nil] at HX
            clear hop
            go_wp2_with fail
            have hm8 := hm.out
            have e1 : wrap64 ((j : Int) + 1) = ((j + 1 : Nat) : Int) := by unfold wrap64; omega
            rw [e1]
            go_roundw
            case rel => exact ⟨j + 1, by omega, rfl, by rw [HX.out]; exact O3.out, T3.out, B3.out⟩
            case measure => simp only [intOf, Int.toNat_natCast]; omega
        · have hfin : Hid ((ns.map Tg.ct).take j = ns.map Tg.ct) := List.take_of_length_le (by rw [List.length_map, ML.out]; omega)
          rw [hfin.out] at HO
          clear hfin hbi hot HT
          go_wp2_with fail
          have hn6 := HN6.out
          have e1 : wrap64 ((k : Int) + 1) = ((k + 1 : Nat) : Int) := by unfold wrap64; omega
          rw [e1]
          go_roundw
          case rel => exact ⟨k + 1, by omega, rfl, by rw [HST2.out]; exact HO.out, HB.out⟩
          case measure => simp only [intOf, Int.toNat_natCast]; omega
    · have hfin : xs.take k = xs := List.take_of_length_le (by rw [HN.out]; omega)
      rw [hfin] at HO
      have HL2 : Hid ((varL (nodL xs)).length ≤ 1048576) := Nat.le_trans HL.out (by decide)
      clear hb hfin HLK HP HN6
      obtain ⟨zs, hz⟩ : ∃ zs, varL (nodL xs) = zs := ⟨_, rfl⟩
      rw [hz] at HO HL2
      have HZ := kide hz
      clear hz
      go_wp2_with fail
      refine Calls.mono (sort_own _ _ _ _ HO.out HL2.out) ?_
      rintro e w3 ⟨rfl, ho3, hg3⟩
      have B3 := kide (Below.grown HB.out hg3 HB.out.size (fun j hj => (HO.out.lt hj).1))
      have O3 := kide ho3
      clear ho3 hg3 HO HB
      go_wp2_with fail
      refine Calls.mono (compact_own _ _ _ _ O3.out (by rw [List.length_mergeSort]; exact HL2.out)) ?_
      rintro e w4 ⟨v4, rfl, ho4, hg4⟩
      have B4 := kide (Below.grown B3.out hg4 B3.out.size (fun j hj => (O3.out.lt hj).1))
      have O4 := kide ho4
      clear ho4 hg4 O3 B3
      go_wp2_with fail
      go_ret
      exact ⟨_, rfl, by rw [HZ.out]; exact O4.out, B4.out⟩

end Go.Proofs.YtheglnkndjheaaaGreatDoor
