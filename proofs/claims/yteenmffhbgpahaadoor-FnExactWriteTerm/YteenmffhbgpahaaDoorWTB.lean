/- Numbers in decimal and the words of lists, by the given text. -/
import Derived.Test.YteenmffhbgpahaaDoorWTA
import Derived.Test.YteenmffhbgpahaaDoorZWB
import Derived.Test.YteenmffhbgpahaaDoorWIJ
import Derived.Laws.IdiomStrings
import Derived.Lib.SmallJoins
import Derived.Handy
namespace Go.Proofs.YteenmffhbgpahaaDoor
set_option linter.unusedVariables false
set_option linter.unusedSimpArgs false
open Go.RowKit

theorem u8_dig {k : Nat} : IntKind.u8.wrap (48 + ((k : Nat) : Int) % 10) = 48 + ((k : Nat) : Int) % 10 := by
  rw [IntKind.wrap]
  simp [IntKind.signed, IntKind.bits]
  omega

set_option maxHeartbeats 1000000 in
set_option maxRecDepth 100000 in
theorem l1Dec_any (N : Nat) (hN : N ≤ 1000000) (w : World) :
    Calls Tryd.prog 32 #[.int .i64 (N : Int)] w fun e w' => e = .returned (.string (txt (decN N))) ∧ Below w.heap.size w w' := by
  by_cases h0 : N = 0
  · subst h0
    go_enter Tryd.func32, Tryd.ntmps32
    go_wp2_with fail
    go_ret
    exact ⟨by rw [decN_zero]; rfl, Below.refl _ _⟩
  · have e0 : ((N : Int) == 0) = false := by simp; omega
    have e1 : ¬ (N : Int) = 0 := by omega
    have HR : Hid (restN N = decN N) := by show _ = _; unfold restN; rw [if_neg h0]
    have HN0 := kide hN
    clear h0 hN
    go_enter Tryd.func32, Tryd.ntmps32
    go_wp2_with fail
    go_loopw [3, 0] (fun s i wr => ∃ (k : Nat) (l : List Nat), k ≤ N ∧ i = .int .i64 (k : Int) ∧ s = .string (txt l) ∧ restN k ++ l = decN N ∧ Below w.heap.size w wr) (fun _ i _ => (intOf i).toNat)
    case atStart => exact ⟨N, [], Nat.le_refl _, rfl, rfl, by rw [List.append_nil]; exact HR.out, Below.refl _ _⟩
    case round =>
      obtain ⟨k, l, hk, rfl, rfl, hz, hbel⟩ := hrel
      have HB := kide hbel
      have HZ := kide hz
      have HK := kide hk
      by_cases hlt : 0 < k
      · have HLT := kide hlt
        have i0 : (0 : Int) < (k : Int) := by omega
        have hu8 := u8_dig (k := k)
        have hcv : (convert 61 9 (.slice (some ⟨wr.heap.size, 0, none⟩) 1 1)).run Tryd.prog (wr.alloc (Obj.cells #[Value.int .u8 (48 + (k : Int) % 10)] 5)) = .ok (.string ⟨#[UInt8.ofNat (48 + k % 10)]⟩) (wr.alloc (Obj.cells #[Value.int .u8 (48 + (k : Int) % 10)] 5)) := by
          have h := run_convert_bytes_back (P := Tryd.prog) (wr.alloc (Obj.cells #[Value.int .u8 (48 + (k : Int) % 10)] 5)) 61 9 5 ⟨wr.heap.size, 0, none⟩ 1 [UInt8.ofNat (48 + k % 10)] Tryd.underlying61 Tryd.underlying5 Tryd.underlying9 (fun j hj => by
            have hj0 : j = 0 := by simpa using hj
            subst hj0
            have e : ((UInt8.ofNat (48 + k % 10)).toNat : Int) = 48 + (k : Int) % 10 := by
              rw [UInt8.toNat_ofNat']
              omega
            rw [Addr.add_lit]
            simp [e]
            omega)
          exact h
        have hll : l.length ≤ 1000001 := by
          have h1 := congrArg List.length hz
          have h2 := decN_len N
          have := HN0.out
          rw [List.length_append] at h1
          omega
        have hsz : (txt l).size ≤ 1000001 := by rw [txt_sizeT]; exact hll
        generalize hs1 : (⟨#[UInt8.ofNat (48 + k % 10)]⟩ : ByteArray) = s1 at hcv
        have hs1z : s1.size ≤ 1 := by rw [← hs1]; exact Nat.le_refl _
        have HS1 := kide hs1
        obtain ⟨tl, htl⟩ : ∃ t, txt l = t := ⟨_, rfl⟩
        have HTL := kide htl
        rw [htl] at hsz ⊢
        have HWR : Hid (wrap64 ((k : Int) / 10) = ((k / 10 : Nat) : Int)) := by
          show _ = _
          have := HN0.out
          unfold wrap64
          omega
        have HSZ := kide hsz
        have HS1Z := kide hs1z
        have hcat : (s1.size : Int) + (tl.size : Int) ≤ 9223372036854775807 := by omega
        clear hz hbel hk hlt hll hs1 htl hsz hs1z
        go_wp2_with fail
        rw [HWR.out]
        go_roundw
        case rel =>
          refine ⟨k / 10, (48 + k % 10) :: l, by have := HK.out; omega, rfl, ?_, ?_, HB.out.alloc HB.out.size _⟩
          · congr 1
            rw [← HS1.out, ← HTL.out]
            show _ = txt ([48 + k % 10] ++ l)
            rw [txt_appT]
            rfl
          · have h1 := HZ.out
            rw [restN_step HLT.out, List.append_assoc] at h1
            exact h1
        case measure => have := HLT.out; simp only [intOf, Int.toNat_natCast]; omega
      · have hk0 : k = 0 := by omega
        subst hk0
        have HE : Hid (l = decN N) := by have h := hz; simp [restN] at h; exact h
        clear hz hbel hk hlt
        go_wp2_with fail
        go_ret
        exact ⟨by rw [HE.out]; rfl, HB.out⟩

theorem l3Word_any (op : Int) (h3 : 3 ≤ op) (h9 : op ≤ 9) (w : World) :
    Calls Tryd.prog 30 #[.int .i64 op] w fun e w' => e = .returned (.string (txt (wordN op))) ∧ Below w.heap.size w w' := by
  obtain rfl | rfl | rfl | rfl | rfl | rfl | rfl : op = 3 ∨ op = 4 ∨ op = 5 ∨ op = 6 ∨ op = 7 ∨ op = 8 ∨ op = 9 := by omega
  all_goals
    clear h3 h9
    go_enter Tryd.func30, Tryd.ntmps30
    go_wp2_with fail
    go_ret
    exact ⟨rfl, (Below.refl _ _).alloc (Nat.le_refl _) _⟩

theorem l3Parts_any (op : Int) (h3 : 3 ≤ op) (h9 : op ≤ 9) (w : World) :
    Calls Tryd.prog 31 #[.int .i64 op] w fun e w' => e = .returned (.int .i64 (if op = 4 then 2 else if 4 < op then 1 else 0)) ∧ w' = w := by
  obtain rfl | rfl | rfl | rfl | rfl | rfl | rfl : op = 3 ∨ op = 4 ∨ op = 5 ∨ op = 6 ∨ op = 7 ∨ op = 8 ∨ op = 9 := by omega
  all_goals
    clear h3 h9
    go_enter Tryd.func31, Tryd.ntmps31
    go_wp2_with fail
    go_ret
    exact ⟨rfl, rfl⟩

end Go.Proofs.YteenmffhbgpahaaDoor
