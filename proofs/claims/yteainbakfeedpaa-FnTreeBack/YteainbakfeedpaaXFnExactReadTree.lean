/- The law FnExactReadTree returns true, whatever it is handed. -/
import Derived.Test.YteainbakfeedpaaVK
import Derived.Test.YteainbakfeedpaaVN
import Derived.Test.YteainbakfeedpaaTP
namespace Go.Proofs.Yteainbakfeedpaa
set_option linter.unusedVariables false
set_option linter.unusedSimpArgs false
open Go.RowKit

theorem specRead_any (s : ByteArray) (w : World) (hs : s.size ≤ 9223372036854775807) :
    Calls Try.prog 15 #[.string s] w (RetR (readT s) w) := by
  by_cases hlong : 20000 < s.size
  · have hi : (20000 : Int) < (s.size : Int) := by omega
    have hz : readT s = ([], 1, 0) := by rw [readT, if_pos hlong]
    rw [hz]
    clear hz
    go_enter Try.func15, Try.ntmps15
    go_wp2_with fail
    exact bodyPost_ret (v := .tuple #[.agg #[.slice none 0 0], .int .i64 1, .int .i64 0]) (by simp [results, Try.results15, go_sem]) rfl ⟨_, [], rfl, ONs.nil _ _, rfl, (Below.refl _ _).alloc (Nat.le_refl _) _⟩
  · have hz : readT s = readF s (s.size + 1) 0 [] [] := by rw [readT, if_neg hlong]
    rw [hz]
    exact specRead_in s w (by omega)

theorem ONs.kl {w : World} {B : Nat} {v : Value} {ns : List Nd} (h : ONs w B v ns) : ∀ n ∈ ns, n.ks.length ≤ 2000 := fun n hn => by
  obtain ⟨i, hi⟩ := List.getElem?_of_mem hn
  exact (h.fit i n hi).len

set_option maxHeartbeats 2000000 in
set_option maxRecDepth 100000 in
theorem lawS_FnExactReadTree (s : ByteArray) (hs : s.size ≤ 1048576) (w : World) (Z : Rs)
    (hS : ∀ (u : World), Calls Try.prog 15 #[.string s] u (RetR Z u))
    (hI : ∀ (u : World), Calls Try.prog 12 #[.string s] u (RetR Z u)) :
    Calls Try.prog 5 #[.string s] w fun e w' => e = .returned (.bool true) ∧ Below w.heap.size w w' := by
  have HS := hidL hS
  have HI := hidL hI
  clear hS hI
  have hsi : ¬ (1048576 : Int) < (s.size : Int) := by omega
  obtain ⟨cs, cc, pp⟩ := Z
  go_enter Try.func5, Try.ntmps5
  go_wp2_with fail
  refine Calls.mono (HS.out _) ?_
  rintro e w3 ⟨vw, nw, rfl, hw3, hcw, hb3⟩
  obtain ⟨aw, kw, rfl, rw3⟩ := hw3.rd
  have HCW := hidL hcw
  simp only [] at HCW
  clear hw3 hcw
  have hA : Below w3.heap.size w3 (w3.alloc (Obj.cells #[Value.slice aw nw.length kw] 26)) := (Below.refl _ _).alloc (Nat.le_refl _) _
  have bw4 : (w3.alloc (Obj.cells #[Value.slice aw nw.length kw] 26)).heap[w3.heap.size]? = some (.cells #[.slice aw nw.length kw] 26 (0, 0)) := heap_alloc_new _ _
  have rw4 := rw3.later hA
  have B4 := hb3.trans (hA.mono hb3.size)
  go_wp2_with fail
  refine Calls.mono (HI.out _) ?_
  generalize w3.alloc (Obj.cells #[Value.slice aw nw.length kw] 26) = w4 at *
  generalize w3.heap.size = β at *
  rintro e w5 ⟨vg, ng, rfl, hg5, hcg, C5⟩
  have HCG := hidL hcg
  simp only [] at HCG
  obtain ⟨ag, kg, hvg, -, -⟩ := hg5.shape
  subst hvg
  have hngl := hg5.len
  have hngk := hg5.kl
  have βlt := lt_of_block bw4
  have RW4 := hidL rw4
  have BW4 := hidL bw4
  have HB4 := hidL B4
  clear hcg rw4 hb3 rw3 hA B4 bw4
  have hA : Below w5.heap.size w5 (w5.alloc (Obj.cells #[Value.slice ag ng.length kg] 26)) := (Below.refl _ _).alloc (Nat.le_refl _) _
  have bg6 : (w5.alloc (Obj.cells #[Value.slice ag ng.length kg] 26)).heap[w5.heap.size]? = some (.cells #[.slice ag ng.length kg] 26 (0, 0)) := heap_alloc_new _ _
  have hg6 := hg5.later hA
  have C6 := C5.trans (hA.mono C5.size)
  have HCE : Hid (decide (ng.map Nd.ct = nw.map Nd.ct) = true) := decide_eq_true (HCG.out.trans HCW.out.symm)
  obtain ⟨ag', kg', hvg, rg6⟩ := hg6.rd
  cases hvg
  have HEQ := hidL (eqTree_any ag aw kg kw ng nw _ rg6 (RdN.later RW4.out C6))
  rw [HCE.out] at HEQ
  have x1 := cell_of_one ((C6.block β βlt).trans BW4.out)
  have x2 := cell_of_one bg6
  have i1 : ((cc : Int) != (cc : Int)) = false := by simp
  have i2 : ((pp : Int) != (pp : Int)) = false := by simp
  have hβ5 : β < w5.heap.size := Nat.lt_of_lt_of_le βlt C5.size
  clear hA hg5 C5
  go_wp2_with fail
  generalize w5.alloc (Obj.cells #[Value.slice ag ng.length kg] 26) = w6 at *
  generalize w5.heap.size = γ at *
  refine Calls.mono HEQ.out ?_
  rintro e w7 ⟨rfl, hb7⟩
  have bg7 := (hb7.block γ (lt_of_block bg6)).trans bg6
  have hg7 := hg6.later hb7
  have C7 := C6.trans (hb7.mono C6.size)
  have HMK := hidL (markTree_any w7 w4.heap.size _ ng hg7 C7.size)
  have x3 := cell_of_one bg7
  clear hb7 bg6 hg6 C6 rg6 HEQ x1 x2
  go_wp2_with fail
  refine Calls.mono HMK.out ?_
  rintro e w8 ⟨rfl, hg8, hb8, hk8⟩
  have bg8 := hk8 _ _ _ _ bg7 (by decide) (by decide)
  have C8 := C7.trans hb8
  obtain ⟨ag8, kg8, hvg, rg8⟩ := hg8.rd
  rw [mkL_len] at hvg
  cases hvg
  have HHD := hidL (fun (u : World) hu => heldTree_any u ag kg ng hngk hngl hu)
  have hE : mkE 1 ng ≤ 1 + ng.length * 2001 := mkE_bound 1 ng hngk
  have hE2 : ng.length * 2001 ≤ 2000 * 2001 := Nat.mul_le_mul_right _ hngl
  generalize mkE 1 ng = E at *
  have j1 : (0 : Int) ≤ (E : Int) := by omega
  have j2 : ((E : Int) != (E : Int)) = false := by simp
  have x4 := cell_of_one bg8
  clear hb8 hk8 bg7 hg7 C7 HMK x3 hg8
  go_wp2_with fail
  refine Calls.mono (HHD.out _ rg8) ?_
  rintro e w9 ⟨rfl, hb9⟩
  have bg9 := (hb9.block γ (lt_of_block bg8)).trans bg8
  have rg9 := rg8.later hb9
  have C9 := C8.trans (hb9.mono C8.size)
  clear hb9 bg8 rg8 C8 x4
  go_wp2_with fail
  refine Calls.mono (HI.out _) ?_
  rintro e w10 ⟨vh, nh, rfl, hh10, hch, hb10⟩
  have HCH := hidL hch
  simp only [] at HCH
  have bg10 := (hb10.block γ (lt_of_block bg9)).trans bg9
  have rg10 := rg9.later hb10
  have C10 := C9.trans (hb10.mono C9.size)
  obtain ⟨ah, kh, hvh, rh10⟩ := hh10.rd
  subst hvh
  have hnhl := hh10.len
  have hA : Below w10.heap.size w10 (w10.alloc (Obj.cells #[Value.slice ah nh.length kh] 26)) := (Below.refl _ _).alloc (Nat.le_refl _) _
  have bh11 : (w10.alloc (Obj.cells #[Value.slice ah nh.length kh] 26)).heap[w10.heap.size]? = some (.cells #[.slice ah nh.length kh] 26 (0, 0)) := heap_alloc_new _ _
  have C11 := C10.trans (hA.mono C10.size)
  have bg11 := (hA.block γ (lt_of_block bg10)).trans bg10
  have rg11 := rg10.later hA
  have HCE2 : Hid (decide (nh.map Nd.ct = nw.map Nd.ct) = true) := decide_eq_true (HCH.out.trans HCW.out.symm)
  have HEQ := hidL (eqTree_any ah aw kh kw nh nw _ (rh10.later hA) (RdN.later RW4.out C11))
  rw [HCE2.out] at HEQ
  have x5 := cell_of_one ((C11.block β βlt).trans BW4.out)
  have x6 := cell_of_one bh11
  have hβ10 : β < w10.heap.size := Nat.lt_of_lt_of_le βlt C10.size
  clear hA hb10 bg9 rg9 C9 hch hh10 rh10 bg10 rg10 C10
  go_wp2_with fail
  generalize w10.alloc (Obj.cells #[Value.slice ah nh.length kh] 26) = w11 at *
  generalize w10.heap.size = δ at *
  refine Calls.mono HEQ.out ?_
  rintro e w12 ⟨rfl, hb12⟩
  have bg12 := (hb12.block γ (lt_of_block bg11)).trans bg11
  have rg12 := rg11.later hb12
  have C12 := C11.trans (hb12.mono C11.size)
  have x7 := cell_of_one bg12
  clear hb12 bg11 rg11 C11 HEQ x5 x6 bh11
  go_wp2_with fail
  refine Calls.mono (HHD.out _ rg12) ?_
  rintro e w13 ⟨rfl, hb13⟩
  have C13 := C12.trans (hb13.mono C12.size)
  have B13 := HB4.out.trans (C13.mono HB4.out.size)
  clear hb13 bg12 rg12 C12 x7
  go_wp2_with fail
  go_ret
  exact ⟨rfl, B13⟩

theorem walk_FnExactReadTree (s : ByteArray) (ws : s.size ≤ maxLen) (w : World) :
    Calls Try.prog 5 #[.string s] w fun e w' => e = .returned (.bool true) ∧ Below w.heap.size w w' := by
  have hm : s.size ≤ 9223372036854775807 := by unfold maxLen at ws; omega
  by_cases h : s.size ≤ 1048576
  · exact lawS_FnExactReadTree s h w (readT s) (fun u => specRead_any s u hm) (fun u => implRead_any s u hm)
  · have hsi : (1048576 : Int) < (s.size : Int) := by omega
    go_enter Try.func5, Try.ntmps5
    go_wp2
    go_ret
    exact ⟨rfl, Below.refl _ _⟩

end Go.Proofs.Yteainbakfeedpaa
