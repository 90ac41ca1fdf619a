/- The law FnTreeBack: what is read, and the law's own walk. -/
import Derived.Test.YteainbakfeedpaaYH
import Derived.Test.YteainbakfeedpaaYG
import Derived.Test.YteainbakfeedpaaYI
import Derived.Test.YteainbakfeedpaaYB
import Derived.Test.YteainbakfeedpaaYC
import Derived.Test.YteainbakfeedpaaTL
import Derived.Test.YteainbakfeedpaaUG
import Derived.Test.YteainbakfeedpaaUD
import Derived.Test.YteainbakfeedpaaTP
namespace Go.Proofs.Yteainbakfeedpaa
set_option linter.unusedVariables false
set_option linter.unusedSimpArgs false
open Go.RowKit

/-- A text is read without a fault, or nothing is read. -/
theorem readF_two (s : ByteArray) : ∀ (f p : Nat) (cs : List Ct) (op : List Nat), (∃ cs', readF s f p cs op = (cs', 0, 0)) ∨ ((readF s f p cs op).1 = [] ∧ (readF s f p cs op).2.1 ≠ 0) := by
  intro f
  induction f with
  | zero => intro p cs op; exact .inl ⟨[], rfl⟩
  | succ f ih =>
    intro p cs op
    rw [readF]
    repeat' split
    all_goals first
      | exact ih _ _ _
      | exact .inl ⟨_, rfl⟩
      | exact .inr ⟨rfl, by assumption⟩
      | exact .inr ⟨rfl, by decide⟩
      | exact .inr ⟨rfl, by simp⟩
      | (cases op with
         | nil => exact .inr ⟨rfl, by simp [shutK]⟩
         | cons u r => exact ih _ _ _)
theorem readT_two (s : ByteArray) : (∃ cs', readT s = (cs', 0, 0)) ∨ ((readT s).1 = [] ∧ (readT s).2.1 ≠ 0) := by
  unfold readT
  split
  · exact .inr ⟨rfl, by simp⟩
  · exact readF_two _ _ _ _ _
theorem dep_le {cs : List Ct} (h : 0 ≤ depR cs) : depR cs ≤ 101 := by
  obtain ⟨-, -, d, hw, hd⟩ := depR_W h
  have := W_depth_le hw
  omega
theorem write_ok {cs : List Ct} (h : writeT cs ≠ []) : 0 ≤ depR cs := by
  unfold writeT at h
  split at h
  · rename_i h'; exact h'.1
  · exact absurd rfl h
theorem txt_nil {l : List Nat} (h : l = []) : txt l = ⟨#[]⟩ := by rw [h]; rfl
theorem write_len (cs : List Ct) : (writeT cs).length ≤ 20000 := by
  unfold writeT
  split
  · rename_i h; exact h.2
  · simp

theorem txt_cases (cs : List Ct) : txt (writeT cs) = ⟨#[]⟩ ∨ (txt (writeT cs)).toList.isEmpty = false ∧ readT (txt (writeT cs)) = (cs, 0, 0) := by
  by_cases h : writeT cs = []
  · exact .inl (txt_nil h)
  · have hz : txt (writeT cs) ≠ ⟨#[]⟩ := fun e => by
      have h1 := congrArg ByteArray.size e
      rw [txt_size] at h1
      exact h (List.length_eq_zero_iff.1 h1)
    exact .inr ⟨by simpa using str_ne hz, read_back (write_ok h) h⟩

theorem drawWrite_any (HT : TreeAny) (a : Option Addr) (c : Nat) (bs : List Nat) (w : World) (h : RdB w a bs) :
    Calls Try.prog 9 #[.slice a bs.length c] w (RetDt w) := by
  have hb0 : Below w.heap.size w (w.alloc (Obj.cells #[Value.slice none 0 0] 26)) := Ba (Below.refl _ _) _
  have hbR : (w.alloc (Obj.cells #[Value.slice none 0 0] 26)).heap[w.heap.size]? = some (.cells #[.slice none 0 0] 26 (0, 0)) := heap_alloc_new _ _
  have hC := hidE (drawTreeOk_any HT a c bs _ (h.later hb0))
  clear HT h
  go_enter Try.func9, Try.ntmps9
  go_wp2_with fail
  generalize w.alloc (Obj.cells #[Value.slice none 0 0] 26) = wA at *
  refine Calls.mono hC.out ?_
  rintro e w3 ⟨a', c', ns, rfl, hrd, hb3⟩
  have hbR3 := (hb3.block _ (lt_of_block hbR)).trans hbR
  have t2 := cell_of_one hbR3
  have t3 := free_of_one hbR3
  have HRD := hidE (hrd.box (x := .slice a' ns.length c') hbR3)
  have HB3 := hidE (hb0.trans (hb3.mono hb0.size))
  clear hrd hb3 hbR hb0 hC
  go_wp2_with fail
  exact bodyPost_ret (v := .agg #[.slice a' ns.length c']) (by simp [results, Try.results9, go_sem, t2]) rfl ⟨a', c', ns, rfl, HRD.out, HB3.out.setCell (Nat.le_refl _) _⟩

set_option maxHeartbeats 2000000 in
set_option maxRecDepth 100000 in
theorem law_back (HT : TreeAny) (a : Option Addr) (c : Nat) (bs : List Nat) (b : Option Addr) (d : Nat) (ds : List Nat) (w : World) (hr : RdB w a bs) (hn : bs.length ≤ 1048576) (hs : RdB w b ds) (hm : ds.length ≤ 1048576) :
    Calls Try.prog 3 #[.slice a bs.length c, .slice b ds.length d] w fun e w' => e = .returned (.bool true) ∧ Below w.heap.size w w' := by
  have HD := hidE (drawWrite_any HT a c bs w hr)
  have HS := hidE hs
  clear HT hr hs
  go_enter Try.func3, Try.ntmps3
  go_wp2_with fail
  refine (big_any a bs.length c w (by omega)).mono ?_
  rw [show decide (1048576 < bs.length) = false by simp; omega]
  rintro e w ⟨rfl, rfl⟩
  go_wp2_with fail
  refine (big_any b ds.length d w (by omega)).mono ?_
  rw [show decide (1048576 < ds.length) = false by simp; omega]
  rintro e w ⟨rfl, rfl⟩
  go_wp2_with fail
  refine Calls.mono HD.out ?_
  rintro e w1 ⟨at1, ct, ts, rfl, hrt, hb1⟩
  have hA : Below w1.heap.size w1 (w1.alloc (Obj.cells #[Value.slice at1 ts.length ct] 26)) := Ba (Below.refl _ _) _
  have hbT : (w1.alloc (Obj.cells #[Value.slice at1 ts.length ct] 26)).heap[w1.heap.size]? = some (.cells #[.slice at1 ts.length ct] 26 (0, 0)) := heap_alloc_new _ _
  have hrt2 := hrt.later hA
  have B2 := hb1.trans (hA.mono hb1.size)
  have HW2 := hidE (implWrite_any at1 ct ts _ hrt2)
  clear hb1 hA hrt HD
  go_wp2_with fail
  generalize w1.alloc (Obj.cells #[Value.slice at1 ts.length ct] 26) = w2 at *
  generalize w1.heap.size = τ at *
  refine Calls.mono HW2.out ?_
  rintro e w3 ⟨rfl, hb3⟩
  have hrt3 := hrt2.later hb3
  have hbT3 := (hb3.block _ (lt_of_block hbT)).trans hbT
  have B3 := B2.trans (hb3.mono B2.size)
  have HW3 := hidE (specWrite_any at1 ct ts _ hrt3)
  have HRB := hidE (fun h1 h2 => read_back (cs := ts.map Nd.ct) h1 h2)
  have HOK := hidE (fun h => write_ok (cs := ts.map Nd.ct) h)
  have hsl : (txt (writeT (ts.map Nd.ct))).size ≤ 20000 := by rw [txt_size]; exact write_len _
  have t1 := cell_of_one hbT3
  by_cases hne : writeT (ts.map Nd.ct) = []
  case' pos =>
    have hz := txt_nil hne
    have HNE := hidE hne
    rw [hz] at HW3 ⊢
    clear hne hz hb3 hrt2 hbT B2 HW2 HRB HOK hsl
    go_wp2_with fail
    refine Calls.mono HW3.out ?_
    rintro e w4 ⟨rfl, hb4⟩
    have B4 := B3.trans (hb4.mono B3.size)
    clear B3 hb4 HW3 t1 hrt3 hbT3 HNE
    go_wp2_with fail
    have HX := hidE (drawRead_any b d ds w4 (RdB.later HS.out B4))
    have B6 := B4
    clear B4
    refine Calls.mono HX.out ?_
    clear HX
  case' neg =>
    have hrb := HRB.out (HOK.out hne) hne
    have hz : txt (writeT (ts.map Nd.ct)) ≠ ⟨#[]⟩ := fun e => by
      have h1 := congrArg ByteArray.size e
      rw [txt_size] at h1
      exact hne (List.length_eq_zero_iff.1 h1)
    generalize txt (writeT (ts.map Nd.ct)) = S at *
    have HRR := hidE hrb
    have hsn : S.toList.isEmpty = false := by simpa using str_ne hz
    clear hne hb3 hrt2 hbT B2 HW2 HRB HOK hrb hz
    go_wp2_with fail
    refine Calls.mono HW3.out ?_
    rintro e w4 ⟨rfl, hb4⟩
    have B4 := B3.trans (hb4.mono B3.size)
    have hrt4 := hrt3.later hb4
    have hbT4 := (hb4.block _ (lt_of_block hbT3)).trans hbT3
    have hrd := implRead_any S w4 (by omega)
    rw [HRR.out] at hrd
    have HRD := hidE hrd
    clear B3 hb4 HW3 t1 hrt3 hbT3 hrd
    go_wp2_with fail
    refine Calls.mono HRD.out ?_
    rintro e w5 ⟨vu, us, rfl, hou, huc, hb5⟩
    obtain ⟨au, cu, rfl, -, -⟩ := hou.shape
    have B5 := B4.trans (hb5.mono B4.size)
    have hrt5 := hrt4.later hb5
    have hbT5 := (hb5.block _ (lt_of_block hbT4)).trans hbT4
    have hru5 := (hou.o3.rd' (Nat.le_trans hou.len (by omega)) hou.fits).2
    have hA : Below w5.heap.size w5 (w5.alloc (Obj.cells #[Value.slice au us.length cu] 26)) := Ba (Below.refl _ _) _
    have hbU : (w5.alloc (Obj.cells #[Value.slice au us.length cu] 26)).heap[w5.heap.size]? = some (.cells #[.slice au us.length cu] 26 (0, 0)) := heap_alloc_new _ _
    have hrt6 := hrt5.later hA
    have hru6 := hru5.later hA
    have hbT6 := (hA.block _ (lt_of_block hbT5)).trans hbT5
    have B6 := B5.trans (hA.mono B5.size)
    have HSM := hidE (fun (W : World) (h1 : RdN W au us) (h2 : RdN W at1 ts) => sameTree_same au at1 cu ct us ts W h1 h2 huc)
    have t1 := cell_of_one hbT6
    have t2 := cell_of_one hbU
    clear B4 hb5 hrt4 hbT4 hA hou hrt5 hru5 hbT5 B5 HRD huc
    go_wp2_with fail
    generalize w5.alloc (Obj.cells #[Value.slice au us.length cu] 26) = w6 at *
    generalize w5.heap.size = υ at *
    have hru7 := hru6
    refine Calls.mono (HSM.out w6 hru6 hrt6) ?_
    clear t1 t2 hbT6 hbU hrt6 hru6 hru7 HSM
    rintro e w7 ⟨rfl, hb7⟩
    have B7 := B6.trans (hb7.mono B6.size)
    clear B6 hb7
    go_wp2_with fail
    have HX := hidE (drawRead_any b d ds w7 (RdB.later HS.out B7))
    have B6 := B7
    clear B7
    refine Calls.mono HX.out ?_
    clear HX HRR hsn hsl
  all_goals
    rintro e w8 ⟨X, rfl, hXs, hb8⟩
    have B8 := B6.trans (hb8.mono B6.size)
    clear B6 hb8
    have HSR := hidE (specRead_any X w8 (by omega))
    go_wp2_with fail
    refine Calls.mono HSR.out ?_
    rintro e w9 ⟨v9, n9, rfl, ho9, hc9, hb9⟩
    obtain ⟨a9, c9, rfl, -, -⟩ := ho9.shape
    have B9' := B8.trans (hb9.mono B8.size)
    have B9 : Below w.heap.size w (w9.alloc (Obj.cells #[Value.slice a9 n9.length c9] 26)) := B9'.alloc B9'.size _
    have HIR := hidE (implRead_any X (w9.alloc (Obj.cells #[Value.slice a9 n9.length c9] 26)) (by omega))
    clear B8 hb9 HSR ho9 hc9 B9'
    go_wp2_with fail
    generalize w9.alloc (Obj.cells #[Value.slice a9 n9.length c9] 26) = w10 at *
    refine Calls.mono HIR.out ?_
    rintro e wA ⟨vA, vs, rfl, hoA, hcA, hbA⟩
    obtain ⟨av, cv, rfl, -, -⟩ := hoA.shape
    have BA := B9.trans (hbA.mono B9.size)
    clear B9 hbA HIR
    rcases readT_two X with ⟨cs, hcs⟩ | ⟨hce, hF⟩
    case' inr =>
      rw [hce] at hcA
      obtain rfl : vs = [] := List.map_eq_nil_iff.1 hcA
      generalize (readT X).2.1 = F at *
      generalize (readT X).2.2 = P at *
      have i1 : ((F : Int) != 0) = true := bne_iff_ne.2 (by omega)
      clear hoA hcA hce
      go_wp2_with fail
      go_ret
      exact ⟨rfl, BA.alloc BA.size _⟩
    case' inl =>
      rw [hcs] at hcA ⊢
      have hright := read_right hcs
      have hrv := (hoA.o3.rd' (Nat.le_trans hoA.len (by omega)) hoA.fits).2
      clear hoA hcs
      have hA : Below wA.heap.size wA (wA.alloc (Obj.cells #[Value.slice av vs.length cv] 26)) := Ba (Below.refl _ _) _
      have hbV : (wA.alloc (Obj.cells #[Value.slice av vs.length cv] 26)).heap[wA.heap.size]? = some (.cells #[.slice av vs.length cv] 26 (0, 0)) := heap_alloc_new _ _
      have hrv2 := hrv.later hA
      have BB := BA.trans (hA.mono BA.size)
      subst hcA
      have hdl := dep_le hright.1
      have hdt : decide (0 ≤ depR (vs.map Nd.ct)) = true := decide_eq_true hright.1
      have hd0 := hright.1
      have HWR := hidE (implWrite_any av cv vs _ hrv2)
      clear hA hrv BA hright
      have HOK := hidE (fun (W : World) (h : RdN W av vs) => (hdt ▸ implTreeOk_any av cv vs W h : Calls Try.prog 16 #[.agg #[.slice av vs.length cv]] W fun e w' => e = .returned (.bool true) ∧ Below W.heap.size W w'))
      have HDP := hidE (fun (W : World) (h : RdN W av vs) => implDepth_any av cv vs W h)
      generalize depR (vs.map Nd.ct) = D at *
      clear hdt
      go_wp2_with fail
      generalize wA.alloc (Obj.cells #[Value.slice av vs.length cv] 26) = wB at *
      generalize wA.heap.size = ν at *
      refine Calls.mono HWR.out ?_
      rintro e wC ⟨rfl, hbC⟩
      have hrvC := hrv2.later hbC
      have hbVC := (hbC.block _ (lt_of_block hbV)).trans hbV
      have BC := BB.trans (hbC.mono BB.size)
      have hTl : (txt (writeT (vs.map Nd.ct))).size ≤ 20000 := by rw [txt_size]; exact write_len _
      have HTT := hidE (txt_cases (vs.map Nd.ct))
      have HIW := hidE (fun (W : World) (h : RdN W av vs) => implWrite_any av cv vs W h)
      generalize txt (writeT (vs.map Nd.ct)) = T at *
      have HRD := hidE (implRead_any T wC (by omega))
      clear hrv2 hbC hbV BB HWR
      go_wp2_with fail
      refine Calls.mono HRD.out ?_
      rintro e wD ⟨vD, zs, rfl, hoD, hcD, hbD⟩
      obtain ⟨az, cz, rfl, -, -⟩ := hoD.shape
      have hrz := (hoD.o3.rd' (Nat.le_trans hoD.len (by omega)) hoD.fits).2
      have hA : Below wD.heap.size wD (wD.alloc (Obj.cells #[Value.slice az zs.length cz] 26)) := Ba (Below.refl _ _) _
      have hbZ : (wD.alloc (Obj.cells #[Value.slice az zs.length cz] 26)).heap[wD.heap.size]? = some (.cells #[.slice az zs.length cz] 26 (0, 0)) := heap_alloc_new _ _
      have hbD' : Below wC.heap.size wC (wD.alloc (Obj.cells #[Value.slice az zs.length cz] 26)) := hbD.trans (hA.mono hbD.size)
      have hrz2 := hrz.later hA
      have hrv3 := hrvC.later hbD'
      have hbV3 := (hbD'.block _ (lt_of_block hbVC)).trans hbVC
      have BE := BC.trans (hbD'.mono BC.size)
      have t1 := cell_of_one hbV3
      have t2 := cell_of_one hbZ
      clear hA hbD hbD' hrz hrvC hbVC BC hoD HRD
      obtain ⟨F, hF⟩ : ∃ F, (readT T).2.1 = F := ⟨_, rfl⟩
      rw [hF]
      have HF := hidE hF
      have HCD := hidE hcD
      clear hF hcD
      go_wp2_with fail
      generalize wD.alloc (Obj.cells #[Value.slice az zs.length cz] 26) = wE at *
      generalize wD.heap.size = ζ at *
      have rvwE := hrv3
      have rzwE := hrz2
      have bvwE := hbV3
      have bzwE := hbZ
      have BwE := BE
      clear hrv3 hrz2 hbV3 hbZ BE t1 t2
      refine Calls.mono (HOK.out wE rvwE) ?_
      rintro e wF ⟨rfl, hbwF⟩
      have rvwF := rvwE.later hbwF
      have rzwF := rzwE.later hbwF
      have bvwF := (hbwF.block _ (lt_of_block bvwE)).trans bvwE
      have bzwF := (hbwF.block _ (lt_of_block bzwE)).trans bzwE
      have BwF := BwE.trans (hbwF.mono BwE.size)
      have t1 := cell_of_one bvwF
      have t2 := cell_of_one bzwF
      clear hbwF rvwE rzwE bvwE bzwE BwE
      go_wp2_with fail
      refine Calls.mono (HDP.out wF rvwF) ?_
      rintro e wG ⟨rfl, hbwG⟩
      have rvwG := rvwF.later hbwG
      have rzwG := rzwF.later hbwG
      have bvwG := (hbwG.block _ (lt_of_block bvwF)).trans bvwF
      have bzwG := (hbwG.block _ (lt_of_block bzwF)).trans bzwF
      have BwG := BwF.trans (hbwG.mono BwF.size)
      clear t1 t2
      have t1 := cell_of_one bvwG
      have t2 := cell_of_one bzwG
      clear hbwG rvwF rzwF bvwF bzwF BwF
      go_wp2_with fail
      refine Calls.mono (HDP.out wG rvwG) ?_
      rintro e wH ⟨rfl, hbwH⟩
      have rvwH := rvwG.later hbwH
      have rzwH := rzwG.later hbwH
      have bvwH := (hbwH.block _ (lt_of_block bvwG)).trans bvwG
      have bzwH := (hbwH.block _ (lt_of_block bzwG)).trans bzwG
      have BwH := BwG.trans (hbwH.mono BwG.size)
      clear t1 t2
      have t1 := cell_of_one bvwH
      have t2 := cell_of_one bzwH
      clear hbwH rvwG rzwG bvwG bzwG BwG
      rcases HTT.out with hT | ⟨hte, hrt⟩
      case' inl =>
        subst hT
        go_wp2_with fail
        refine Calls.mono (HIW.out wH rvwH) ?_
        rintro e wI ⟨rfl, hbwI⟩
        have rvwI := rvwH.later hbwI
        have rzwI := rzwH.later hbwI
        have bvwI := (hbwI.block _ (lt_of_block bvwH)).trans bvwH
        have bzwI := (hbwI.block _ (lt_of_block bzwH)).trans bzwH
        have BwI := BwH.trans (hbwI.mono BwH.size)
        clear t1 t2
        have t1 := cell_of_one bvwI
        have t2 := cell_of_one bzwI
        clear hbwI rvwH rzwH bvwH bzwH BwH
        go_wp2_with fail
        go_ret
        exact ⟨rfl, BwI⟩
      case' inr =>
        have hF := HF.out
        have hcd := HCD.out
        rw [hrt] at hF hcd
        have hF0 : F = 0 := hF.symm
        subst hF0
        have hcz : zs.map Nd.ct = vs.map Nd.ct := hcd
        have HSM := hidE (fun (W : World) (h1 : RdN W az zs) (h2 : RdN W av vs) => sameTree_same az av cz cv zs vs W h1 h2 hcz)
        clear hrt hF hcd hcz
        go_wp2_with fail
        refine Calls.mono (HIW.out wH rvwH) ?_
        rintro e wI ⟨rfl, hbwI⟩
        have rvwI := rvwH.later hbwI
        have rzwI := rzwH.later hbwI
        have bvwI := (hbwI.block _ (lt_of_block bvwH)).trans bvwH
        have bzwI := (hbwI.block _ (lt_of_block bzwH)).trans bzwH
        have BwI := BwH.trans (hbwI.mono BwH.size)
        clear t1 t2
        have t1 := cell_of_one bvwI
        have t2 := cell_of_one bzwI
        clear hbwI rvwH rzwH bvwH bzwH BwH
        go_wp2_with fail
        refine Calls.mono (HSM.out wI rzwI rvwI) ?_
        rintro e wJ ⟨rfl, hbJ⟩
        go_wp2_with fail
        go_ret
        exact ⟨rfl, BwI.trans (hbJ.mono BwI.size)⟩

end Go.Proofs.Yteainbakfeedpaa
