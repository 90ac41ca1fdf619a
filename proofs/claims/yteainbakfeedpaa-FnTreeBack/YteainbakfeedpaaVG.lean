/- What the program's scanner answers. -/
import Derived.Test.YteainbakfeedpaaVF
import Derived.WalkMore
namespace Go.Proofs.Yteainbakfeedpaa
set_option linter.unusedVariables false
set_option linter.unusedSimpArgs false
open Go.RowKit

theorem begF_le (cs : List Ct) (op : List Nat) : begF cs op ≤ 8 := by
  unfold begF
  split
  · omega
  · split
    · omega
    · split <;> omega

theorem begF_zero {ns : List Nd} {op : List Nat} (h : begF (ns.map Nd.ct) op = 0) : (op = [] ∧ ns = []) ∨ (0 < op.length ∧ op.length ≤ 100 ∧ ns.length ≠ 2000) := by
  rcases begF_cases ns op with ⟨-, -, hF⟩ | ⟨h1, h2, -⟩ | ⟨-, -, hF⟩ | ⟨-, -, -, hF⟩ | ⟨h1, h2, h3, -⟩
  · omega
  · exact .inl ⟨h1, h2⟩
  · omega
  · omega
  · exact .inr ⟨h1, h2, h3⟩

theorem begin_open (w : World) (B S p : Nat) (s : ByteArray) (vN vO : Value) (ns : List Nd) (op : List Nat) (h : Sc w B S s vN vO ns op) (hp : p < s.size) (hs : s.size ≤ 20000) (hc : bn s p = 40) (hI : Inv (ns.map Nd.ct) op) (hb : begF (ns.map Nd.ct) op = 0) :
    Calls Try.prog 59 #[.pointer (some ⟨S, 0, none⟩), .int .i64 (p : Int)] w (RetG B S s (putC (ns.map Nd.ct) op .empty) (ns.length :: op) (p + 1) w) := by
  rcases begF_zero hb with ⟨rfl, rfl⟩ | ⟨h1, h2, h3⟩
  · exact begin_open_nil w B S p s vN vO h hp hs hc
  · cases op with
    | nil => simp at h1
    | cons u op => exact begin_open_cons w B S p s vN vO u ns op h hp hs hc hI (by have := h.nodes.len; omega)

theorem begin_atom (w : World) (B S p : Nat) (s : ByteArray) (vN vO : Value) (ns : List Nd) (op : List Nat) (h : Sc w B S s vN vO ns op) (hp : p < s.size) (hs : s.size ≤ 20000) (hc : atomB (bn s p) = true) (hI : Inv (ns.map Nd.ct) op) (hb : begF (ns.map Nd.ct) op = 0) :
    Calls Try.prog 59 #[.pointer (some ⟨S, 0, none⟩), .int .i64 (p : Int)] w (RetG B S s (putC (ns.map Nd.ct) op (s.extract p (runE atomB s (s.size - p) p))) op (runE atomB s (s.size - p) p) w) := by
  rcases begF_zero hb with ⟨rfl, rfl⟩ | ⟨h1, h2, h3⟩
  · exact begin_atom_nil w B S p s vN vO h hp hs hc
  · cases op with
    | nil => simp at h1
    | cons u op => exact begin_atom_cons w B S p s vN vO u ns op h hp hs hc hI (by have := h.nodes.len; omega)

theorem putC_kid {cs : List Ct} {op : List Nat} {t : ByteArray} (h : ∀ n ∈ cs, n.2.length ≤ cs.length) : ∀ n ∈ putC cs op t, n.2.length ≤ cs.length + 1 := by
  have h1 : ∀ n : Ct, n ∈ (match op with | [] => cs | u :: _ => addKid cs u) → n.2.length ≤ cs.length + 1 := by
    intro n hn
    cases op with
    | nil => have := h n hn; omega
    | cons u r =>
      unfold addKid at hn
      rcases List.mem_or_eq_of_mem_set hn with hn | rfl
      · have := h n hn; omega
      · simp only [List.length_append, List.length_cons, List.length_nil]
        by_cases hu : u < cs.length
        · have := h _ (List.getElem_mem hu)
          rw [show cs.getD u (.empty, []) = cs[u] by simp [List.getD, hu]]
          omega
        · rw [show cs.getD u (.empty, []) = (.empty, []) by simp [List.getD, hu]]
          simp
  intro n hn
  unfold putC at hn
  rcases List.mem_append.1 hn with hn | hn
  · exact h1 n hn
  · simp at hn
    subst hn
    simp

theorem Inv.open {cs : List Ct} {op : List Nat} {t : ByteArray} (h : Inv cs op) (hb : begF cs op = 0) : Inv (putC cs op t) (cs.length :: op) ∧ Inv (putC cs op t) op := by
  have hop : op.length ≤ 100 ∧ cs.length ≠ 2000 := by
    unfold begF at hb
    split at hb
    · omega
    · split at hb
      · omega
      · split at hb
        · omega
        · omega
  have hl := h.len
  have key : ∀ u ∈ op, u < (putC cs op t).length := fun u hu => by rw [putC_len]; have := h.opn u hu; omega
  have hk : ∀ n ∈ putC cs op t, n.2.length ≤ (putC cs op t).length := fun n hn => by rw [putC_len]; exact putC_kid h.kid n hn
  refine ⟨⟨by rw [putC_len]; omega, by simp; omega, fun u hu => ?_, hk⟩, ⟨by rw [putC_len]; omega, by omega, key, hk⟩⟩
  rcases List.mem_cons.1 hu with rfl | hu
  · rw [putC_len]; omega
  · exact key u hu

theorem Inv.tail {cs : List Ct} {u : Nat} {op : List Nat} (h : Inv cs (u :: op)) : Inv cs op :=
  ⟨h.len, by have := h.opl; simp at this; omega, fun v hv => h.opn v (List.mem_cons_of_mem _ hv), h.kid⟩

/-- What the scanner has found. -/
def RetS (B S : Nat) (s : ByteArray) (Z : Rs) (w : World) (e : Ending) (w' : World) : Prop :=
  ∃ (c a : Nat) (vN vO : Value) (ns : List Nd) (op : List Nat), e = .returned (.tuple #[.int .i64 (c : Int), .int .i64 (a : Int)]) ∧ Sc w' B S s vN vO ns op ∧ Below B w w' ∧ (c = 0 → Z = (ns.map Nd.ct, 0, 0)) ∧ (c ≠ 0 → Z = ([], c, a)) ∧ c ≤ 8 ∧ a ≤ 20000

set_option maxHeartbeats 2000000 in
set_option maxRecDepth 100000 in
theorem scan_any (w : World) (B S : Nat) (s : ByteArray) (vN vO : Value) (h : Sc w B S s vN vO [] []) (hs : s.size ≤ 20000) :
    Calls Try.prog 30 #[.pointer (some ⟨S, 0, none⟩)] w (RetS B S s (readF s (s.size + 1) 0 [] []) w) := by
  have HSC := hidI h
  have HB := hidI (get_bn s)
  have HI0 : Hid (Inv [] []) := ⟨by simp, by simp, by simp, by simp⟩
  generalize hZ : readF s (s.size + 1) 0 [] [] = Z
  have HZ := hidI hZ
  clear hZ h
  go_enter Try.func30, Try.ntmps30
  go_wp2_with fail
  go_step3
  go_wp2_with fail
  go_step3
  go_wp2_with fail
  go_loopw [4, 5] (fun q c wr => ∃ (p f : Nat) (vN vO : Value) (ns : List Nd) (op : List Nat), q = .int .i64 (p : Int) ∧ c = .int .i64 0 ∧ p ≤ s.size ∧ s.size - p < f ∧ Sc wr B S s vN vO ns op ∧ Inv (ns.map Nd.ct) op ∧ readF s f p (ns.map Nd.ct) op = Z ∧ Below B w wr) (fun q _ _ => s.size - (intOf q).toNat)
  case atStart => exact ⟨0, s.size + 1, vN, vO, [], [], rfl, rfl, Nat.zero_le _, by omega, HSC.out, HI0.out, HZ.out, Below.refl _ _⟩
  case round =>
    obtain ⟨p, f, vN, vO, ns, op, rfl, rfl, hp, hf, hsc, hinv, hz, hbel⟩ := hrel
    obtain ⟨c0, c1, c2, hfr⟩ := hsc.cells
    obtain ⟨f, rfl⟩ : ∃ f', f = f' + 1 := ⟨f - 1, by omega⟩
    have hopl := hinv.opl
    have HS := hidI hsc
    have HI := hidI hinv
    have HBL := hidI hbel
    clear hsc hinv hbel HSC HI0 HZ
    by_cases hlt : p < s.size
    · have hb := bn_lt s p
      have e1 := HB.out p hlt
      have hli : (p : Int) < (s.size : Int) := by omega
      by_cases h32 : bn s p = 32 ∨ bn s p = 10
      · rw [readF_skip hlt h32] at hz
        have HZ := hidI hz
        clear hz
        rcases h32 with h32 | h32
        all_goals
          rw [h32] at e1
          clear h32 hb
          go_wp2_with fail
          go_roundw
          case rel => exact ⟨p + 1, f, vN, vO, ns, op, by go_num, rfl, by omega, by omega, HS.out, HI.out, HZ.out, HBL.out⟩
          case measure => simp [intOf]; omega
      have n32 : (((s[p]'hlt).toNat : Int) == 32) = false := beq_eq_false_iff_ne.2 (by omega)
      have n10 : (((s[p]'hlt).toNat : Int) == 10) = false := beq_eq_false_iff_ne.2 (by omega)
      by_cases h59 : bn s p = 59
      · rw [readF_rem hlt h59] at hz
        have hrun := runE_lt (ok := remB) hlt (by rw [h59]; rfl)
        have HCE := hidI (fun (u : World) => commentEnd_any s p hp (by omega) u)
        generalize runE remB s (s.size - p) p = E at *
        have HZ := hidI hz
        rw [h59] at e1
        clear hz h59 hb h32 n32 n10
        go_wp2_with (go_at_call 54; refine Calls.mono (HCE.out _) ?_; rintro e wr ⟨rfl, rfl⟩)
        go_roundw
        case rel => exact ⟨E, f, vN, vO, ns, op, rfl, rfl, by omega, by omega, HS.out, HI.out, HZ.out, HBL.out⟩
        case measure => simp [intOf]; omega
      have n59 : (((s[p]'hlt).toNat : Int) == 59) = false := beq_eq_false_iff_ne.2 (by omega)
      by_cases h41 : bn s p = 41
      · rw [readF_shut hlt h41] at hz
        rw [h41] at e1
        clear h41 h59 h32 hb n32 n10 n59
        cases op with
        | nil =>
          have HZ := hidI hz
          obtain ⟨aO, kO, rfl, -, -⟩ := HS.out.row.shape
          simp only [oi_len] at c2
          have HZ0 := hidI (iSize wr S 2 0 kO aO c2 (by omega))
          clear hz
          go_wp2_with (go_at_call 55; refine Calls.mono HZ0.out ?_; rintro e wr ⟨rfl, rfl⟩)
          first | rw [Exit.noGoto_ret] | skip
          exact bodyPost_ret (v := .tuple #[.int .i64 3, .int .i64 (p : Int)]) (by simp [results, Try.results30, go_sem]) rfl ⟨3, p, _, _, _, _, rfl, HS.out, HBL.out, fun h => by omega, fun _ => HZ.out.symm, by omega, by omega⟩
        | cons u op =>
          have HZ := hidI hz
          obtain ⟨gO, kO, hvO, hk1, hk2, hpo, hpb⟩ := HS.out.popO
          subst hvO
          have hopl' : op.length ≤ 100 := by simp at hopl; omega
          have HZ0 := hidI (iSize wr S 2 (op.length + 1) kO _ c2 (by omega))
          have HPO := hidI (iPop wr S 2 gO op.length kO c2 (hfr 2) (by omega) hk1 (by unfold maxLen at hk2; omega))
          have HSP := hidI hpo
          have HBP := hidI hpb
          have i1 : (((op.length : Int) + 1) == 0) = false := beq_eq_false_iff_ne.2 (by omega)
          clear hz hpo hpb
          go_wp2_with (first
            | (go_at_call 55; refine Calls.mono HZ0.out ?_; rintro e wr ⟨rfl, rfl⟩))
          refine Calls.mono HPO.out ?_
          rintro e w1 ⟨rfl, m1, rfl⟩
          go_wp2_with fail
          go_roundw
          case rel => exact ⟨p + 1, f, _, _, ns, op, by go_num, rfl, by omega, by omega, HSP.out.later (below_drewN (Below.refl _ _) _), HI.out.tail, HZ.out, below_drewN (HBL.out.trans HBP.out) _⟩
          case measure => simp [intOf]; omega
      have n41 : (((s[p]'hlt).toNat : Int) == 41) = false := beq_eq_false_iff_ne.2 (by omega)
      have HBF := hidI (beginFault_any wr B S s vN vO ns op HS.out (by omega))
      have h8 : (s[p]'hlt).toNat < 256 := by omega
      have HAB0 := atomByte_any (bn s p) hb
      rw [← e1] at HAB0
      by_cases h40 : bn s p = 40
      · rw [readF_open hlt h40] at hz
        have HBG := hidI (fun hbz => begin_open wr B S p s vN vO ns op HS.out hlt hs h40 HI.out hbz)
        rw [h40] at e1
        clear h40 h41 h59 h32 hb n32 n10 n59 n41 HAB0 h8
        by_cases hbz : begF (ns.map Nd.ct) op = 0
        · rw [if_neg (by omega)] at hz
          have HZ := hidI hz
          have HII := hidI (HI.out.open (t := .empty) hbz).1
          have hBG := HBG.out hbz
          have HBG' := hidI hBG
          rw [hbz] at HBF
          clear hz hBG HBG hbz
          go_wp2_with (go_at_call 58; refine Calls.mono HBF.out ?_; rintro e wr ⟨rfl, rfl⟩)
          refine Calls.mono HBG'.out ?_
          rintro e w1 ⟨vN1, vO1, ns1, rfl, hS1, hct, hb1⟩
          have HS1 := hidI hS1
          have HCT := hidI hct
          clear hS1 hct
          go_wp2_with fail
          go_roundw
          case rel =>
            refine ⟨p + 1, f, vN1, vO1, ns1, ns.length :: op, rfl, rfl, by omega, by omega, HS1.out, ?_, ?_, HBL.out.trans hb1⟩
            · rw [HCT.out]; have h := HII.out; rw [List.length_map] at h; exact h
            · rw [HCT.out]; have h := HZ.out; rw [List.length_map] at h; exact h
          case measure => simp [intOf]; omega
        · rw [if_pos hbz] at hz
          have HZ := hidI hz
          have hble : begF (ns.map Nd.ct) op ≤ 8 := begF_le _ _
          generalize begF (ns.map Nd.ct) op = F at *
          have i1 : ((F : Int) != 0) = true := bne_iff_ne.2 (by omega)
          have i2 : ((F : Int) == 0) = false := beq_eq_false_iff_ne.2 (by omega)
          clear hz HBG
          go_wp2_with (go_at_call 58; refine Calls.mono HBF.out ?_; rintro e wr ⟨rfl, rfl⟩)
          first | rw [Exit.noGoto_ret] | skip
          exact bodyPost_ret (v := .tuple #[.int .i64 (F : Int), .int .i64 (p : Int)]) (by simp [results, Try.results30, go_sem]) rfl ⟨F, p, _, _, _, _, rfl, HS.out, HBL.out, fun h => absurd h hbz, fun _ => HZ.out.symm, hble, by omega⟩
      have n40 : (((s[p]'hlt).toNat : Int) == 40) = false := beq_eq_false_iff_ne.2 (by omega)
      cases hat : atomB (bn s p) with
      | true =>
        rw [readF_atom hlt hat] at hz
        have hrun := runE_lt (ok := atomB) hlt hat
        have HBG := hidI (fun hbz => begin_atom wr B S p s vN vO ns op HS.out hlt hs hat HI.out hbz)
        have hAB := HAB0
        rw [e1, hat] at hAB
        rw [← e1] at hAB
        have HAB := hidI hAB
        clear hat h40 h41 h59 h32 hb HAB0 h8 hAB e1
        generalize runE atomB s (s.size - p) p = E at *
        by_cases hbz : begF (ns.map Nd.ct) op = 0
        · rw [if_neg (by omega)] at hz
          have HZ := hidI hz
          have HII := hidI (HI.out.open (t := s.extract p E) hbz).2
          have hBG := HBG.out hbz
          have HBG' := hidI hBG
          rw [hbz] at HBF
          clear hz hBG HBG hbz
          go_wp2_with (first
            | (go_at_call 57; refine Calls.mono (HAB.out _) ?_; rintro e wr ⟨rfl, rfl⟩)
            | (go_at_call 58; refine Calls.mono HBF.out ?_; rintro e wr ⟨rfl, rfl⟩))
          refine Calls.mono HBG'.out ?_
          rintro e w1 ⟨vN1, vO1, ns1, rfl, hS1, hct, hb1⟩
          have HS1 := hidI hS1
          have HCT := hidI hct
          clear hS1 hct
          go_wp2_with fail
          go_roundw
          case rel =>
            refine ⟨E, f, vN1, vO1, ns1, op, rfl, rfl, by omega, by omega, HS1.out, ?_, ?_, HBL.out.trans hb1⟩
            · rw [HCT.out]; exact HII.out
            · rw [HCT.out]; exact HZ.out
          case measure => simp [intOf]; omega
        · rw [if_pos hbz] at hz
          have HZ := hidI hz
          have hble : begF (ns.map Nd.ct) op ≤ 8 := begF_le _ _
          generalize begF (ns.map Nd.ct) op = F at *
          have i1 : ((F : Int) != 0) = true := bne_iff_ne.2 (by omega)
          have i2 : ((F : Int) == 0) = false := beq_eq_false_iff_ne.2 (by omega)
          clear hz HBG
          go_wp2_with (first
            | (go_at_call 57; refine Calls.mono (HAB.out _) ?_; rintro e wr ⟨rfl, rfl⟩)
            | (go_at_call 58; refine Calls.mono HBF.out ?_; rintro e wr ⟨rfl, rfl⟩))
          first | rw [Exit.noGoto_ret] | skip
          exact bodyPost_ret (v := .tuple #[.int .i64 (F : Int), .int .i64 (p : Int)]) (by simp [results, Try.results30, go_sem]) rfl ⟨F, p, _, _, _, _, rfl, HS.out, HBL.out, fun h => absurd h hbz, fun _ => HZ.out.symm, hble, by omega⟩
      | false =>
        rw [readF_bad hlt h32 h59 h41 h40 hat] at hz
        have HZ := hidI hz
        have hAB := HAB0
        rw [e1, hat] at hAB
        rw [← e1] at hAB
        have HAB := hidI hAB
        clear hz hat h40 h41 h59 h32 hb HAB0 h8 hAB e1 HBF
        go_wp2_with (go_at_call 57; refine Calls.mono (HAB.out _) ?_; rintro e wr ⟨rfl, rfl⟩)
        first | rw [Exit.noGoto_ret] | skip
        exact bodyPost_ret (v := .tuple #[.int .i64 2, .int .i64 (p : Int)]) (by simp [results, Try.results30, go_sem]) rfl ⟨2, p, _, _, _, _, rfl, HS.out, HBL.out, fun h => by omega, fun _ => HZ.out.symm, by omega, by omega⟩
    · have hpe : p = s.size := by omega
      subst hpe
      rw [readF_end (Nat.le_refl _)] at hz
      have HEF := hidI (endFault_any wr B S s vN vO ns op HS.out (by omega))
      have hzz : (endF ns.length op = 0 → Z = (ns.map Nd.ct, 0, 0)) ∧ (endF ns.length op ≠ 0 → Z = ([], endF ns.length op, s.size)) ∧ endF ns.length op ≤ 8 := by
        rw [← hz]
        unfold endF
        by_cases ho : op ≠ []
        · rw [if_pos ho, if_pos ho]; exact ⟨fun h => by omega, fun _ => rfl, by omega⟩
        · rw [if_neg ho, if_neg ho]
          by_cases hn : ns.length = 0
          · rw [if_pos hn, if_pos (by simpa using hn)]; exact ⟨fun h => by omega, fun _ => rfl, by omega⟩
          · rw [if_neg hn, if_neg (by simpa using hn)]; exact ⟨fun _ => rfl, fun h => by omega, by omega⟩
      have HZZ := hidI hzz
      generalize endF ns.length op = F at *
      clear hz hzz
      go_wp2_with (go_at_call 60; refine Calls.mono HEF.out ?_; rintro e wr ⟨rfl, rfl⟩)
      first | rw [Exit.noGoto_ret] | skip
      exact bodyPost_ret (v := .tuple #[.int .i64 (F : Int), .int .i64 (s.size : Int)]) (by simp [results, Try.results30, go_sem]) rfl ⟨F, s.size, _, _, _, _, rfl, HS.out, HBL.out, HZZ.out.1, HZZ.out.2.1, HZZ.out.2.2, hs⟩

end Go.Proofs.Yteainbakfeedpaa
