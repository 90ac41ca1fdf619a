/- What the program's DepthOf and TreeOk answer. -/
import Derived.Test.YteainbakfeedpaaTK
import Derived.Test.YteainbakfeedpaaTH
namespace Go.Proofs.Yteainbakfeedpaa
set_option linter.unusedVariables false
set_option linter.unusedSimpArgs false
open Go.RowKit

theorem hide {p : Prop} (h : p) : Hid p := h

def resM : Option Nat → Int
  | none => -1
  | some d => (d : Int)

/-- What the nodes from k on will make of a stack. -/
def Ans (cs : List Ct) (Z : Int) (k : Nat) (st : List (List Int × Nat)) (dp : Nat) : Prop :=
  (k = 0 ∧ st = [] ∧ dp = 0 ∧ resM (body (cs.getD 0 (.empty, [])) [] 0 (M cs (cs.length - 1) 1)) = Z) ∨ (0 < k ∧ resM (M cs (cs.length - k) k st dp) = Z)

theorem Ans.start (cs : List Ct) (h : 1 ≤ cs.length ∧ cs.length ≤ 2000) : Ans cs (depR cs) 0 [] 0 := by
  refine .inl ⟨rfl, rfl, rfl, ?_⟩
  rw [depR_M cs h]
  cases body (cs.getD 0 (.empty, [])) [] 0 (M cs (cs.length - 1) 1) <;> rfl

theorem Ans.zero {cs : List Ct} {Z : Int} {st : List (List Int × Nat)} {dp : Nat} (h : Ans cs Z 0 st dp) : st = [] ∧ dp = 0 ∧ resM (body (cs.getD 0 (.empty, [])) st dp (M cs (cs.length - (0 + 1)) (0 + 1))) = Z := by
  rcases h with ⟨-, rfl, rfl, h⟩ | ⟨h, -⟩
  · exact ⟨rfl, rfl, h⟩
  · omega
theorem Ans.succ {cs : List Ct} {Z : Int} {k : Nat} {st : List (List Int × Nat)} {dp : Nat} (h : Ans cs Z k st dp) (hk : 0 < k) (hl : k < cs.length) :
    (dropF st = [] → Z = -1) ∧ (∀ x t, dropF st = x :: t → (x.1.getD x.2 0 ≠ (k : Int) → Z = -1) ∧ (x.1.getD x.2 0 = (k : Int) → resM (body (cs.getD k (.empty, [])) ((x.1, x.2 + 1) :: t) dp (M cs (cs.length - (k + 1)) (k + 1))) = Z)) := by
  rcases h with ⟨h, -⟩ | ⟨-, h⟩
  · omega
  · rw [show cs.length - k = (cs.length - (k + 1)) + 1 by omega, M] at h
    refine ⟨fun hd => ?_, fun x t hd => ⟨fun hn => ?_, fun hn => ?_⟩⟩
    · rw [hd] at h; exact h.symm
    · rw [hd] at h; simp only [] at h; rw [if_pos hn] at h; exact h.symm
    · rw [hd] at h; simp only [] at h; rw [if_neg (fun hh => hh hn)] at h; exact h
theorem Ans.last {cs : List Ct} {Z : Int} {st : List (List Int × Nat)} {dp : Nat} (h : Ans cs Z cs.length st dp) (hl : 1 ≤ cs.length) : (dropF st = [] → Z = (dp : Int)) ∧ (dropF st ≠ [] → Z = -1) := by
  rcases h with ⟨h, -⟩ | ⟨-, h⟩
  · omega
  · rw [Nat.sub_self, M] at h
    refine ⟨fun hd => ?_, fun hd => ?_⟩
    · rw [if_pos hd] at h; exact h.symm
    · rw [if_neg hd] at h; exact h.symm
theorem Ans.body {cs : List Ct} {Z : Int} {k : Nat} {n : Ct} {st : List (List Int × Nat)} {dp : Nat} (h : resM (body n st dp (M cs (cs.length - (k + 1)) (k + 1))) = Z) :
    (100 < st.length ∨ okC n = false → Z = -1) ∧ (¬ (100 < st.length ∨ okC n = false) → (n.1.size = 0 → Ans cs Z (k + 1) ((n.2, 0) :: st) (max dp (st.length + 1))) ∧ (n.1.size ≠ 0 → Ans cs Z (k + 1) st (max dp st.length))) := by
  rw [Proofs.Yteainbakfeedpaa.body] at h
  refine ⟨fun hc => ?_, fun hc => ⟨fun hz => ?_, fun hz => ?_⟩⟩
  · rw [if_pos hc] at h; exact h.symm
  · rw [if_neg hc, if_pos hz] at h; exact .inr ⟨by omega, h⟩
  · rw [if_neg hc, if_neg hz] at h; exact .inr ⟨by omega, h⟩

theorem Stk.later {w w' : World} {B P : Nat} {st : List Ol} (h : Stk w B P st) (hb : Below w.heap.size w w') : Stk w' B P st := by
  obtain ⟨h1, h2, h3, v, hp, ho⟩ := h
  refine ⟨h1, Nat.le_trans h2 hb.size, h3, v, ?_, ho.1, ?_⟩
  · rw [hb.block P (by omega)]; exact hp
  · rcases ho.2 with h' | ⟨g, cap, cur, rfl, hg, hh, r⟩
    · exact .inl h'
    · exact .inr ⟨g, cap, cur, rfl, hg, by rw [hb.block g (lt_of_block hh)]; exact hh, r⟩

theorem dropO_len (st : List Ol) : (dropO st).length ≤ st.length := by
  induction st with
  | nil => simp [dropO]
  | cons x r ih =>
    rw [dropO]
    split
    · simp; omega
    · simp

theorem cells_of_two {w : World} {g : Nat} {x y : Value} {t : TypeId} (h : w.heap[g]? = some (.cells #[x, y] t (0, 0))) : w.cell? ⟨g, 0, none⟩ = some x ∧ w.cell? ⟨g, 1, none⟩ = some y :=
  ⟨by rw [cell_of_row w g 0 _ _ _ h]; rfl, by rw [cell_of_row w g 1 _ _ _ h]; rfl⟩

set_option maxHeartbeats 1000000 in
set_option maxRecDepth 100000 in
theorem implDepth_in (a : Option Addr) (c : Nat) (ns : List Nd) (w : World) (hr : RdN w a ns) (h1 : 1 ≤ ns.length) (h2 : ns.length ≤ 2000) :
    Calls Try.prog 17 #[.agg #[.slice a ns.length c]] w fun e w' => e = .returned (.int .i64 (depR (ns.map Nd.ct))) ∧ Below w.heap.size w w' := by
  have HA := hide (Ans.start (ns.map Nd.ct) ⟨by simpa using h1, by simpa using h2⟩)
  generalize depR (ns.map Nd.ct) = Z at *
  have HS0 : Hid (Stk ((w.alloc (Obj.cells #[Value.slice a ns.length c] 26)).alloc (Obj.cells #[Value.slice none 0 0] 77)) (w.heap.size + 2) (w.heap.size + 1) []) := by
    refine ⟨by omega, by simp, by simp, _, ?_, World.ownsRow_nil _ _ _ _⟩
    have := heap_alloc_new (w.alloc (Obj.cells #[Value.slice a ns.length c] 26)) (Obj.cells #[Value.slice none 0 0] 77)
    simpa using this
  have HB0 : Hid (Below w.heap.size w ((w.alloc (Obj.cells #[Value.slice a ns.length c] 26)).alloc (Obj.cells #[Value.slice none 0 0] 77))) := ((Below.refl _ _).alloc (Nat.le_refl _) _).alloc (by simp) _
  go_enter Try.func17, Try.ntmps17
  go_wp2_with fail
  go_loopw [4, 20] (fun q i wr => ∃ (k dp : Nat) (st : List Ol), k ≤ ns.length ∧ i = .int .i64 (k : Int) ∧ q = .int .i64 (dp : Int) ∧ dp ≤ 1000 ∧ st.length ≤ 101 ∧ Stk wr (w.heap.size + 2) (w.heap.size + 1) st ∧ (∀ o ∈ st, KidIn w o) ∧ Below w.heap.size w wr ∧ Ans (ns.map Nd.ct) Z k (st.map Ol.ct) dp) (fun _ i _ => ns.length - (intOf i).toNat)
  case atStart => exact ⟨0, 0, [], Nat.zero_le _, rfl, rfl, by omega, by simp, HS0.out, by simp, HB0.out, HA.out⟩
  case round =>
    obtain ⟨k, dp, st, hk, rfl, rfl, hdp, hsl, hstk, hkid, hbel, hans⟩ := hrel
    by_cases hlt : k < ns.length
    · obtain ⟨-, h | ⟨b, o, rfl, hc⟩⟩ := hr
      · subst h; simp at hlt
      obtain ⟨⟨s, ak, ck, ks⟩, hx⟩ : ∃ x, ns[k] = x := ⟨_, rfl⟩
      have gx : ns[k]? = some ⟨s, ak, ck, ks⟩ := by rw [List.getElem?_eq_getElem hlt, hx]
      obtain ⟨p0, p1, p2, p3⟩ := hc k _ gx
      have p0' : wr.cell? ⟨b, o + k * 2, none⟩ = some (.string s) := by rw [hbel.cell (by exact block_lt_of_cell p0)]; exact p0
      have p1' : wr.cell? ⟨b, o + k * 2 + 1, none⟩ = some (.slice ak ks.length ck) := by rw [hbel.cell (by exact block_lt_of_cell p1)]; exact p1
      have g := getD_ct gx
      simp only [Nd.ct] at g
      have hss : s.size ≤ 1048576 := p3
      have HG := hide g
      have HAN := hide hans
      have HST := hide hstk
      have HBL := hide hbel
      have HKD := hide hkid
      have HP2 := hide p2
      have i0 : (k : Int) < (ns.length : Int) := by omega
      clear hans hstk hbel hkid hc p0 p1 p2 p3 g gx hx HS0 HB0 HA
      have hra := HST.out.later ((Below.refl wr.heap.size wr).alloc (Nat.le_refl _) (Obj.cells #[Value.string s, Value.slice ak ks.length ck] 59))
      have n0 : (wr.alloc (Obj.cells #[Value.string s, Value.slice ak ks.length ck] 59)).cell? ⟨wr.heap.size, 0, none⟩ = some (.string s) := by simp
      have n1 : (wr.alloc (Obj.cells #[Value.string s, Value.slice ak ks.length ck] 59)).cell? ⟨wr.heap.size, 1, none⟩ = some (.slice ak ks.length ck) := by simp
      have nb : (wr.alloc (Obj.cells #[Value.string s, Value.slice ak ks.length ck] 59)).heap[wr.heap.size]? = some (Obj.cells #[Value.string s, Value.slice ak ks.length ck] 59 (0, 0)) := heap_alloc_new _ _
      have hbA := HBL.out.alloc HBL.out.size (Obj.cells #[Value.string s, Value.slice ak ks.length ck] 59)
      have hsA : wr.heap.size < (wr.alloc (Obj.cells #[Value.string s, Value.slice ak ks.length ck] 59)).heap.size := by simp
      have hrw := HST.out.2.1
      by_cases hk0 : k = 0
      · subst hk0
        simp only [Nat.zero_mul, Nat.add_zero] at p0' p1'
        obtain ⟨hst0, hd0, hbo⟩ := HAN.out.zero
        have hst0' : st = [] := by simpa using hst0
        subst hst0'
        subst hd0
        rw [HG.out] at hbo
        have HBO := hide hbo
        clear hst0 hbo nb
        go_wp2_with fail
        generalize hst1 : ([] : List Ol) = st1 at *
        generalize (wr.alloc (Obj.cells #[Value.string s, Value.slice ak ks.length ck] 59)) = wa at *
        have hs1 := hra
        have b1 := hbA
        have HK1 := HKD
        have hl101 : st1.length ≤ 101 := by rw [← hst1]; simp
        clear hst1 hra hbA HKD
        have hl1 := (show Stk _ _ _ st1 from hs1).2.2.1
        have hw0 : w.heap.size ≤ wa.heap.size := b1.size
        refine Calls.mono (stSize _ _ _ _ hs1) ?_
        rintro e wa ⟨rfl, rfl⟩
        obtain ⟨hz1, hz2⟩ := Ans.body HBO.out
        by_cases hdeep : 100 < st1.length
        · have HZ := hide (hz1 (.inl (by simpa using hdeep)))
          clear hz1 hz2
          have i5 : (100 : Int) < (st1.length : Int) := by omega
          go_wp2_with fail
          go_ret
          exact ⟨ret_int HZ.out.symm, b1⟩
        have i5 : (st1.length : Int) ≤ 100 := by omega
        have hNO := nodeOk_any s ak ck ks (by omega) HP2.out.1
        cases hok : okC (s, ks) with
        | false =>
          have HZ := hide (hz1 (.inr hok))
          rw [hok] at hNO
          have HNO := hide hNO
          clear hz1 hz2 hNO hok
          go_wp2_with fail
          refine Calls.mono (HNO.out _) ?_
          rintro e w3 ⟨rfl, hb3⟩
          go_wp2_with fail
          go_ret
          exact ⟨ret_int HZ.out.symm, b1.trans (hb3.mono hw0)⟩
        | true =>
          rw [hok] at hNO
          have HNO := hide hNO
          obtain ⟨hz3, hz4⟩ := hz2 (by rintro (h | h); simp at h; exact hdeep h; rw [hok] at h; cases h)
          clear hz1 hz2 hNO hok
          go_wp2_with fail
          refine Calls.mono (HNO.out _) ?_
          rintro e w3 ⟨rfl, hb3⟩
          have hs3 := hs1.later hb3
          have m0 : w3.cell? ⟨wr.heap.size, 0, none⟩ = some (.string s) := (hb3.cell (by exact block_lt_of_cell n0)).trans n0
          have m1 : w3.cell? ⟨wr.heap.size, 1, none⟩ = some (.slice ak ks.length ck) := (hb3.cell (by exact block_lt_of_cell n1)).trans n1
          have b3 := b1.trans (hb3.mono hw0)
          by_cases hz : s.size = 0
          · have HZ := hide (hz3 hz)
            have hse := emp_of hz
            subst hse
            clear hz3 hz4 hz n0 n1 hs1 b1 hb3
            have HPU := hide (fun (u : World) (hu : Stk u (w.heap.size + 2) (w.heap.size + 1) st1) => stPush u _ _ ⟨ak, ck, ks, 0⟩ st1 hu (by omega))
            go_wp2_with fail
            refine Calls.mono (HPU.out _ hs3) ?_
            rintro e w4 ⟨rfl, hs4, hk4⟩
            go_wp2_with fail
            refine Calls.mono (stSize _ _ _ _ hs4) ?_
            rintro e w4 ⟨rfl, rfl⟩
            go_wp2_with fail
            go_roundw
            case rel =>
              refine ⟨0 + 1, max 0 (st1.length + 1), ⟨ak, ck, ks, 0⟩ :: st1, by omega, by go_num, ?_, by omega, by simp; omega, hs4, ?_, hk4.below b3 (by omega) (by omega), ?_⟩
              · first | go_num | (simp; done)
              · intro o ho
                rcases List.mem_cons.1 ho with rfl | ho
                · exact ⟨Nat.zero_le _, HP2.out⟩
                · exact HK1.out o ho
              · have h := HZ.out
                simpa [Ol.ct] using h
            case measure => simp [intOf]; omega
          · have HZ := hide (hz4 hz)
            have hz1 := ne_emp hz
            clear hz3 hz4 hz n0 n1 hs1 b1 hb3
            go_wp2_with fail
            refine Calls.mono (stSize _ _ _ _ hs3) ?_
            rintro e w4 ⟨rfl, rfl⟩
            go_wp2_with fail
            go_roundw
            case rel =>
              refine ⟨0 + 1, max 0 st1.length, st1, by omega, by go_num, ?_, by omega, by omega, hs3, HK1.out, b3, ?_⟩
              · first | go_num | (simp; done)
              · have h := HZ.out
                simpa using h
            case measure => simp [intOf]; omega
      · have i1 : (0 : Int) < (k : Int) := by omega
        obtain ⟨ha1, ha2⟩ := HAN.out.succ (by omega) (by simpa using hlt)
        have HA1 := hide ha1
        have HA2 := hide ha2
        clear ha1 ha2
        go_wp2_with fail
        generalize (wr.alloc (Obj.cells #[Value.string s, Value.slice ak ks.length ck] 59)) = wb at *
        refine Calls.mono (takeKid_any w wb _ _ k st hra HKD.out hbA (by omega) (by omega)) ?_
        rintro e wa ⟨r, rfl, hk1, htr⟩
        unfold TakeR at htr
        cases hD : dropO st with
        | nil =>
          rw [hD] at htr
          have hr0 : r = false := htr
          subst hr0
          have HZ := hide (HA1.out (by rw [← dropO_ct, hD]; rfl))
          clear htr hD
          go_wp2_with fail
          go_ret
          exact ⟨ret_int HZ.out.symm, hk1.below hbA (by omega) (by omega)⟩
        | cons x t =>
          rw [hD] at htr
          change (if _ then _ else _) at htr
          obtain ⟨hzn, hzy⟩ := HA2.out x.ct (t.map Ol.ct) (by rw [← dropO_ct, hD]; rfl)
          by_cases hv : x.ks.getD x.m 0 = (k : Int)
          · rw [if_pos hv] at htr
            obtain ⟨rfl, hs1, hxm⟩ := htr
            have hbo := hzy hv
            rw [HG.out] at hbo
            have HBO := hide (show resM (body (s, ks) ((x.bump :: t).map Ol.ct) dp (M (ns.map Nd.ct) ((ns.map Nd.ct).length - (k + 1)) (k + 1))) = Z from hbo)
            have b1 := hk1.below hbA (by omega) (by omega)
            have HK1 := hide (show ∀ o ∈ x.bump :: t, KidIn w o from fun o ho => by
              rcases List.mem_cons.1 ho with rfl | ho
              · have := HKD.out x (dropO_mem (by rw [hD]; exact List.mem_cons_self ..))
                exact ⟨hxm, this.2⟩
              · exact HKD.out o (dropO_mem (by rw [hD]; exact List.mem_cons_of_mem _ ho)))
            have hl101 : (x.bump :: t).length ≤ 101 := by
              have h0 := dropO_len st
              rw [hD] at h0
              simp at h0 ⊢
              omega
            have hnb : wa.heap[wr.heap.size]? = _ := (hk1.block wr.heap.size hsA (by omega) (.inr (fun cs fr h => by rw [nb] at h; cases h))).trans nb
            obtain ⟨n0, n1⟩ := cells_of_two hnb
            clear hbo hzn hzy hD hv hxm hra hbA HKD hnb nb
            generalize x.bump :: t = st1 at *
            go_wp2_with fail
            have hl1 := (show Stk _ _ _ st1 from hs1).2.2.1
            have hw0 : w.heap.size ≤ wa.heap.size := b1.size
            refine Calls.mono (stSize _ _ _ _ hs1) ?_
            rintro e wa ⟨rfl, rfl⟩
            obtain ⟨hz1, hz2⟩ := Ans.body HBO.out
            by_cases hdeep : 100 < st1.length
            · have HZ := hide (hz1 (.inl (by simpa using hdeep)))
              clear hz1 hz2
              have i5 : (100 : Int) < (st1.length : Int) := by omega
              go_wp2_with fail
              go_ret
              exact ⟨ret_int HZ.out.symm, b1⟩
            have i5 : (st1.length : Int) ≤ 100 := by omega
            have hNO := nodeOk_any s ak ck ks (by omega) HP2.out.1
            cases hok : okC (s, ks) with
            | false =>
              have HZ := hide (hz1 (.inr hok))
              rw [hok] at hNO
              have HNO := hide hNO
              clear hz1 hz2 hNO hok
              go_wp2_with fail
              refine Calls.mono (HNO.out _) ?_
              rintro e w3 ⟨rfl, hb3⟩
              go_wp2_with fail
              go_ret
              exact ⟨ret_int HZ.out.symm, b1.trans (hb3.mono hw0)⟩
            | true =>
              rw [hok] at hNO
              have HNO := hide hNO
              obtain ⟨hz3, hz4⟩ := hz2 (by rintro (h | h); simp at h; exact hdeep h; rw [hok] at h; cases h)
              clear hz1 hz2 hNO hok
              go_wp2_with fail
              refine Calls.mono (HNO.out _) ?_
              rintro e w3 ⟨rfl, hb3⟩
              have hs3 := hs1.later hb3
              have m0 : w3.cell? ⟨wr.heap.size, 0, none⟩ = some (.string s) := (hb3.cell (by exact block_lt_of_cell n0)).trans n0
              have m1 : w3.cell? ⟨wr.heap.size, 1, none⟩ = some (.slice ak ks.length ck) := (hb3.cell (by exact block_lt_of_cell n1)).trans n1
              have b3 := b1.trans (hb3.mono hw0)
              by_cases hz : s.size = 0
              · have HZ := hide (hz3 hz)
                have hse := emp_of hz
                subst hse
                clear hz3 hz4 hz n0 n1 hs1 b1 hb3
                have HPU := hide (fun (u : World) (hu : Stk u (w.heap.size + 2) (w.heap.size + 1) st1) => stPush u _ _ ⟨ak, ck, ks, 0⟩ st1 hu (by omega))
                go_wp2_with fail
                refine Calls.mono (HPU.out _ hs3) ?_
                rintro e w4 ⟨rfl, hs4, hk4⟩
                go_wp2_with fail
                refine Calls.mono (stSize _ _ _ _ hs4) ?_
                rintro e w4 ⟨rfl, rfl⟩
                go_wp2_with fail
                go_roundw
                case rel =>
                  refine ⟨k + 1, max dp (st1.length + 1), ⟨ak, ck, ks, 0⟩ :: st1, by omega, by go_num, ?_, by omega, by simp; omega, hs4, ?_, hk4.below b3 (by omega) (by omega), ?_⟩
                  · first | go_num | (simp; done)
                  · intro o ho
                    rcases List.mem_cons.1 ho with rfl | ho
                    · exact ⟨Nat.zero_le _, HP2.out⟩
                    · exact HK1.out o ho
                  · have h := HZ.out
                    simpa [Ol.ct] using h
                case measure => simp [intOf]; omega
              · have HZ := hide (hz4 hz)
                have hz1 := ne_emp hz
                clear hz3 hz4 hz n0 n1 hs1 b1 hb3
                go_wp2_with fail
                refine Calls.mono (stSize _ _ _ _ hs3) ?_
                rintro e w4 ⟨rfl, rfl⟩
                go_wp2_with fail
                go_roundw
                case rel =>
                  refine ⟨k + 1, max dp st1.length, st1, by omega, by go_num, ?_, by omega, by omega, hs3, HK1.out, b3, ?_⟩
                  · first | go_num | (simp; done)
                  · have h := HZ.out
                    simpa using h
                case measure => simp [intOf]; omega
          · rw [if_neg hv] at htr
            subst htr
            have HZ := hide (hzn hv)
            clear hzn hzy hD hv
            go_wp2_with fail
            go_ret
            exact ⟨ret_int HZ.out.symm, hk1.below hbA (by omega) (by omega)⟩
    · have e : k = ns.length := by omega
      subst e
      obtain ⟨hz1, hz2⟩ := Ans.last (cs := ns.map Nd.ct) (by rw [List.length_map]; exact hans) (by simpa using h1)
      have HSZ := hide hz1
      have HSN := hide hz2
      have hw0 := hstk.2.1
      have HDF := hide (dropFull_any _ _ _ _ hstk (fun o ho => ⟨by have := (hkid o ho).1; have := (hkid o ho).2.1; omega, (hkid o ho).2.1⟩))
      clear hans hz1 hz2 hkid HS0 HB0 HA
      go_wp2_with fail
      refine Calls.mono HDF.out ?_
      rintro e w1 ⟨rfl, hs1, hk1⟩
      have b1 := hk1.below hbel (by omega) (by omega)
      have hl1 := hs1.2.2.1
      go_wp2_with fail
      refine Calls.mono (stSize _ _ _ _ hs1) ?_
      rintro e w1 ⟨rfl, rfl⟩
      cases hD : dropO st with
      | nil =>
        have HZ := hide (HSZ.out (by rw [← dropO_ct, hD]; rfl))
        rw [hD] at *
        go_wp2_with fail
        go_ret
        exact ⟨ret_int HZ.out.symm, b1⟩
      | cons x t =>
        have HZ := hide (HSN.out (by rw [← dropO_ct, hD]; simp))
        rw [hD] at *
        go_wp2_with fail
        go_ret
        exact ⟨ret_int HZ.out.symm, b1⟩

theorem implDepth_any (a : Option Addr) (c : Nat) (ns : List Nd) (w : World) (hr : RdN w a ns) :
    Calls Try.prog 17 #[.agg #[.slice a ns.length c]] w fun e w' => e = .returned (.int .i64 (depR (ns.map Nd.ct))) ∧ Below w.heap.size w w' := by
  by_cases h : 1 ≤ ns.length ∧ ns.length ≤ 2000
  · exact implDepth_in a c ns w hr h.1 h.2
  · have hlen := hr.1
    rw [depR_lt (by simpa using h)]
    have hb0 : Below w.heap.size w (w.alloc (Obj.cells #[Value.slice a ns.length c] 26)) := (Below.refl _ _).alloc (Nat.le_refl _) _
    clear hr
    by_cases h1 : 1 ≤ ns.length
    · have h2 : 2000 < ns.length := by omega
      clear h
      go_enter Try.func17, Try.ntmps17
      go_wp2_with fail
      go_ret
      exact ⟨rfl, hb0⟩
    · have h2 : ns = [] := List.eq_nil_of_length_eq_zero (by omega)
      subst h2
      clear h
      go_enter Try.func17, Try.ntmps17
      go_wp2_with fail
      go_ret
      exact ⟨rfl, hb0⟩

theorem implTreeOk_any (a : Option Addr) (c : Nat) (ns : List Nd) (w : World) (hr : RdN w a ns) :
    Calls Try.prog 16 #[.agg #[.slice a ns.length c]] w fun e w' => e = .returned (.bool (decide (0 ≤ depR (ns.map Nd.ct)))) ∧ Below w.heap.size w w' := by
  have hlen := hr.1
  have hb0 : Below w.heap.size w (w.alloc (Obj.cells #[Value.slice a ns.length c] 26)) := (Below.refl _ _).alloc (Nat.le_refl _) _
  have HC := hide (fun u hu => implDepth_any a c ns u hu)
  have HR0 := hide (hr.later hb0)
  generalize depR (ns.map Nd.ct) = Z at *
  clear hr
  go_enter Try.func16, Try.ntmps16
  go_wp2_with fail
  refine Calls.mono (HC.out _ HR0.out) ?_
  rintro e w1 ⟨rfl, hb1⟩
  go_wp2_with fail
  go_ret
  exact ⟨rfl, hb0.trans (hb1.mono (by simp))⟩

end Go.Proofs.Yteainbakfeedpaa
