/- What the given l2Text answers. -/
import Derived.Test.YteainbakfeedpaaUB
namespace Go.Proofs.Yteainbakfeedpaa
set_option linter.unusedVariables false
set_option linter.unusedSimpArgs false
open Go.RowKit

def noX : Nat → Prop := fun _ => False

theorem cells_two {w : World} {g : Nat} {x y : Value} {t : TypeId} (h : w.heap[g]? = some (.cells #[x, y] t (0, 0))) : w.cell? ⟨g, 0, none⟩ = some x ∧ w.cell? ⟨g, 1, none⟩ = some y :=
  ⟨by rw [cell_of_row w g 0 _ _ _ h]; rfl, by rw [cell_of_row w g 1 _ _ _ h]; rfl⟩

theorem cellNew (u : World) (x : Value) (t : TypeId) (k : Nat) (hk : k = u.heap.size) : (u.alloc (.cells #[x] t)).cell? ⟨k, 0, none⟩ = some x := by subst hk; simp

theorem getKid {w : World} {a : Option Addr} {ks : List Int} (h : RdI w a ks) {i : Nat} (hi : i < ks.length) : ∃ b o, a = some ⟨b, o, none⟩ ∧ w.cell? ⟨b, o + i, none⟩ = some (.int .i64 (ks.getD i 0)) := by
  obtain ⟨-, -, h | ⟨b, o, rfl, hc⟩⟩ := h
  · subst h; simp at hi
  · exact ⟨b, o, rfl, hc i hi⟩

/-- A call hands a row of bytes back, a text put behind another one. -/
def RetT (B : Nat) (w : World) (out t : List Nat) (e : Ending) (w' : World) : Prop := ∃ (v' : Value) (R : List Nat), e = .returned v' ∧ OwB w' B v' R ∧ KeptU B noX w w' ∧ TxOk out t R

set_option maxHeartbeats 1000000 in
set_option maxRecDepth 100000 in
theorem l2Text_any (ns : List Nd) (hN : ns.length ≤ 2000) (w0 : World) (a : Option Addr) (c B : Nat) (hr : RdN w0 a ns) (hB : w0.heap.size ≤ B) (f : Nat) : ∀ (p deep e1 d1 : Nat) (w : World) (v : Value) (out : List Nat), Below w0.heap.size w0 w → p < ns.length → W (ns.map Nd.ct) f p deep = some (e1, d1) →
    OwB w B v out → B ≤ w.heap.size → (∀ x ∈ out, x < 256) → out.length + (Tx (ns.map Nd.ct) f p).length ≤ 1099511627776 →
    Calls Try.prog 29 #[.agg #[.slice a ns.length c], .int .i64 (p : Int), v] w (RetT B w out (Tx (ns.map Nd.ct) f p)) := by
  induction f with
  | zero => intro p deep e1 d1 w v out hb hp hw; simp [W] at hw
  | succ f ih =>
    intro p deep e1 d1 w v out hb hp hw ho hBw hob hle
    obtain ⟨ao, cap, rfl, hcap1, hcap2⟩ := ho.shape
    have hr0 := hr
    obtain ⟨-, h | ⟨b, o, rfl, hc⟩⟩ := hr
    · subst h; simp at hp
    obtain ⟨⟨s, ak, ck, ks⟩, hx⟩ : ∃ x, ns[p] = x := ⟨_, rfl⟩
    have gx : ns[p]? = some ⟨s, ak, ck, ks⟩ := by rw [List.getElem?_eq_getElem hp, hx]
    have hk0 : RdI w0 ak ks := (hc p _ gx).2.2.1
    obtain ⟨p0, p1, p2, p3⟩ := (hc p _ gx).later hb
    simp only [] at p0 p1 p2 p3
    have hlk := p2.1
    have hpi : (p : Int) < (ns.length : Int) := by omega
    have g := getD_ct gx
    simp only [Nd.ct] at g
    obtain ⟨-, hok, d', hl, -⟩ := Wsome hw
    have htl := Tx_lt (ns.map Nd.ct) (f + 1) p
    have hTy : s.size = 0 → Tx (ns.map Nd.ct) (f + 1) p = [40] ++ (TxR (Tx (ns.map Nd.ct) f) true ks ++ [41]) := fun h => by rw [Tx, g]; exact if_pos h
    have hTn : s.size ≠ 0 → Tx (ns.map Nd.ct) (f + 1) p = bl s := fun h => by rw [Tx, g]; exact if_neg h
    generalize Tx (ns.map Nd.ct) (f + 1) p = tot at *
    rw [g] at hok hl
    rw [List.length_map] at hl
    simp only [] at hok hl
    clear hc hx gx g hw p2
    have l0 := block_lt_of_cell p0
    have hWB0 : B ≤ ((w.alloc (Obj.cells #[Value.slice (some ⟨b, o, none⟩) ns.length c] 26)).alloc (Obj.cells #[Value.string s, Value.slice ak ks.length ck] 59)).heap.size := by simp; omega
    have hWB1 : KeptU B noX w ((w.alloc (Obj.cells #[Value.slice (some ⟨b, o, none⟩) ns.length c] 26)).alloc (Obj.cells #[Value.string s, Value.slice ak ks.length ck] 59)) := ((KeptU.refl B noX w).alloc _).alloc _
    have hWB2 : ((w.alloc (Obj.cells #[Value.slice (some ⟨b, o, none⟩) ns.length c] 26)).alloc (Obj.cells #[Value.string s, Value.slice ak ks.length ck] 59)).heap[w.heap.size]? = some (Obj.cells #[Value.slice (some ⟨b, o, none⟩) ns.length c] 26 (0, 0)) := (Below.heap_alloc _ _ _ (by simp)).trans (heap_alloc_new _ _)
    have hWB3 : ((w.alloc (Obj.cells #[Value.slice (some ⟨b, o, none⟩) ns.length c] 26)).alloc (Obj.cells #[Value.string s, Value.slice ak ks.length ck] 59)).heap[w.heap.size + 1]? = some (Obj.cells #[Value.string s, Value.slice ak ks.length ck] 59 (0, 0)) := by
      have := heap_alloc_new (w.alloc (Obj.cells #[Value.slice (some ⟨b, o, none⟩) ns.length c] 26)) (Obj.cells #[Value.string s, Value.slice ak ks.length ck] 59)
      simpa using this
    have hoA := (ho.alloc (Obj.cells #[Value.slice (some ⟨b, o, none⟩) ns.length c] 26)).alloc (Obj.cells #[Value.string s, Value.slice ak ks.length ck] 59)
    by_cases hlong : 20000 < out.length
    · have i5 : (20000 : Int) < (out.length : Int) := by omega
      have HO := hid hoA
      have HW := hid hWB1
      clear ho hoA ih hWB1 hWB2 hWB3
      go_enter Try.func29, Try.ntmps29
      go_wp2_with fail
      go_ret
      exact ⟨_, out, rfl, HO.out, HW.out, by omega, hob, hob, .inr ⟨hlong, by omega⟩⟩
    by_cases hz : s.size = 0
    · have i5 : (out.length : Int) ≤ 20000 := by omega
      have hse := emp_of hz
      subst hse
      have hT := hTy hz
      clear hTy hTn hz hok p3
      have hk0' := hid hk0
      have HL := hid hl
      have HT := hid hT
      have HO := hid hoA
      have HW := hid hWB1
      have HH2 := hid hWB2
      have HH3 := hid hWB3
      have HLE := hid hle
      have HTL := hid htl
      clear ho hoA hWB1 hWB2 hWB3 hT hl hk0 hle htl
      have IH := hid ih
      clear ih
      go_enter Try.func29, Try.ntmps29
      go_wp2_with (at_builtin; refine wpList_appB _ rfl _ _ rfl B _ out 40 rfl (HO.out.alloc _) (w.heap.size + 1 + 1) rfl (cellNew _ _ _ _ (by simp)) (by omega) (by simp; omega) ?_)
      intro v5 w5 ho5 hg5
      have HW5 := hid ((HW.out.alloc _).grown hg5 (HO.out.alloc _))
      have HX2 := hid (KeptU.other (((KeptU.refl B noX _).alloc _).grown hg5 (HO.out.alloc _)) HH2.out (by decide) (fun h => h))
      have HX3 := hid (KeptU.other (((KeptU.refl B noX _).alloc _).grown hg5 (HO.out.alloc _)) HH3.out (by decide) (fun h => h))
      have HO5 := hid ho5
      clear hg5 ho5 HW HO HH2 HH3 hWB0 p0 p1
      go_wp2_with fail
      go_loopw [2, 8] (fun q i wr => ∃ (j nx d2 : Nat) (R : List Nat), j ≤ ks.length ∧ i = .int .i64 (j : Int) ∧ OwB wr B q R ∧ p < nx ∧ WL ns.length (fun nx => W (ns.map Nd.ct) f nx (deep + 1)) (ks.drop j) nx = some (e1, d2) ∧ KidsTo out (TxR (Tx (ns.map Nd.ct) f) (decide (j = 0)) (ks.drop j) ++ [41]) tot R ∧ KeptU B noX w5 wr) (fun _ i _ => ks.length - (intOf i).toNat)
      case atStart =>
        refine ⟨0, p + 1, d', out ++ [40], Nat.zero_le _, rfl, HO5.out, by omega, by rw [List.drop_zero]; exact HL.out, ?_, KeptU.refl _ _ _⟩
        rw [HT.out]
        refine ⟨by simp; omega, fun x hx => ?_, .inl (by simp)⟩
        rcases List.mem_append.1 hx with h | h
        · exact hob x h
        · simp at h; omega
      case round =>
        obtain ⟨j, nx, d2, R, hj, rfl, hoR, hnx, hwl, hkt, hkp⟩ := hrel
        obtain ⟨aR, cR, rfl, -, -⟩ := hoR.shape
        have hb2 := KeptU.other hkp HX2.out (by decide) (fun h => h)
        have hb3 := KeptU.other hkp HX3.out (by decide) (fun h => h)
        have x2 := cell_of_one hb2
        have x3 := (cells_two hb3).2
        have hbw : Below w0.heap.size w0 wr := (HW5.out.trans hkp).below hb hB (fun _ _ h => h)
        have hBr : B ≤ wr.heap.size := Nat.le_trans hBw (HW5.out.trans hkp).size
        have HKP := hid hkp
        clear hkp
        by_cases hlt : j < ks.length
        · obtain ⟨kb, ko, rfl, hkc0⟩ := getKid hk0'.out hlt
          have hkb : kb < w0.heap.size := block_lt_of_cell hkc0
          have hdr : ks.drop j = ks.getD j 0 :: ks.drop (j + 1) := by
            rw [List.drop_eq_getElem_cons hlt]; simp [List.getD, hlt]
          rw [hdr] at hwl hkt
          obtain ⟨hkv, hnl, nx', dk, dr, h1w, hwr, -⟩ := WLsome hwl
          rw [TxR, List.append_assoc, List.append_assoc] at hkt
          rw [hkv] at hkc0 hkt
          rw [Int.toNat_natCast] at hkt
          have hkc : wr.cell? ⟨kb, ko + j, none⟩ = some (.int .i64 (nx : Int)) := (hbw.cell (by exact hkb)).trans hkc0
          have hle2 := W_le (by simpa using hnl) h1w
          have HWR := hid hwr
          have HKC0 := hid hkc0
          have HKT := hid hkt
          have hRl := hkt.1
          have hRb := hkt.2.1
          have hji : (j : Int) < (ks.length : Int) := by omega
          have hLE := HLE.out
          clear hkv hdr hwl hwr hkt hkc0
          by_cases hj0 : j = 0
          · subst hj0
            simp only [decide_true, if_true, List.nil_append, Nat.add_zero] at HKT hRl hkc HKC0
            have HLR : Hid ((R ++ []).length + (Tx (ns.map Nd.ct) f nx).length ≤ 1099511627776) := by
              show _ ≤ _
              simp only [List.length_append, List.length_nil] at hRl ⊢
              omega
            have HRS : Hid (∀ x ∈ R ++ [], x < 256) := fun x hx => hRb x (by simpa using hx)
            have hoq : OwB wr B (.slice aR R.length cR) (R ++ []) := by rw [List.append_nil]; exact hoR
            have HKT' : Hid (KidsTo out ([] ++ (Tx (ns.map Nd.ct) f nx ++ (TxR (Tx (ns.map Nd.ct) f) false (List.drop (0 + 1) ks) ++ [41]))) tot R) := HKT.out
            have hbq := hbw
            have hBq := hBr
            clear hRl hRb hoR hLE HKT
            have HKT := HKT'
            clear HKT'
            go_wp2_with fail
            generalize hwq : wr = wq at *
            have HC := hid (fun u v0 (h1 : Below w0.heap.size w0 u) (h2 : OwB u B v0 (R ++ [])) (h3 : B ≤ u.heap.size) => IH.out nx (deep + 1) nx' dk u v0 (R ++ []) h1 hnl h1w h2 h3 HRS.out HLR.out)
            go_region_held3 (fun u => u.cell? ⟨w.heap.size, 0, none⟩ = some (Value.slice (some ⟨b, o, none⟩) ns.length c) ∧ u.cell? ⟨w.heap.size + 1, 1, none⟩ = some (Value.slice (some ⟨kb, ko, none⟩) ks.length ck) ∧ u.cell? ⟨kb, ko, none⟩ = some (Value.int IntKind.i64 (nx : Int))) (first | (refine ⟨?_, ?_, ?_⟩ <;> assumption) | exact ⟨x2, x3, hkc⟩)
              ((go_at_call 29; refine Calls.mono (HC.out _ _ hbq.drew hoq hBq) ?_; rintro e w7 ⟨v7, R7, rfl, ho7, hk7, ht7⟩; replace hk7 := KeptU.undrew hk7; have y2 := cell_of_one (KeptU.other hk7 hb2 (by decide) (fun h => h)); have y3 := (cells_two (KeptU.other hk7 hb3 (by decide) (fun h => h))).2; have y4 : w7.cell? ⟨kb, ko, none⟩ = some (Value.int IntKind.i64 (nx : Int)) := ((hk7.below hbq hB (fun _ _ h => h)).cell (by exact hkb)).trans HKC0.out))
            have HO7 := hid ho7
            obtain ⟨a7, c7, rfl, -, -⟩ := ho7.shape
            have HK7 := hid hk7
            have HT7 := hid ht7
            clear ho7 hk7 ht7 y2 y3 y4
            go_wp2_with fail
            go_roundw
            case rel =>
              refine ⟨0 + 1, nx', dr, R7, by omega, by go_num, HO7.out, by omega, HWR.out, ?_, HKP.out.trans (HK7.out)⟩
              rw [show decide (0 + 1 = 0) = false by simp]
              exact KidsTo.step HKT.out HT7.out
            case measure => simp [intOf]; omega
          · have hjp : (0 : Int) < (j : Int) := by omega
            have hd : decide (j = 0) = false := by simp [hj0]
            rw [hd] at HKT hRl
            simp only [Bool.false_eq_true, if_false] at HKT hRl
            have HLR : Hid ((R ++ [32]).length + (Tx (ns.map Nd.ct) f nx).length ≤ 1099511627776) := by
              show _ ≤ _
              simp only [List.length_append, List.length_cons, List.length_nil] at hRl ⊢
              omega
            have HRS : Hid (∀ x ∈ R ++ [32], x < 256) := fun x hx => by
              rcases List.mem_append.1 hx with h | h
              · exact hRb x h
              · simp at h; omega
            have hRn : R.length ≤ 1099511627776 := by omega
            clear hRl hRb hLE hd
            go_wp2_with (at_builtin; refine wpList_appB _ rfl _ _ rfl B _ R 32 rfl (hoR.alloc _) wr.heap.size rfl (cellNew _ _ _ _ rfl) hRn (by simp; omega) ?_)
            intro v6 wq hoq hg6
            have hk6 : KeptU B noX wr wq := ((KeptU.refl B noX wr).alloc _).grown hg6 (hoR.alloc _)
            obtain ⟨a6, c6, rfl, -, -⟩ := hoq.shape
            replace hoq : OwB wq B (.slice a6 (R.length + 1) c6) (R ++ [32]) := by rw [List.length_append] at hoq; exact hoq
            have HK6 := hid hk6
            have hbq : Below w0.heap.size w0 wq := hk6.below hbw hB (fun _ _ h => h)
            have hBq : B ≤ wq.heap.size := Nat.le_trans hBr hk6.size
            replace hb2 := KeptU.other hk6 hb2 (by decide) (fun h => h)
            replace hb3 := KeptU.other hk6 hb3 (by decide) (fun h => h)
            replace x2 := cell_of_one hb2
            replace x3 := (cells_two hb3).2
            replace hkc : wq.cell? ⟨kb, ko + j, none⟩ = some (.int .i64 (nx : Int)) := (hbq.cell (by exact hkb)).trans HKC0.out
            clear hg6 hk6 hoR
            go_wp2_with fail
            have HC := hid (fun u v0 (h1 : Below w0.heap.size w0 u) (h2 : OwB u B v0 (R ++ [32])) (h3 : B ≤ u.heap.size) => IH.out nx (deep + 1) nx' dk u v0 (R ++ [32]) h1 hnl h1w h2 h3 HRS.out HLR.out)
            go_region_held3 (fun u => u.cell? ⟨w.heap.size, 0, none⟩ = some (Value.slice (some ⟨b, o, none⟩) ns.length c) ∧ u.cell? ⟨w.heap.size + 1, 1, none⟩ = some (Value.slice (some ⟨kb, ko, none⟩) ks.length ck) ∧ u.cell? ⟨kb, ko + j, none⟩ = some (Value.int IntKind.i64 (nx : Int))) (first | (refine ⟨?_, ?_, ?_⟩ <;> assumption) | exact ⟨x2, x3, hkc⟩)
              ((go_at_call 29; refine Calls.mono (HC.out _ _ hbq.drew hoq hBq) ?_; rintro e w7 ⟨v7, R7, rfl, ho7, hk7, ht7⟩; replace hk7 := KeptU.undrew hk7; have y2 := cell_of_one (KeptU.other hk7 hb2 (by decide) (fun h => h)); have y3 := (cells_two (KeptU.other hk7 hb3 (by decide) (fun h => h))).2; have y4 : w7.cell? ⟨kb, ko + j, none⟩ = some (Value.int IntKind.i64 (nx : Int)) := ((hk7.below hbq hB (fun _ _ h => h)).cell (by exact hkb)).trans HKC0.out))
            have HO7 := hid ho7
            obtain ⟨a7, c7, rfl, -, -⟩ := ho7.shape
            have HK7 := hid hk7
            have HT7 := hid ht7
            clear ho7 hk7 ht7 y2 y3 y4
            go_wp2_with fail
            go_roundw
            case rel =>
              refine ⟨j + 1, nx', dr, R7, by omega, by go_num, HO7.out, by omega, HWR.out, ?_, HKP.out.trans (HK6.out.trans HK7.out)⟩
              rw [show decide (j + 1 = 0) = false by simp]
              exact KidsTo.step HKT.out HT7.out
            case measure => simp [intOf]; omega
        · have e : j = ks.length := by omega
          subst e
          rw [List.drop_length, TxR, List.nil_append] at hkt
          have HKT := hid hkt
          have hRn : R.length ≤ 1099511627776 := by have h1 := hkt.1; have h2 := HLE.out; simp at h1; omega
          clear hkt hwl
          go_wp2_with (at_builtin; refine wpList_appB _ rfl _ _ rfl B _ R 41 rfl (hoR.alloc _) wr.heap.size rfl (cellNew _ _ _ _ rfl) hRn (by simp; omega) ?_)
          intro v6 wq hoq hg6
          have hk6 : KeptU B noX wr wq := ((KeptU.refl B noX wr).alloc _).grown hg6 (hoR.alloc _)
          obtain ⟨a6, c6, rfl, -, -⟩ := hoq.shape
          have HOQ := hid hoq
          have HK6 := hid hk6
          clear hoq hk6 hg6 hoR
          go_wp2_with fail
          go_ret
          exact ⟨_, _, rfl, HOQ.out, (HW5.out.trans HKP.out).trans HK6.out, KidsTo.shut HKT.out hob (by simp)⟩
    · have hz1 := ne_emp hz
      have hT := hTn hz
      have i5 : (out.length : Int) ≤ 20000 := by omega
      have hll : out.length + s.size ≤ 1099511627776 := by omega
      have HO := hid hoA
      have HW := hid hWB1
      have HT := hid hT
      clear ho hoA ih hWB1 hWB2 hWB3 hT hTy hTn hz
      go_enter Try.func29, Try.ntmps29
      go_wp2_with (at_builtin; refine wpList_appS _ rfl _ _ rfl B _ out s rfl HO.out rfl hll hWB0 ?_)
      intro v5 w5 ho5 hg5
      have HW5 := hid (HW.out.grown hg5 HO.out)
      have HO5 := hid ho5
      obtain ⟨a5, c5, rfl, -, -⟩ := ho5.shape
      clear hg5 ho5
      go_wp2_with fail
      go_ret
      refine ⟨_, _, rfl, HO5.out, HW5.out, ?_⟩
      rw [HT.out]
      exact TxOk.start hob (bl_lt s)

end Go.Proofs.Yteainbakfeedpaa
