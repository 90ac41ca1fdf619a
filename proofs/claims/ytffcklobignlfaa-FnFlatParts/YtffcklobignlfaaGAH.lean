/- Several texts in one. -/
import Derived.Test.YtffcklobignlfaaGAF
import Derived.Maps.Own
import Derived.Maps.OwnSet
import Derived.Test.YtffcklobignlfaaGAE
import Derived.Test.YtffcklobignlfaaRX
import Derived.Deep.OwnRows
import Derived.Deep.RegionHeldLaw
import Derived.Deep.AppendLies
namespace Go.Proofs.Ytffcklobignlfaa
open Go.RowKit
set_option linter.unusedVariables false
set_option linter.unusedSimpArgs false
open Go.RowKit Go.WideMaps Go.Maps
theorem mlaw : Keyed Try.prog 9 := string_keyed Try.underlying9
theorem make_places (k : IntKind) (n : Int) (w : World) : (Instr.makeMap 99 (some (.int k n))).run Try.prog w = .ok (.map (some w.heap.size)) (w.alloc (.map #[] 0)) := by
 have h := Try.underlying99
 simp [Instr.makeMap, go_sem, h]
def PlAt (w : World) (g : Nat) (l : List ByteArray) : Prop := ∃ D : DataW Unit, w.ownsMap Try.prog 9 (plainElem Try.prog 2) g l.length D ∧ Pl D l
set_option maxRecDepth 100000 in
theorem placesOf_any (a : Option Addr) (c : Nat) (ds : List Dc) (w : World) (hr : RdD w a ds) (hn : ∀ d ∈ ds, d.1.size ≤ 1048576) :
  Calls Try.prog 60 #[.slice a ds.length c] w fun e w' => e = .returned (.map (some w.heap.size)) ∧ PlAt w' w.heap.size (ds.map Prod.fst) ∧ Below w.heap.size w w' := by
 have hlen := hr.1
 have hmm := make_places
 go_enter Try.func60, Try.ntmps60
 go_wp2_with fail
 go_loopw [11] (fun i wr => ∃ k : Nat, k ≤ ds.length ∧ i = .int .i64 (k : Int) ∧ PlAt wr w.heap.size ((ds.take k).map Prod.fst) ∧ Below w.heap.size w wr) (fun i _ => ds.length - (intOf i).toNat)
 case atStart => exact ⟨0, Nat.zero_le _, rfl, ⟨_, World.ownsMap_made _ _ _ _, Pl.start⟩, (Below.refl _ _).alloc (Nat.le_refl _) _⟩
 case round =>
  obtain ⟨k, hk, rfl, ⟨D, hown, hpl⟩, hbel⟩ := hrel
  clear hmm
  by_cases hlt : k < ds.length
  ·obtain ⟨-, -, h | ⟨b, o, rfl, hc⟩⟩ := hr
   ·subst h; simp at hlt
   obtain ⟨⟨t, x⟩, hh⟩ : ∃ x, ds[k] = x := ⟨_, rfl⟩
   have gx : ds[k]? = some (t, x) := by rw [List.getElem?_eq_getElem hlt, hh]
   obtain ⟨p0, p1⟩ := (hc k _ gx).later hbel
   simp only [] at p0 p1
   have hts := hn _ (List.mem_of_getElem? gx)
   simp only [] at hts
   have hkey : keyOf Try.prog 9 (.string t) = some (kyOf t) := keyOf_string_mk Try.underlying9 (by unfold maxLen; omega)
   have hml : ((ds.take k).map Prod.fst).length = k := by simp; omega
   rw [hml] at hown
   have hst := hpl.step t trivial
   rw [hml] at hst
   have HST := kide hst
   have HTK : Hid ((ds.take (k + 1)).map Prod.fst = (ds.take k).map Prod.fst ++ [t]) := by
    show _ = _
    rw [List.take_add_one, gx]; simp
   have HB : Hid _ := hbel
   have hsz : w.heap.size < wr.heap.size := hown.lt
   have HOW := kide hown
   have i0 : (k : Int) < (ds.length : Int) := by omega
   clear hc hh gx hbel hpl hst hml hn
   go_wp2_with (first
    | (at_mapUpdate; refine wpList_mapUpdate_own _ rfl _ _ _ 99 rfl 9 2 mlaw Try.underlying99 _ w.heap.size k _ rfl (HOW.out.alloc _) (by unfold maxLen; omega) _ _ _ rfl rfl hkey _ [] (plainElem_int Try.underlying2 (WalkArith.wf_i64 (by omega))) ?_)
    | fail)
   intro w1 hown1 hg1
   have HR1 : Hid _ := hown1
   have HR2 := kide ((HB.out.alloc HB.out.size _).grown hg1 (by have := HB.out.size; simp; omega) (fun j hj => by cases hj; exact Nat.le_refl _))
   clear hown1 hg1 hown
   go_wp2_with fail
   go_roundw
   case rel =>
    refine ⟨k + 1, by omega, by go_num, ⟨_, ?_, by rw [HTK.out]; exact HST.out⟩, HR2.out⟩
    have h := HR1.out
    have e : ((ds.take (k + 1)).map Prod.fst).length = k + 1 := by simp; omega
    rw [e]; exact h
   case measure => simp [intOf]; omega
  ·have e : k = ds.length := by omega
   have HB : Hid _ := hbel
   rw [e, List.take_length] at hown hpl
   have HP : Hid (PlAt wr w.heap.size (ds.map Prod.fst)) := ⟨D, hown, hpl⟩
   clear hbel hown hpl e
   go_wp2_with fail
   go_ret
   exact ⟨rfl, HP.out, HB.out⟩

open Go.RowKit Go.WideMaps Go.Maps
set_option maxHeartbeats 1000000 in
theorem specDecls_any (a : Option Addr) (c : Nat) (ds : List Dc) (w : World) (hr : RdD w a ds) :
  Calls Try.prog 34 #[.slice a ds.length c] w fun e w' => e = .returned (.bool (dclR ds)) ∧ Below w.heap.size w w' := by
 have hlen := hr.1
 by_cases h60 : ds.length ≤ 60
 ·go_enter Try.func34, Try.ntmps34
  go_wp2_with fail
  have HLN := kide hlen
  clear hlen
  go_loopw [3, 4] (fun q i wr => ∃ k : Nat, k ≤ ds.length ∧ i = .int .i64 (k : Int) ∧ q = .int .i64 (sumW (ds.take k)) ∧ (∀ d ∈ ds.take k, dcOk d = true) ∧ ((ds.take k).map Prod.fst).Nodup ∧ Below w.heap.size w wr) (fun _ i _ => ds.length - (intOf i).toNat)
  case atStart => exact ⟨0, Nat.zero_le _, rfl, by simp [sumW], by simp, by simp, Below.refl _ _⟩
  case round =>
   obtain ⟨k, hk, rfl, rfl, hok, hnd, hbel⟩ := hrel
   have HB := kide hbel
   by_cases hlt : k < ds.length
   ·obtain ⟨-, hsz, h | ⟨b, o, rfl, hc⟩⟩ := hr
    ·subst h; simp at hlt
    obtain ⟨⟨t, x⟩, hh⟩ : ∃ x, ds[k] = x := ⟨_, rfl⟩
    have gx : ds[k]? = some (t, x) := by rw [List.getElem?_eq_getElem hlt, hh]
    obtain ⟨p0, p1⟩ := (hc k _ gx).later hbel
    simp only [] at p0 p1
    obtain ⟨hx64, hts⟩ := hsz _ (List.mem_of_getElem? gx)
    simp only [] at hx64 hts
    have i0 : (k : Int) < (ds.length : Int) := by omega
    have HC := kide hc
    have GX := kide gx
    have hsum := sumW_le hok
    have hst := sumW_take gx
    simp only [] at hst
    have htl : (ds.take k).length = k := by simp; omega
    rw [htl] at hsum
    have HST := kide hst
    have HOK := kide hok
    have HND := kide hnd
    have hN : ∀ u, Calls Try.prog 54 #[.string t] u fun e w' => e = .returned (.bool (nmOk t)) ∧ w' = u := fun u => l1Name_any t hts u
    have hW : ∀ u, Calls Try.prog 33 #[.int .i64 x, .int .i64 1, .int .i64 4096] u fun e w' => e = .returned (.bool (wOk x)) ∧ w' = u := fun u => l1In_any x 1 4096 u
    have HN := kide hN
    have HW := kide hW
    have HBAD : Hid (nmOk t = false ∨ wOk x = false → dclR ds = false) := fun h => dclR_bad gx (by rcases h with h | h <;> simp [dcOk, h])
    have HGOOD : Hid (nmOk t = true → wOk x = true → dcOk (t, x) = true) := fun h h' => by simp [dcOk, h, h']
    have hwx : wOk x = true → 1 ≤ x ∧ x ≤ 4096 := fun h => by simpa [wOk] using h
    clear hN hW hc gx hh hsz hok hnd hst htl hbel
    generalize sumW (ds.take k) = Q at *
    generalize nmOk t = r1 at *
    cases r1 with
    | false =>
     have HR := kide (HBAD.out (.inl (by simp)))
     go_wp2_with (go_at_call 54; refine Calls.mono (HN.out _) ?_; rintro e w1 ⟨rfl, rfl⟩)
     go_ret
     exact ⟨ret_bool HR.out.symm, HB.out⟩
    | true =>
     generalize wOk x = r2 at *
     cases r2 with
     | false =>
      have HR := kide (HBAD.out (.inr (by simp)))
      go_wp2_with (first | (go_at_call 54; refine Calls.mono (HN.out _) ?_; rintro e wr ⟨rfl, rfl⟩) | (go_at_call 33; refine Calls.mono (HW.out _) ?_; rintro e wr ⟨rfl, rfl⟩))
      go_ret
      exact ⟨ret_bool HR.out.symm, HB.out⟩
     | true =>
      have hx := hwx (by simp)
      obtain ⟨hx1, hx2⟩ := hx
      have HG := kide (HGOOD.out (by simp) (by simp))
      clear HBAD HGOOD hwx
      go_wp2_with (first | (go_at_call 54; refine Calls.mono (HN.out _) ?_; rintro e wr ⟨rfl, rfl⟩) | (go_at_call 33; refine Calls.mono (HW.out _) ?_; rintro e wr ⟨rfl, rfl⟩))
      obtain ⟨hs1, hs2⟩ := hsum
      have hlk := block_lt_of_cell p0
      rename_i wo
      go_loopw [5] (fun i wr => ∃ j : Nat, j ≤ k ∧ i = .int .i64 (j : Int) ∧ (∀ i d, i < j → ds[i]? = some d → d.1 ≠ t) ∧ Below w.heap.size w wr) (fun i _ => k - (intOf i).toNat)
      case atStart => exact ⟨0, Nat.zero_le _, rfl, fun i d h => by omega, HB.out⟩
      case round =>
       obtain ⟨j, hj, rfl, hne, hbel⟩ := hrel
       clear p0 p1 HB
       obtain ⟨p0, p1⟩ := (HC.out k _ GX.out).later hbel
       simp only [] at p0 p1
       have HB := kide hbel
       have HNE := kide hne
       clear hbel hne
       by_cases hjk : j < k
       ·obtain ⟨⟨t2, x2⟩, hh2⟩ : ∃ x, ds[j]'(by omega) = x := ⟨_, rfl⟩
        have gx2 : ds[j]? = some (t2, x2) := by rw [List.getElem?_eq_getElem (by omega), hh2]
        obtain ⟨q0, q1⟩ := (HC.out j _ gx2).later HB.out
        simp only [] at q0 q1
        have GX2 := kide gx2
        have j0 : (j : Int) < (k : Int) := by omega
        have j1 : (j : Int) < (ds.length : Int) := by omega
        clear gx2 hh2
        by_cases ht : t2 = t
        ·subst ht
         have HR : Hid (dclR ds = false) := by
          show _ = _
          rw [Bool.eq_false_iff]; intro h'
          have hnd := (dclR_iff.1 h').2.2.2
          have h1 : (ds.map Prod.fst)[j]? = some t2 := by simp [GX2.out]
          have h2 : (ds.map Prod.fst)[k]? = some t2 := by simp [GX.out]
          have := (List.getElem?_inj (by simp; omega) hnd).1 (h1.trans h2.symm)
          omega
         go_wp2_with fail
         go_quiet (fail)
         go_wp2_with fail
         go_ret
         exact ⟨ret_bool HR.out.symm, below_drewN HB.out _⟩
        ·have hne2 := kstr_ne ht
         have HT := kide ht
         clear ht
         go_wp2_with fail
         go_quiet (fail)
         go_wp2_with fail
         go_roundw
         case rel =>
          refine ⟨j + 1, by omega, by go_num, fun i d hi hd => ?_, below_drewN HB.out _⟩
          by_cases hij : i = j
          ·subst hij
           rw [GX2.out] at hd
           cases hd
           exact HT.out
          ·exact HNE.out i d (by omega) hd
         case measure => simp [intOf]; omega
       ·have hjk' : j = k := by omega
        have HJ := kide hjk'
        clear hjk'
        go_wp2_with fail
        go_roundw
        case rel =>
         refine ⟨k + 1, by omega, by go_num, ?_, ?_, ?_, HB.out⟩
         ·rw [HST.out]
         ·intro d hd
          rw [List.take_add_one, GX.out] at hd
          rcases List.mem_append.1 hd with hd | hd
          ·exact HOK.out d hd
          ·simp at hd
           subst hd
           exact HG.out
         ·rw [List.take_add_one, GX.out, List.map_append]
          refine List.nodup_append.2 ⟨HND.out, by simp, fun y hy z hz => ?_⟩
          simp at hz
          subst hz
          obtain ⟨d, hd, rfl⟩ := List.mem_map.1 hy
          obtain ⟨i, hi, hid⟩ := List.mem_iff_getElem.1 hd
          simp at hi hid
          have := HNE.out i d (by rw [HJ.out]; omega) (by rw [List.getElem?_eq_getElem (by omega)]; exact congrArg some hid)
          exact this
        case measure => simp [intOf]; omega
   ·have e : k = ds.length := by omega
    rw [e, List.take_length] at hok hnd
    have hs := sumW_le hok
    have HR : Hid (dclR ds = decide (sumW (ds.take k) ≤ 20000)) := by
     show _ = _
     rw [e, List.take_length]
     rw [Bool.eq_iff_iff, dclR_iff, decide_eq_true_eq]
     exact ⟨fun h => h.2.2.1, fun h => ⟨h60, hok, h, hnd⟩⟩
    generalize sumW (ds.take k) = Q at *
    clear hok hnd hbel hs e
    go_wp2_with fail
    go_ret
    exact ⟨ret_bool HR.out.symm, HB.out⟩
 ·rw [dclR_long (by omega)]
  go_enter Try.func34, Try.ntmps34
  go_wp2_with fail
  go_ret
  exact ⟨rfl, Below.refl _ _⟩

def Bz (u : World) (b : Nat) (cs : Array Value) (t : TypeId) : Prop := u.heap[b]? = some (.cells cs t (0, 0))
theorem Bz.lt {u : World} {b : Nat} {cs : Array Value} {t : TypeId} (h : Bz u b cs t) : b < u.heap.size := lt_of_block h
theorem Bz.new (u : World) (cs : Array Value) (t : TypeId) : Bz (u.alloc (.cells cs t)) u.heap.size cs t := heap_alloc_new _ _
theorem Bz.set {u : World} {b : Nat} {cs : Array Value} {t : TypeId} (h : Bz u b cs t) (o : Nat) (x : Value) : Bz (u.setCell ⟨b, o, none⟩ x) b (cs.setIfInBounds o x) t := heap_setCell_same u b o _ _ x h
theorem Bz.other {u : World} {b c : Nat} {cs : Array Value} {t : TypeId} (h : Bz u b cs t) (hn : b ≠ c) (o : Nat) (x : Value) : Bz (u.setCell ⟨c, o, none⟩ x) b cs t := by
 unfold Bz; rw [heap_setCell_other _ _ _ _ (by simpa using hn)]; exact h
theorem Bz.cell {u : World} {b : Nat} {cs : Array Value} {t : TypeId} (h : Bz u b cs t) (o : Nat) : u.cell? ⟨b, o, none⟩ = cs[o]? := cell_of_row u b o _ _ _ h
theorem Bz.froz {u : World} {b : Nat} {cs : Array Value} {t : TypeId} (h : Bz u b cs t) (o : Nat) : u.frozen? ⟨b, o, none⟩ = false := frozen_of_row u b o _ _ h
theorem Bz.later {u u' : World} {b : Nat} {cs : Array Value} {t : TypeId} (h : Bz u b cs t) (hb : Below u.heap.size u u') : Bz u' b cs t := by
 unfold Bz; rw [hb.block _ h.lt]; exact h
theorem own_ge {w : World} {B n : Nat} {e : TypeId} {v : Value} {xs : List Value} {b : Nat} (h : w.ownsRow B e 1 v n xs) (hb : v.ownBlock = some b) : B ≤ b := by
 rcases h.2 with ⟨rfl, -⟩ | ⟨g, cap, cur, rfl, hg, hh, -⟩
 ·cases hb
 ·cases hb
  exact hg
def alike (v v' : Value) : Prop := v' = v ∨ (∃ k x y, v = .int k x ∧ v' = .int k y) ∨ (∃ x y, v = .string x ∧ v' = .string y) ∨ ∃ x y, v = .bool x ∧ v' = .bool y
def OwW (w : World) (base : Nat) (v : Value) (xs : List Nat) : Prop := w.ownsRow base 82 1 v xs.length (u64s xs).toList
theorem OwW.nils (w : World) (base : Nat) : OwW w base (.slice none 0 0) [] := ⟨rfl, .inl ⟨rfl, rfl⟩⟩
theorem OwW.empty (w : World) (base g : Nat) (hg : g = w.heap.size) (h : base ≤ g) : OwW (w.alloc (.cells #[] 82)) base (.slice (some ⟨g, 0, Option.none⟩) 0 0) [] := by
 subst hg
 exact World.ownsRow_made w #[] 0 h (Nat.zero_le _) (by simp)
def Nw (w : World) (lo : Nat) (a : Option Addr) (xs : List Nat) : Prop :=
 (xs = [] ∧ ∀ x, a = some x → lo ≤ x.block ∧ x.off = 0 ∧ ∃ cur, w.heap[x.block]? = some (.cells cur 82 (0, 0))) ∨ ∃ g cur, a = some ⟨g, 0, none⟩ ∧ lo ≤ g ∧ w.heap[g]? = some (.cells cur 82 (0, 0)) ∧ ∀ i, i < xs.length → cur[i]? = some (.int .u64 ((xs.getD i 0 : Nat) : Int))
theorem OwW.shape {w : World} {base : Nat} {v : Value} {xs : List Nat} (h : OwW w base v xs) : ∃ a c, v = .slice a xs.length c ∧ Nw w base a xs := by
 obtain ⟨h1, ⟨rfl, h2⟩ | ⟨g, cap, cur, rfl, hg, hh, hc1, hc2, hsz, hcur⟩⟩ := h
 ·have e := List.eq_nil_of_length_eq_zero h2
  subst e
  exact ⟨none, 0, rfl, .inl ⟨rfl, fun x e => by cases e⟩⟩
 ·refine ⟨some ⟨g, 0, none⟩, cap, rfl, .inr ⟨g, cur, rfl, hg, hh, fun i hi => ?_⟩⟩
  have h3 : (cur.toList.take (xs.length * 1))[i]? = (u64s xs).toList[i]? := by rw [hcur]
  rw [List.getElem?_take, if_pos (by omega)] at h3
  simp only [Array.getElem?_toList] at h3
  rw [h3, u64s_get _ _ hi]
theorem Own.nw {w : World} {lo g : Nat} {xs : List Nat} (h : Own w g xs) (hg : lo ≤ g) : Nw w lo (some ⟨g, 0, none⟩) xs := .inr ⟨g, u64s xs, rfl, hg, h, fun i hi => u64s_get _ _ hi⟩
theorem Nw.rd {w : World} {lo : Nat} {a : Option Addr} {xs : List Nat} (h : Nw w lo a xs) (hl : xs.length ≤ 1048576) (hx : ∀ x ∈ xs, x < 18446744073709551616) : Rd w a xs := by
 refine ⟨hl, hx, ?_⟩
 rcases h with ⟨h1, -⟩ | ⟨g, cur, h1, -, h3, h4⟩
 ·exact .inl h1
 ·refine .inr ⟨g, 0, h1, fun i hi => ?_⟩
  rw [Nat.zero_add, cell_of_row w g i cur _ _ h3]
  exact h4 i hi
theorem Nw.mono {w : World} {lo lo' : Nat} {a : Option Addr} {xs : List Nat} (h : Nw w lo a xs) (hl : lo' ≤ lo) : Nw w lo' a xs := by
 rcases h with ⟨h1, h2⟩ | ⟨g, cur, h1, h2, h3, h4⟩
 ·exact .inl ⟨h1, fun x e => ⟨Nat.le_trans hl (h2 x e).1, (h2 x e).2⟩⟩
 ·exact .inr ⟨g, cur, h1, Nat.le_trans hl h2, h3, h4⟩
theorem Nw.kept {w w' : World} {lo : Nat} {a : Option Addr} {xs : List Nat} (h : Nw w lo a xs) (hk : ∀ (k : Nat) (cur : Array Value), w.heap[k]? = some (Obj.cells cur 82 (0, 0)) → w'.heap[k]? = w.heap[k]?) : Nw w' lo a xs := by
 rcases h with ⟨h1, h2⟩ | ⟨g, cur, h1, h2, h3, h4⟩
 ·refine .inl ⟨h1, fun x e => ?_⟩
  obtain ⟨a, b, cur, c⟩ := h2 x e
  exact ⟨a, b, cur, by rw [hk _ _ c]; exact c⟩
 ·exact .inr ⟨g, cur, h1, h2, by rw [hk _ _ h3]; exact h3, h4⟩
theorem Nw.later {w w' : World} {lo : Nat} {a : Option Addr} {xs : List Nat} (h : Nw w lo a xs) (hb : Below w.heap.size w w') : Nw w' lo a xs := Nw.kept h fun k cur hc => hb.block k (lt_of_block hc)
theorem nw_set {w : World} {lo β : Nat} {a : Option Addr} {xs : List Nat} {cs : Array Value} {t : TypeId} (h : Nw w lo a xs) (hB : Bz w β cs t) (ht : t ≠ 82) (i : Nat) (v : Value) : Nw (w.setCell ⟨β, i, none⟩ v) lo a xs :=
 Nw.kept h fun k cur hc => heap_setCell_other _ _ _ _ (fun e => by
  simp only [] at e
  subst e
  unfold Bz at hB
  rw [hB] at hc
  cases hc
  exact ht rfl)
theorem nw_lt {w : World} {lo : Nat} {a : Option Addr} {xs : List Nat} (h : Nw w lo a xs) {p : Addr} (hp : a = some p) : lo ≤ p.block ∧ p.block < w.heap.size := by
 rcases h with ⟨h1, h2⟩ | ⟨g, cur, h1, h2, h3, h4⟩
 ·obtain ⟨k1, -, cur, k2⟩ := h2 p hp
  exact ⟨k1, lt_of_block k2⟩
 ·rw [h1] at hp
  cases hp
  exact ⟨h2, lt_of_block h3⟩

theorem rd_cellsW {w : World} {ad : Addr} {ys : List Nat} (hr : Rd w (some ad) ys) : ∀ j u, (u64s ys).toList[j]? = some u → w.cell? (ad.add j) = some u := by
 intro j u hj
 have hj' : j < ys.length := by
  have := (List.getElem?_eq_some_iff.1 hj).1
  simpa [u64s] using this
 obtain ⟨-, -, h | ⟨b, o, e, hc⟩⟩ := hr
 ·rw [h] at hj'; simp at hj'
 ·cases e
  rw [Addr.add_lit, hc j hj']
  simp [u64s, hj'] at hj
  rw [← hj]
  simp [List.getD, hj']
theorem rd_noneW {w : World} {ys : List Nat} (hr : Rd w none ys) : ys = [] := by
 obtain ⟨-, -, h | ⟨b, o, e, hc⟩⟩ := hr
 ·exact h
 ·cases e
theorem wp_appWr (w : World) {o : Oper} {a : Act} {K : Act → World → Prop} {Q : Exit → Act → World → Prop} (s x : Operand)
  (ho : o.op = .call { callee := .builtin .append, args := #[s, x], argTypes := #[30, 30] })
  (base : Nat) (v : Value) (bs ys : List Nat) (hs : a.eval s = v) (hown : OwW w base v bs) (xa : Option Addr) (c : Nat) (hx : a.eval x = .slice xa ys.length c) (hc0 : xa = none → c = 0)
  (hr : Rd w xa ys) (hl : bs.length + ys.length ≤ 4194304) (hbase : base ≤ w.heap.size)
  (h : ∀ v' w', OwW w' base v' (bs ++ ys) → w.grownBy w' v.ownBlock → K (a.put o.dst v') w') : Oper.wp Try.prog o a w K Q := by
 obtain ⟨i0, hi, hz0, hz1, hz2⟩ := info_parts Try.infoU64
 cases xa with
 | none =>
  have e := rd_noneW hr
  subst e
  have ec := hc0 rfl
  subst ec
  have hr9 := run_append_owned_none (P := Try.prog) (w := w) base 30 o.type 82 i0 1 Try.underlying30 hi v bs.length (u64s bs).toList hown
  unfold Oper.wp execOp
  simp only [ho, resolve, invoke, builtin, Sem.run_bind, Sem.run_pure, Result.andThen_ok, List.map_toArray, List.map_cons, List.map_nil, hs, hx, List.length_nil, hr9]
  exact h v w (by rw [List.append_nil]; exact hown) (World.grownBy.refl w _)
 | some ad =>
  refine wp_append_own w s x 30 ho base 82 i0 (.int .u64 0) 1 8 Try.underlying30 hi hz0 hz1 hz2 rfl (by decide) v bs.length (u64s bs).toList hs hown ad ys.length c (u64s ys).toList hx (by simp [u64s]) (rd_cellsW hr) ?_ ?_ ?_ hbase ?_
  ·intro u hu
   simp [u64s] at hu
   obtain ⟨_, _, rfl⟩ := hu
   rfl
  ·unfold maxLen; omega
  ·omega
  ·intro v' w' h1 h2 _
   refine h v' w' ?_ h2
   unfold OwW
   simpa [u64s] using h1
theorem step_appWr (w : World) {ops : Array Oper} {o : Oper} {a : Act} {K : Act → World → Prop} {Q : Exit → Act → World → Prop} {E : Prop} (hgd : o.guard = none) (s x : Operand)
  (ho : o.op = .call { callee := .builtin .append, args := #[s, x], argTypes := #[30, 30] })
  (base : Nat) (v : Value) (bs ys : List Nat) (hs : a.eval s = v) (hown : OwW w base v bs) (xa : Option Addr) (c : Nat) (hx : a.eval x = .slice xa ys.length c) (hc0 : xa = none → c = 0)
  (hr : Rd w xa ys) (hl : bs.length + ys.length ≤ 4194304) (hbase : base ≤ w.heap.size)
  (h : ∀ v' w', OwW w' base v' (bs ++ ys) → w.grownBy w' v.ownBlock → K (a.put o.dst v') w') :
  if Region.wanted o (yielded ops a.tmps) = true then Oper.wp Try.prog o a w K Q else E := by
 have hw : Region.wanted o (yielded ops a.tmps) = true := by simp [Region.wanted, hgd]
 rw [if_pos hw]
 exact wp_appWr w s x ho base v bs ys hs hown xa c hx hc0 hr hl hbase h
def Owp (N : Nat) (w : World) (g : Nat) (xs : List Nat) : Prop := ∃ cur : Array Value, w.heap[g]? = some (.cells cur 82 (0, 0)) ∧ cur.size = N ∧ xs.length ≤ N ∧ ∀ i, i < xs.length → cur[i]? = some (.int .u64 ((xs.getD i 0 : Nat) : Int))
theorem Owp.cell {w : World} {g : Nat} {N : Nat} {xs : List Nat} (h : Owp N w g xs) {i : Nat} (hi : i < xs.length) : w.cell? ⟨g, i, none⟩ = some (.int .u64 ((xs.getD i 0 : Nat) : Int)) := by
 obtain ⟨cur, h1, -, -, h3⟩ := h
 rw [cell_of_row w g i cur _ _ h1]
 exact h3 i hi
theorem Owp.free {w : World} {g : Nat} {N : Nat} {xs : List Nat} (h : Owp N w g xs) (i : Nat) : w.frozen? ⟨g, i, none⟩ = false := by
 obtain ⟨cur, h1, -⟩ := h
 exact frozen_of_row w g i _ _ h1
theorem Owp.lt {w : World} {g : Nat} {N : Nat} {xs : List Nat} (h : Owp N w g xs) : g < w.heap.size := by
 obtain ⟨cur, h1, -⟩ := h
 exact lt_of_block h1
theorem Owp.put {w : World} {g : Nat} {N : Nat} {xs : List Nat} (h : Owp N w g xs) (i x : Nat) : Owp N (w.setCell ⟨g, i, none⟩ (.int .u64 (x : Int))) g (xs.set i x) := by
 obtain ⟨cur, h1, h0, h2, h3⟩ := h
 refine ⟨cur.setIfInBounds i (.int .u64 (x : Int)), heap_setCell_same w g i _ _ _ h1, by simpa using h0, by simpa using h2, fun k hk => ?_⟩
 rw [List.length_set] at hk
 rw [Array.getElem?_setIfInBounds]
 by_cases e : i = k
 ·subst e
  rw [if_pos rfl, if_pos (by omega)]
  simp [List.getD, hk]
 ·rw [if_neg e, h3 k hk]
  simp only [List.getD, List.getElem?_set_ne e]
theorem Owp.later {w w' : World} {g B : Nat} {N : Nat} {xs : List Nat} (h : Owp N w g xs) (hb : Below B w w') (hg : g < B) : Owp N w' g xs := by
 obtain ⟨cur, h1, h2⟩ := h
 exact ⟨cur, by rw [hb.block g hg]; exact h1, h2⟩
theorem Owp.ofW {w : World} {B g n c : Nat} {xs : List Nat} (h : OwW w B (.slice (some ⟨g, 0, none⟩) n c) xs) : Owp c w g xs ∧ n = xs.length ∧ B ≤ g := by
 rcases h.2 with ⟨e, -⟩ | ⟨g', cap, cur, e, hg, hh, hc1, hc2, hsz, hcur⟩
 ·cases e
 ·cases e
  refine ⟨⟨cur, hh, by omega, by omega, fun i hi => ?_⟩, rfl, hg⟩
  have h9 : (u64s xs).toList[i]? = some (.int .u64 ((xs.getD i 0 : Nat) : Int)) := by
   have := u64s_get xs i hi
   rw [Array.getElem?_toList]
   exact this
  rw [← hcur, List.getElem?_take, if_pos (by omega), Array.getElem?_toList] at h9
  exact h9
theorem OwW.put {w w' : World} {B g n c : Nat} {xs ys : List Nat} (h : OwW w B (.slice (some ⟨g, 0, none⟩) n c) xs) (ho : Owp c w' g ys) (hl : ys.length = xs.length) : OwW w' B (.slice (some ⟨g, 0, none⟩) n c) ys := by
 rcases h.2 with ⟨e, -⟩ | ⟨g', cap, cur, e, hg, hh, hc1, hc2, hsz, hcur⟩
 ·cases e
 ·cases e
  obtain ⟨cur', h1, h0, h2, h3⟩ := ho
  refine ⟨by simp [u64s], .inr ⟨g, c, cur', by rw [hl], hg, h1, by rw [hl]; exact hc1, hc2, by omega, ?_⟩⟩
  apply List.ext_getElem?
  intro i
  rw [List.getElem?_take]
  by_cases hi : i < ys.length
  ·rw [if_pos (by omega), Array.getElem?_toList, h3 i hi, Array.getElem?_toList, u64s_get ys i hi]
  ·rw [if_neg (by omega), List.getElem?_eq_none (by simp [u64s]; omega)]
set_option maxHeartbeats 1000000 in
set_option maxRecDepth 100000 in
theorem putBitsP_any (N : Nat) (Wi Wb : Int) (g ci cb P : Nat) (ab : Option Addr) (zs ys : List Nat) (w : World) (ho : Owp N w g zs) (hr : Rd w ab ys) (hz : ∀ x ∈ zs, x < 18446744073709551616) (hP : P ≤ 4096) (hzl : zs.length ≤ 64) (hyl : ys.length ≤ 64)
  (hk : ∀ i, i < ys.length → P / 64 + i < zs.length ∧ (P / 64 + i + 1 < zs.length ∨ ys.getD i 0 / 2 ^ (64 - P % 64) = 0)) (hab : ∀ x, ab = some x → x.block ≠ g) :
  Calls Try.prog 62 #[.agg #[.int .i64 Wi, .slice (some ⟨g, 0, none⟩) zs.length ci], .agg #[.int .i64 Wb, .slice ab ys.length cb], .int .i64 P] w fun e w' => e = .returned (.tuple #[]) ∧ Owp N w' g (putTo zs ys (P / 64) (P % 64) ys.length) ∧ w.grownBy w' (some g) := by
 have hgw := ho.lt
 have hy := hr.2.1
 have hB2 : Below w.heap.size w ((w.alloc (Obj.cells #[.int IntKind.i64 Wi, .slice (some { block := g, off := 0 }) zs.length ci] 32)).alloc (Obj.cells #[.int IntKind.i64 Wb, .slice ab ys.length cb] 32)) := Ba (Ba (Below.refl _ _) _) _
 have ho2 := ho.later hB2 hgw
 have hr2 := hr.later hB2
 have k0 : ((w.alloc (Obj.cells #[.int IntKind.i64 Wi, .slice (some { block := g, off := 0 }) zs.length ci] 32)).alloc (Obj.cells #[.int IntKind.i64 Wb, .slice ab ys.length cb] 32)).cell? ⟨w.heap.size, 1, none⟩ = some (Value.slice (some { block := g, off := 0 }) zs.length ci) := by
  rw [acell _ _ _ (by simp)]; simp
 have hsz : ((w.alloc (Obj.cells #[.int IntKind.i64 Wi, .slice (some { block := g, off := 0 }) zs.length ci] 32)).alloc (Obj.cells #[.int IntKind.i64 Wb, .slice ab ys.length cb] 32)).heap.size = w.heap.size + 2 := by simp
 go_enter Try.func62, Try.ntmps62
 go_wp2
 generalize ((w.alloc (Obj.cells #[.int IntKind.i64 Wi, .slice (some { block := g, off := 0 }) zs.length ci] 32)).alloc (Obj.cells #[.int IntKind.i64 Wb, .slice ab ys.length cb] 32)) = w2 at *
 clear ho hr
 go_loopw [19] (fun i wr => ∃ k : Nat, k ≤ ys.length ∧ i = .int .i64 k ∧ Owp N wr g (putTo zs ys (P / 64) (P % 64) k) ∧ w2.grownBy wr (some g)) (fun i _ => ys.length - (intOf i).toNat)
 case atStart => exact ⟨0, Nat.zero_le _, rfl, ho2, World.grownBy.refl _ _⟩
 case round =>
  obtain ⟨k, hkl, rfl, hown, hgr⟩ := hrel
  by_cases hlt : k < ys.length
  ·obtain ⟨-, -, hn | ⟨b, o, rfl, hcell⟩⟩ := hr2
   ·subst hn; simp at hlt
   have hbg : b ≠ g := hab _ rfl
   have hbl : b < w2.heap.size := block_lt_of_cell (hcell k hlt)
   have b1 := (gcell hgr 1 (b := w.heap.size) (by omega) (by omega)).trans k0
   have x1 := (gcell hgr _ hbl hbg).trans (hcell k hlt)
   obtain ⟨hf1, hf2⟩ := hk k hlt
   have hlen := putTo_len zs ys (P / 64) (P % 64) k
   have hcg := hown.cell (i := P / 64 + k) (by omega)
   have hfg := hown.free (P / 64 + k)
   have hfg2 := hown.free (P / 64 + k + 1)
   have hplt := putTo_lt zs ys (P / 64) (P % 64) k hz hy
   have hY := getD_lt hy k
   have hZ1 := getD_lt hplt (P / 64 + k)
   have i1 : (P : Int) / 64 + (k : Int) < (zs.length : Int) := by omega
   have i2 : (k : Int) < (ys.length : Int) := by omega
   have hgs : ¬ w.heap.size = g := by omega
   have hstep : putTo zs ys (P / 64) (P % 64) (k + 1) = ((putTo zs ys (P / 64) (P % 64) k).set (P / 64 + k) ((putTo zs ys (P / 64) (P % 64) k).getD (P / 64 + k) 0 ||| ys.getD k 0 * 2 ^ (P % 64) % 18446744073709551616)).set (P / 64 + k + 1) (((putTo zs ys (P / 64) (P % 64) k).set (P / 64 + k) ((putTo zs ys (P / 64) (P % 64) k).getD (P / 64 + k) 0 ||| ys.getD k 0 * 2 ^ (P % 64) % 18446744073709551616)).getD (P / 64 + k + 1) 0 ||| ys.getD k 0 / 2 ^ (64 - P % 64)) := rfl
   have hgd : ((putTo zs ys (P / 64) (P % 64) k).set (P / 64 + k) ((putTo zs ys (P / 64) (P % 64) k).getD (P / 64 + k) 0 ||| ys.getD k 0 * 2 ^ (P % 64) % 18446744073709551616)).getD (P / 64 + k + 1) 0 = (putTo zs ys (P / 64) (P % 64) k).getD (P / 64 + k + 1) 0 := by
    simp [List.getD, List.getElem?_set]
   rw [hgd] at hstep
   by_cases hrest : ys.getD k 0 / 2 ^ (64 - P % 64) = 0
   ·have hstep2 : putTo zs ys (P / 64) (P % 64) (k + 1) = (putTo zs ys (P / 64) (P % 64) k).set (P / 64 + k) ((putTo zs ys (P / 64) (P % 64) k).getD (P / 64 + k) 0 ||| ys.getD k 0 * 2 ^ (P % 64) % 18446744073709551616) := by
     rw [hstep, hrest, Nat.or_zero]
     by_cases hin : P / 64 + k + 1 < (putTo zs ys (P / 64) (P % 64) k).length
     ·have e : (putTo zs ys (P / 64) (P % 64) k).getD (P / 64 + k + 1) 0 = ((putTo zs ys (P / 64) (P % 64) k).set (P / 64 + k) ((putTo zs ys (P / 64) (P % 64) k).getD (P / 64 + k) 0 ||| ys.getD k 0 * 2 ^ (P % 64) % 18446744073709551616))[P / 64 + k + 1]'(by simpa using hin) := by
       simp [List.getD, hin]
      rw [e, List.set_getElem_self]
     ·exact List.set_eq_of_length_le (by simp; omega)
    have hne : ((ys.getD k 0 : Nat) : Int) / 2 ^ (64 - P % 64) = 0 := by rw [castDiv, hrest]; rfl
    have HO : Hid (Owp N (wr.setCell ⟨g, P / 64 + k, none⟩ (.int .u64 (bits BinOp.or IntKind.u64 (((putTo zs ys (P / 64) (P % 64) k).getD (P / 64 + k) 0 : Nat) : Int) (IntKind.u64.wrap (((ys.getD k 0 : Nat) : Int) * 2 ^ (P % 64)))))) g (putTo zs ys (P / 64) (P % 64) (k + 1))) := by
     show Owp N _ _ _
     rw [hstep2, orShift _ _ _ hZ1]
     exact hown.put _ _
    clear hstep hstep2 hgd hown hcell hk hplt hrest hlen
    generalize (putTo zs ys (P / 64) (P % 64) k).getD (P / 64 + k) 0 = z at *
    generalize ys.getD k 0 = y at *
    have hne2 : ((y : Int) / 2 ^ (64 - P % 64) != 0) = false := by simp [hne]
    clear hne
    go_wp2
    go_region
    go_wp2
    go_roundw
    case rel => exact ⟨k + 1, by omega, by go_num, HO.out, grown_drew (grown_set hgr _ _)⟩
    case measure => simp [intOf]; omega
   ·have hin : P / 64 + k + 1 < zs.length := by
     rcases hf2 with h | h
     ·exact h
     ·exact absurd h hrest
    have hcg2 := hown.cell (i := P / 64 + k + 1) (by omega)
    have i3 : (P : Int) / 64 + (k : Int) + 1 < (zs.length : Int) := by omega
    have hZ2 := getD_lt hplt (P / 64 + k + 1)
    have hne2 : (((ys.getD k 0 : Nat) : Int) / 2 ^ (64 - P % 64) != 0) = true := by rw [castDiv]; simp only [bne_iff_ne, ne_eq]; omega
    have HO : Hid (Owp N ((wr.setCell ⟨g, P / 64 + k, none⟩ (.int .u64 (bits BinOp.or IntKind.u64 (((putTo zs ys (P / 64) (P % 64) k).getD (P / 64 + k) 0 : Nat) : Int) (IntKind.u64.wrap (((ys.getD k 0 : Nat) : Int) * 2 ^ (P % 64)))))).setCell ⟨g, P / 64 + k + 1, none⟩ (.int .u64 (bits BinOp.or IntKind.u64 (((putTo zs ys (P / 64) (P % 64) k).getD (P / 64 + k + 1) 0 : Nat) : Int) (((ys.getD k 0 : Nat) : Int) / 2 ^ (64 - P % 64))))) g (putTo zs ys (P / 64) (P % 64) (k + 1))) := by
     show Owp N _ _ _
     rw [hstep, orShift _ _ _ hZ1, castDiv, bits_or_u64_nat _ _ hZ2 (Nat.lt_of_le_of_lt (Nat.div_le_self _ _) hY)]
     exact (hown.put _ _).put _ _
    clear hstep hgd hown hcell hk hplt hrest hlen
    generalize (putTo zs ys (P / 64) (P % 64) k).getD (P / 64 + k) 0 = z at *
    generalize (putTo zs ys (P / 64) (P % 64) k).getD (P / 64 + k + 1) 0 = z2 at *
    generalize ys.getD k 0 = y at *
    go_wp2
    go_region
    go_wp2
    go_roundw
    case rel => exact ⟨k + 1, by omega, by go_num, HO.out, grown_set (grown_drew (grown_set hgr _ _)) _ _⟩
    case measure => simp [intOf]; omega
  ·have e : k = ys.length := by omega
   subst e
   go_wp2
   go_end0
   exact ⟨rfl, hown, ⟨hgr.os.trans hB2.os, hgr.tape.trans hB2.tape, hgr.output.trans hB2.output, Nat.le_trans hB2.size hgr.size, fun j hj hne => (hgr.block j (by omega) hne).trans (hB2.block j hj)⟩⟩


structure Th where
 op : Int
 vr : Int
 a : Int
 b : Int
 bw : Int
 wa : Option Addr
 wn : Nat
 wc : Nat
 ka : Option Addr
 kn : Nat
 kc : Nat
def ThAt (w : World) (b o : Nat) (h : Th) : Prop :=
 w.cell? ⟨b, o, none⟩ = some (.int .i64 h.op) ∧ w.cell? ⟨b, o + 1, none⟩ = some (.int .i64 h.vr) ∧ w.cell? ⟨b, o + 2, none⟩ = some (.int .i64 h.a) ∧ w.cell? ⟨b, o + 3, none⟩ = some (.int .i64 h.b) ∧ w.cell? ⟨b, o + 4, none⟩ = some (.int .i64 h.bw) ∧ w.cell? ⟨b, o + 5, none⟩ = some (.slice h.wa h.wn h.wc) ∧ w.cell? ⟨b, o + 6, none⟩ = some (.slice h.ka h.kn h.kc)
theorem ThAt.later {w w' : World} {b o : Nat} {h : Th} (k : ThAt w b o h) (hb : Below w.heap.size w w') : ThAt w' b o h := by
 obtain ⟨f0, f1, f2, f3, f4, f5, f6⟩ := k
 have l := block_lt_of_cell f0
 exact ⟨by rw [kcell hb _ _ l]; exact f0, by rw [kcell hb _ _ l]; exact f1, by rw [kcell hb _ _ l]; exact f2, by rw [kcell hb _ _ l]; exact f3, by rw [kcell hb _ _ l]; exact f4, by rw [kcell hb _ _ l]; exact f5, by rw [kcell hb _ _ l]; exact f6⟩

structure Tc where
 op : Int
 vr : Int
 a : Int
 b : Int
 bw : Int
 ws : List Nat
 ks : List Int

structure Tg where
 ct : Tc
 wa : Option Addr
 wc : Nat
 ka : Option Addr
 kc : Nat
def Tg.hd (x : Tg) : Th := ⟨x.ct.op, x.ct.vr, x.ct.a, x.ct.b, x.ct.bw, x.wa, x.ct.ws.length, x.wc, x.ka, x.ct.ks.length, x.kc⟩
def TgAt (w : World) (b o : Nat) (x : Tg) : Prop := ThAt w b o x.hd ∧ Rd w x.wa x.ct.ws ∧ RdI w x.ka x.ct.ks ∧ in64 x.ct.op ∧ in64 x.ct.vr ∧ in64 x.ct.a ∧ in64 x.ct.b ∧ in64 x.ct.bw
theorem TgAt.later {w w' : World} {b o : Nat} {x : Tg} (h : TgAt w b o x) (hb : Below w.heap.size w w') : TgAt w' b o x := ⟨h.1.later hb, h.2.1.later hb, h.2.2.1.later hb, h.2.2.2⟩
def RdT (w : World) (a : Option Addr) (xs : List Tg) : Prop :=
 xs.length ≤ 1048576 ∧ (xs = [] ∨ ∃ b o, a = some ⟨b, o, none⟩ ∧ ∀ i n, xs[i]? = some n → TgAt w b (o + i * 7) n)
theorem RdT.later {w w' : World} {a : Option Addr} {xs : List Tg} (h : RdT w a xs) (hb : Below w.heap.size w w') : RdT w' a xs := by
 refine ⟨h.1, ?_⟩
 rcases h.2 with h | ⟨b, o, rfl, hc⟩
 ·exact .inl h
 ·exact .inr ⟨b, o, rfl, fun i n hi => (hc i n hi).later hb⟩


theorem Try.infoTNode : (Try.prog.info? 88).map (fun i => (i.zero, i.size, i.bytes)) = some (some (.agg #[.int .i64 0, .int .i64 0, .int .i64 0, .int .i64 0, .int .i64 0, .slice none 0 0, .slice none 0 0]), 7, 88) := by kernel_rfl

theorem l3NoBits_any (bw : Int) (a : Option Addr) (n c : Nat) (w : World) (hn : n ≤ 1048576) :
  Calls Try.prog 56 #[.agg #[.int .i64 bw, .slice a n c]] w fun e w' => e = .returned (.bool (decide (bw = 0) && decide (n = 0))) ∧ Below w.heap.size w w' := by
 have hb0 : Below w.heap.size w (w.alloc (Obj.cells #[.int .i64 bw, .slice a n c] 32)) := (Below.refl _ _).alloc (Nat.le_refl _) _
 have B0 := kide hb0
 clear hb0
 by_cases h : bw = 0
 ·subst h
  go_enter Try.func56, Try.ntmps56
  go_wp2_with fail
  go_ret
  exact ⟨ret_bool (by rw [Bool.eq_iff_iff]; simp), B0.out⟩
 ·have e1 : (bw == 0) = false := by simp [h]
  have hR : (decide (bw = 0) && decide (n = 0)) = false := by simp [h]
  rw [hR]
  clear hR h
  go_enter Try.func56, Try.ntmps56
  go_wp2_with fail
  go_ret
  exact ⟨rfl, B0.out⟩
def OI (w : World) (B : Nat) (v : Value) (l : List Int) : Prop := w.ownsRow B 2 1 v l.length (i64s l).toList
theorem OI.move {w w' : World} {B : Nat} {v : Value} {l : List Int} (h : OI w B v l) (hk : ∀ b, v.ownBlock = some b → w'.heap[b]? = w.heap[b]?) : OI w' B v l := by
 refine ⟨h.1, ?_⟩
 rcases h.2 with h0 | ⟨g, cap, cur, rfl, hg, hh, r⟩
 ·exact .inl h0
 ·exact .inr ⟨g, cap, cur, rfl, hg, (hk g rfl).trans hh, r⟩
theorem OI.lt {w : World} {B : Nat} {v : Value} {l : List Int} (h : OI w B v l) {b : Nat} (hb : v.ownBlock = some b) : B ≤ b ∧ b < w.heap.size := by
 rcases h.2 with ⟨rfl, -⟩ | ⟨g, cap, cur, rfl, hg, hh, -⟩
 ·cases hb
 ·cases hb
  exact ⟨hg, lt_of_block hh⟩
theorem OI.later {w w' : World} {B : Nat} {v : Value} {l : List Int} (h : OI w B v l) (hb : Below w.heap.size w w') : OI w' B v l := h.move fun b hb' => hb.block b (h.lt hb').2
theorem OI.empty (w : World) (B : Nat) (h : B ≤ w.heap.size) : OI (w.alloc (.cells #[] 2)) B (.slice (some ⟨w.heap.size, 0, Option.none⟩) 0 0) [] := World.ownsRow_made w #[] 0 h (Nat.zero_le _) (by simp)
theorem wpList_appI {w : World} {ops : Array Oper} {rest : List Oper} {o : Oper} {a : Act} {Q : Exit → Act → World → Prop} (hgd : o.guard = none) (s x : Operand)
  (ho : o.op = .call { callee := .builtin .append, args := #[s, x], argTypes := #[68, 68] })
  (B : Nat) (v : Value) (l : List Int) (y : Int) (hs : a.eval s = v) (hown : OI w B v l) (gx c : Nat) (hx : a.eval x = .slice (some ⟨gx, 0, none⟩) 1 c)
  (h0 : w.cell? ⟨gx, 0, none⟩ = some (.int .i64 y)) (hl : l.length ≤ 1073741824) (hB : B ≤ w.heap.size)
  (h : ∀ g cap w', OI w' B (.slice (some ⟨g, 0, none⟩) (l.length + 1) cap) (l ++ [y]) → w.grownBy w' v.ownBlock → (v.ownBlock = some g ∨ g = w.heap.size) → wpList Try.prog ops Q rest (a.put o.dst (.slice (some ⟨g, 0, none⟩) (l.length + 1) cap)) w') : wpList Try.prog ops Q (o :: rest) a w := by
 obtain ⟨i0, hi, hz0, hz1, hz2⟩ := info_parts Try.infoI64
 refine wpList_append_lies w hgd s x 68 ho B 2 i0 _ 1 8 Try.underlying68 hi hz0 hz1 hz2 rfl (by decide) v l.length (i64s l).toList hs hown ⟨gx, 0, none⟩ 1 c [.int .i64 y] hx rfl ?_ ?_ (by decide) ?_ ?_ hB _ rfl ?_
 ·intro j u hj
  rw [Addr.add_lit]
  match j, hj with
  | 0, hj => simp at hj; subst hj; exact h0
  | j + 1, hj => simp at hj
 ·intro u hu
  simp at hu
  subst hu
  rfl
 ·unfold maxLen; omega
 ·omega
 ·intro g cap w' h1 h2 h3 _
  refine h g cap w' ?_ h2 h3
  unfold OI
  rw [List.length_append]
  simpa [i64s] using h1

def Ni (w : World) (lo : Nat) (a : Option Addr) (xs : List Int) : Prop :=
 (xs = [] ∧ ∀ x, a = some x → lo ≤ x.block ∧ x.off = 0 ∧ ∃ cur, w.heap[x.block]? = some (.cells cur 2 (0, 0))) ∨ ∃ g cur, a = some ⟨g, 0, none⟩ ∧ lo ≤ g ∧ w.heap[g]? = some (.cells cur 2 (0, 0)) ∧ ∀ i, i < xs.length → cur[i]? = some (.int .i64 (xs.getD i 0))
theorem Ni.rd {w : World} {lo : Nat} {a : Option Addr} {xs : List Int} (h : Ni w lo a xs) (hl : xs.length ≤ 1048576) (hx : ∀ x ∈ xs, in64 x) : RdI w a xs := by
 refine ⟨hl, hx, ?_⟩
 rcases h with ⟨h1, -⟩ | ⟨g, cur, h1, -, h3, h4⟩
 ·exact .inl h1
 ·refine .inr ⟨g, 0, h1, fun i hi => ?_⟩
  rw [Nat.zero_add, cell_of_row w g i cur _ _ h3]
  exact h4 i hi
theorem Ni.mono {w : World} {lo lo' : Nat} {a : Option Addr} {xs : List Int} (h : Ni w lo a xs) (hl : lo' ≤ lo) : Ni w lo' a xs := by
 rcases h with ⟨h1, h2⟩ | ⟨g, cur, h1, h2, h3, h4⟩
 ·exact .inl ⟨h1, fun x e => ⟨Nat.le_trans hl (h2 x e).1, (h2 x e).2⟩⟩
 ·exact .inr ⟨g, cur, h1, Nat.le_trans hl h2, h3, h4⟩
theorem Ni.kept {w w' : World} {lo : Nat} {a : Option Addr} {xs : List Int} (h : Ni w lo a xs) (hk : ∀ (k : Nat) (cur : Array Value), w.heap[k]? = some (Obj.cells cur 2 (0, 0)) → w'.heap[k]? = w.heap[k]?) : Ni w' lo a xs := by
 rcases h with ⟨h1, h2⟩ | ⟨g, cur, h1, h2, h3, h4⟩
 ·refine .inl ⟨h1, fun x e => ?_⟩
  obtain ⟨a, b, cur, c⟩ := h2 x e
  exact ⟨a, b, cur, by rw [hk _ _ c]; exact c⟩
 ·exact .inr ⟨g, cur, h1, h2, by rw [hk _ _ h3]; exact h3, h4⟩
theorem Ni.later {w w' : World} {lo : Nat} {a : Option Addr} {xs : List Int} (h : Ni w lo a xs) (hb : Below w.heap.size w w') : Ni w' lo a xs := Ni.kept h fun k cur hc => hb.block k (lt_of_block hc)
theorem ni_lt {w : World} {lo : Nat} {a : Option Addr} {xs : List Int} (h : Ni w lo a xs) {p : Addr} (hp : a = some p) : lo ≤ p.block ∧ p.block < w.heap.size := by
 rcases h with ⟨h1, h2⟩ | ⟨g, cur, h1, h2, h3, h4⟩
 ·obtain ⟨k1, -, cur, k2⟩ := h2 p hp
  exact ⟨k1, lt_of_block k2⟩
 ·rw [h1] at hp
  cases hp
  exact ⟨h2, lt_of_block h3⟩
theorem OI.ni {w : World} {B : Nat} {v : Value} {xs : List Int} (h : OI w B v xs) : ∃ a c, v = .slice a xs.length c ∧ Ni w B a xs := by
 obtain ⟨h1, ⟨rfl, h2⟩ | ⟨g, cap, cur, rfl, hg, hh, hc1, hc2, hsz, hcur⟩⟩ := h
 ·have e := List.eq_nil_of_length_eq_zero h2
  subst e
  exact ⟨none, 0, rfl, .inl ⟨rfl, fun x e => by cases e⟩⟩
 ·refine ⟨some ⟨g, 0, none⟩, cap, rfl, .inr ⟨g, cur, rfl, hg, hh, fun i hi => ?_⟩⟩
  have h3 : (cur.toList.take (xs.length * 1))[i]? = (i64s xs).toList[i]? := by rw [hcur]
  rw [List.getElem?_take, if_pos (by omega)] at h3
  simp only [Array.getElem?_toList] at h3
  rw [h3, i64s_get _ _ hi]
def tgv (x : Tg) : List Value := [.int .i64 x.ct.op, .int .i64 x.ct.vr, .int .i64 x.ct.a, .int .i64 x.ct.b, .int .i64 x.ct.bw, .slice x.wa x.ct.ws.length x.wc, .slice x.ka x.ct.ks.length x.kc]
def tgc : List Tg → List Value
 | [] => []
 | x :: t => tgv x ++ tgc t
theorem tgc_append (l m : List Tg) : tgc (l ++ m) = tgc l ++ tgc m := by
 induction l with
 | nil => rfl
 | cons x t ih => simp [tgc, ih]
theorem tgc_get : ∀ {l : List Tg} {i : Nat} {x : Tg} (j : Nat), j < 7 → l[i]? = some x → (tgc l)[i * 7 + j]? = (tgv x)[j]?
 | y :: t, 0, x, j, hj, h => by
  simp at h; subst h
  rw [Nat.zero_mul, Nat.zero_add, tgc, List.getElem?_append_left (by simpa [tgv] using hj)]
 | y :: t, i + 1, x, j, hj, h => by
  have := tgc_get (l := t) (i := i) (x := x) j hj (by simpa using h)
  rw [tgc, List.getElem?_append_right (by simp [tgv]; omega)]
  simp only [tgv, List.length_cons, List.length_nil]
  rw [show (i + 1) * 7 + j - (0 + 1 + 1 + 1 + 1 + 1 + 1 + 1) = i * 7 + j by omega]
  exact this
def OT (w : World) (B : Nat) (v : Value) (l : List Tg) : Prop := w.ownsRow B 88 7 v l.length (tgc l)
theorem OT.later {w w' : World} {B : Nat} {v : Value} {l : List Tg} (h : OT w B v l) (hb : Below w.heap.size w w') : OT w' B v l := World.ownsRow.kept (row := none) h ⟨hb.os, hb.tape, hb.output, hb.size, fun k hk _ => hb.block k hk⟩ (by
 cases h' : v.ownBlock with
 | none => exact .inl rfl
 | some k => exact .inr (by simp))
theorem OT.lt {w : World} {B : Nat} {v : Value} {l : List Tg} (h : OT w B v l) {b : Nat} (hb : v.ownBlock = some b) : B ≤ b ∧ b < w.heap.size := by
 rcases h.2 with ⟨rfl, -⟩ | ⟨g, cap, cur, rfl, hg, hh, -⟩
 ·cases hb
 ·cases hb
  exact ⟨hg, lt_of_block hh⟩
theorem OT.typed {w : World} {B : Nat} {v : Value} {l : List Tg} (h : OT w B v l) {b : Nat} (hb : v.ownBlock = some b) : ∃ cur, w.heap[b]? = some (.cells cur 88 (0, 0)) := by
 rcases h.2 with ⟨rfl, -⟩ | ⟨g, cap, cur, rfl, hg, hh, -⟩
 ·cases hb
 ·cases hb
  exact ⟨cur, hh⟩
theorem OT.move {w w' : World} {B : Nat} {v : Value} {l : List Tg} (h : OT w B v l) (hk : ∀ b, v.ownBlock = some b → w'.heap[b]? = w.heap[b]?) : OT w' B v l := by
 refine ⟨h.1, ?_⟩
 rcases h.2 with h0 | ⟨g, cap, cur, rfl, hg, hh, r⟩
 ·exact .inl h0
 ·exact .inr ⟨g, cap, cur, rfl, hg, (hk g rfl).trans hh, r⟩
theorem OT.form {w : World} {B : Nat} {v : Value} {l : List Tg} (h : OT w B v l) : ∃ a c, v = .slice a l.length c := by
 rcases h.2 with ⟨e, h0⟩ | ⟨g, cap, cur, e, -⟩
 ·exact ⟨none, 0, by rw [e, h0]⟩
 ·exact ⟨_, _, e⟩
theorem OT.empty (w : World) (B : Nat) (h : B ≤ w.heap.size) : OT (w.alloc (.cells #[] 88)) B (.slice (some ⟨w.heap.size, 0, Option.none⟩) 0 0) [] := World.ownsRow_made w #[] 0 h (Nat.zero_le _) (by simp)
theorem OT.at {w : World} {B : Nat} {v : Value} {l : List Tg} (h : OT w B v l) {i : Nat} {x : Tg} (hi : l[i]? = some x) : ∃ g c, v = .slice (some ⟨g, 0, none⟩) l.length c ∧ ThAt w g (i * 7) x.hd := by
 have hil := (List.getElem?_eq_some_iff.1 hi).1
 rcases h.2 with ⟨-, h0⟩ | ⟨g, cap, cur, rfl, hg, hh, hc1, hc2, hsz, hcur⟩
 ·omega
 ·refine ⟨g, cap, rfl, ?_⟩
  have key : ∀ j u, j < 7 → (tgv x)[j]? = some u → w.cell? ⟨g, i * 7 + j, none⟩ = some u := fun j u hj hu => by
   have e := tgc_get j hj hi
   rw [hu, ← hcur, List.getElem?_take, if_pos (by omega)] at e
   simp only [Array.getElem?_toList] at e
   rw [cell_of_row w g _ cur _ _ hh]
   exact e
  exact ⟨key 0 _ (by omega) rfl, key 1 _ (by omega) rfl, key 2 _ (by omega) rfl, key 3 _ (by omega) rfl, key 4 _ (by omega) rfl, key 5 _ (by omega) rfl, key 6 _ (by omega) rfl⟩
def okT (x : Tc) : Prop := in64 x.op ∧ in64 x.vr ∧ in64 x.a ∧ in64 x.b ∧ in64 x.bw ∧ x.ws.length ≤ 1048576 ∧ (∀ y ∈ x.ws, y < 18446744073709551616) ∧ x.ks.length ≤ 1048576 ∧ ∀ y ∈ x.ks, in64 y
theorem step_appT7 (w : World) {ops : Array Oper} {o : Oper} {a : Act} {K : Act → World → Prop} {Q : Exit → Act → World → Prop} {E : Prop} (hgd : o.guard = none) (s x : Operand)
  (ho : o.op = .call { callee := .builtin .append, args := #[s, x], argTypes := #[64, 64] })
  (B : Nat) (v : Value) (l : List Tg) (y : Tg) (hs : a.eval s = v) (hown : OT w B v l) (gx c : Nat) (hx : a.eval x = .slice (some ⟨gx, 0, none⟩) 1 c)
  (h0 : ThAt w gx 0 y.hd) (hl : l.length ≤ 1048576) (hB : B ≤ w.heap.size)
  (h : ∀ g cap w', OT w' B (.slice (some ⟨g, 0, none⟩) (l.length + 1) cap) (l ++ [y]) → w.grownBy w' v.ownBlock → (v.ownBlock = some g ∨ g = w.heap.size) → K (a.put o.dst (.slice (some ⟨g, 0, none⟩) (l.length + 1) cap)) w') :
  if Region.wanted o (yielded ops a.tmps) = true then Oper.wp Try.prog o a w K Q else E := by
 obtain ⟨i0, hi, hz0, hz1, hz2⟩ := info_parts Try.infoTNode
 refine step_append_lies w hgd s x 64 ho B 88 i0 _ 7 88 Try.underlying64 hi hz0 hz1 hz2 rfl (by decide) v l.length (tgc l) hs hown ⟨gx, 0, none⟩ 1 c (tgv y) hx rfl ?_ ?_ (by decide) ?_ ?_ hB _ rfl ?_
 ·intro j u hj
  rw [Addr.add_lit]
  obtain ⟨f0, f1, f2, f3, f4, f5, f6⟩ := h0
  match j, hj with
  | 0, hj => simp [tgv] at hj; subst hj; exact f0
  | 1, hj => simp [tgv] at hj; subst hj; exact f1
  | 2, hj => simp [tgv] at hj; subst hj; exact f2
  | 3, hj => simp [tgv] at hj; subst hj; exact f3
  | 4, hj => simp [tgv] at hj; subst hj; exact f4
  | 5, hj => simp [tgv] at hj; subst hj; exact f5
  | 6, hj => simp [tgv] at hj; subst hj; exact f6
  | j + 7, hj => simp [tgv] at hj
 ·intro u hu
  simp [tgv] at hu
  rcases hu with rfl | rfl | rfl | rfl | rfl | rfl | rfl <;> rfl
 ·unfold maxLen; omega
 ·omega
 ·intro g cap w' h1 h2 h3 _
  refine h g cap w' ?_ h2 h3
  unfold OT
  rw [tgc_append, List.length_append]
  simpa [tgc] using h1
theorem wpList_appT7 {w : World} {ops : Array Oper} {rest : List Oper} {o : Oper} {a : Act} {Q : Exit → Act → World → Prop} (hgd : o.guard = none) (s x : Operand)
  (ho : o.op = .call { callee := .builtin .append, args := #[s, x], argTypes := #[64, 64] })
  (B : Nat) (v : Value) (l : List Tg) (y : Tg) (hs : a.eval s = v) (hown : OT w B v l) (gx c : Nat) (hx : a.eval x = .slice (some ⟨gx, 0, none⟩) 1 c)
  (h0 : ThAt w gx 0 y.hd) (hl : l.length ≤ 1048576) (hB : B ≤ w.heap.size)
  (h : ∀ g cap w', OT w' B (.slice (some ⟨g, 0, none⟩) (l.length + 1) cap) (l ++ [y]) → w.grownBy w' v.ownBlock → (v.ownBlock = some g ∨ g = w.heap.size) → wpList Try.prog ops Q rest (a.put o.dst (.slice (some ⟨g, 0, none⟩) (l.length + 1) cap)) w') : wpList Try.prog ops Q (o :: rest) a w := by
 obtain ⟨i0, hi, hz0, hz1, hz2⟩ := info_parts Try.infoTNode
 refine wpList_append_lies w hgd s x 64 ho B 88 i0 _ 7 88 Try.underlying64 hi hz0 hz1 hz2 rfl (by decide) v l.length (tgc l) hs hown ⟨gx, 0, none⟩ 1 c (tgv y) hx rfl ?_ ?_ (by decide) ?_ ?_ hB _ rfl ?_
 ·intro j u hj
  rw [Addr.add_lit]
  obtain ⟨f0, f1, f2, f3, f4, f5, f6⟩ := h0
  match j, hj with
  | 0, hj => simp [tgv] at hj; subst hj; exact f0
  | 1, hj => simp [tgv] at hj; subst hj; exact f1
  | 2, hj => simp [tgv] at hj; subst hj; exact f2
  | 3, hj => simp [tgv] at hj; subst hj; exact f3
  | 4, hj => simp [tgv] at hj; subst hj; exact f4
  | 5, hj => simp [tgv] at hj; subst hj; exact f5
  | 6, hj => simp [tgv] at hj; subst hj; exact f6
  | j + 7, hj => simp [tgv] at hj
 ·intro u hu
  simp [tgv] at hu
  rcases hu with rfl | rfl | rfl | rfl | rfl | rfl | rfl <;> rfl
 ·unfold maxLen; omega
 ·omega
 ·intro g cap w' h1 h2 h3 _
  refine h g cap w' ?_ h2 h3
  unfold OT
  rw [tgc_append, List.length_append]
  simpa [tgc] using h1
theorem nw_rowT {w w' : World} {B C : Nat} {v : Value} {l : List Tg} {a : Option Addr} {xs : List Nat} (h : Nw w C a xs) (ho : OT w B v l) (hg : w.grownBy w' v.ownBlock) : Nw w' C a xs :=
 h.kept fun k cur hc => hg.block k (lt_of_block hc) (fun e => by
  obtain ⟨cur', h'⟩ := ho.typed e.symm
  rw [hc] at h'
  cases h')
theorem ni_rowT {w w' : World} {B C : Nat} {v : Value} {l : List Tg} {a : Option Addr} {xs : List Int} (h : Ni w C a xs) (ho : OT w B v l) (hg : w.grownBy w' v.ownBlock) : Ni w' C a xs :=
 h.kept fun k cur hc => hg.block k (lt_of_block hc) (fun e => by
  obtain ⟨cur', h'⟩ := ho.typed e.symm
  rw [hc] at h'
  cases h')
def mvT (to : List Int) (n : Tc) : Tc := ⟨n.op, n.vr, n.a, n.b, n.bw, n.ws, n.ks.map fun k => to.getD k.toNat 0⟩
theorem RdT.ok {w : World} {a : Option Addr} {xs : List Tg} (h : RdT w a xs) : ∀ n ∈ xs.map Tg.ct, okT n := by
 intro n hn
 obtain ⟨x, hx, rfl⟩ := List.mem_map.1 hn
 obtain ⟨i, hi⟩ := List.mem_iff_getElem?.1 hx
 rcases h.2 with h0 | ⟨b, o, -, hc⟩
 ·rw [h0] at hx; cases hx
 ·obtain ⟨-, h1, h2, k1, k2, k3, k4, k5⟩ := hc i x hi
  exact ⟨k1, k2, k3, k4, k5, h1.1, h1.2.1, h2.1, h2.2.1⟩

theorem rd_cellsI {w : World} {ad : Addr} {ys : List Int} (hr : RdI w (some ad) ys) : ∀ j u, (i64s ys).toList[j]? = some u → w.cell? (ad.add j) = some u := by
 intro j u hj
 have hj' : j < ys.length := by
  have := (List.getElem?_eq_some_iff.1 hj).1
  simpa [i64s] using this
 obtain ⟨-, -, h | ⟨b, o, e, hc⟩⟩ := hr
 ·rw [h] at hj'; simp at hj'
 ·cases e
  rw [Addr.add_lit, hc j hj']
  simp [i64s, hj'] at hj
  rw [← hj]
  simp [List.getD, hj']
theorem rd_noneI {w : World} {ys : List Int} (hr : RdI w none ys) : ys = [] := by
 obtain ⟨-, -, h | ⟨b, o, e, hc⟩⟩ := hr
 ·exact h
 ·cases e
theorem wp_appIr (w : World) {o : Oper} {a : Act} {K : Act → World → Prop} {Q : Exit → Act → World → Prop} (s x : Operand)
  (ho : o.op = .call { callee := .builtin .append, args := #[s, x], argTypes := #[68, 68] })
  (base : Nat) (v : Value) (bs ys : List Int) (hs : a.eval s = v) (hown : OI w base v bs) (xa : Option Addr) (c : Nat) (hx : a.eval x = .slice xa ys.length c) (hc0 : xa = none → c = 0)
  (hr : RdI w xa ys) (hl : bs.length + ys.length ≤ 4194304) (hbase : base ≤ w.heap.size)
  (h : ∀ v' w', OI w' base v' (bs ++ ys) → w.grownBy w' v.ownBlock → K (a.put o.dst v') w') : Oper.wp Try.prog o a w K Q := by
 obtain ⟨i0, hi, hz0, hz1, hz2⟩ := info_parts Try.infoI64
 cases xa with
 | none =>
  have e := rd_noneI hr
  subst e
  have ec := hc0 rfl
  subst ec
  have hr9 := run_append_owned_none (P := Try.prog) (w := w) base 68 o.type 2 i0 1 Try.underlying68 hi v bs.length (i64s bs).toList hown
  unfold Oper.wp execOp
  simp only [ho, resolve, invoke, builtin, Sem.run_bind, Sem.run_pure, Result.andThen_ok, List.map_toArray, List.map_cons, List.map_nil, hs, hx, List.length_nil, hr9]
  exact h v w (by rw [List.append_nil]; exact hown) (World.grownBy.refl w _)
 | some ad =>
  refine wp_append_own w s x 68 ho base 2 i0 (.int .i64 0) 1 8 Try.underlying68 hi hz0 hz1 hz2 rfl (by decide) v bs.length (i64s bs).toList hs hown ad ys.length c (i64s ys).toList hx (by simp [i64s]) (rd_cellsI hr) ?_ ?_ ?_ hbase ?_
  ·intro u hu
   simp [i64s] at hu
   obtain ⟨_, _, rfl⟩ := hu
   rfl
  ·unfold maxLen; omega
  ·omega
  ·intro v' w' h1 h2 _
   refine h v' w' ?_ h2
   unfold OI
   simpa [i64s] using h1
theorem wpList_appIr (w : World) {ops : Array Oper} {rest : List Oper} {o : Oper} {a : Act} {Q : Exit → Act → World → Prop} (hgd : o.guard = none) (s x : Operand)
  (ho : o.op = .call { callee := .builtin .append, args := #[s, x], argTypes := #[68, 68] })
  (base : Nat) (v : Value) (bs ys : List Int) (hs : a.eval s = v) (hown : OI w base v bs) (xa : Option Addr) (c : Nat) (hx : a.eval x = .slice xa ys.length c) (hc0 : xa = none → c = 0)
  (hr : RdI w xa ys) (hl : bs.length + ys.length ≤ 4194304) (hbase : base ≤ w.heap.size)
  (h : ∀ v' w', OI w' base v' (bs ++ ys) → w.grownBy w' v.ownBlock → wpList Try.prog ops Q rest (a.put o.dst v') w') : wpList Try.prog ops Q (o :: rest) a w :=
 wpList_plain hgd fun _ hK => wp_appIr w s x ho base v bs ys hs hown xa c hx hc0 hr hl hbase fun v' w' h2 h3 => hK _ _ (h v' w' h2 h3)

theorem grow_setT {w wr : World} {g : Nat} (h : w.grownBy wr (some g)) (i : Nat) (v : Value) : w.grownBy (wr.setCell ⟨g, i, none⟩ v) (some g) :=
 ⟨h.os, h.tape, h.output, by simpa using h.size, fun k hk hne => by rw [heap_setCell_other wr ⟨g, i, none⟩ k v (fun e => hne (by simp [e]))]; exact h.block k hk hne⟩
theorem open_any (a : Option Addr) (c : Nat) (bs : List Nat) (w : World) (h : RdB w a bs) :
  Calls Try.prog 10 #[.slice a bs.length c] w fun e w' => ∃ β, e = .returned (.pointer (some ⟨β, 0, none⟩)) ∧ w.heap.size ≤ β ∧ Rr w' β a c bs ∧ Below w.heap.size w w' := by
 have hl := h.1
 go_enter Try.func10, Try.ntmps10
 go_wp2
 go_ret
 refine ⟨w.heap.size, rfl, Nat.le_refl _, ⟨0, Nat.zero_le _, Blk.new _ _ _ _, h.later (Ba (Below.refl _ _) _), fun x e hb => ?_⟩, Ba (Below.refl _ _) _⟩
 obtain ⟨-, -, h | ⟨b, o, rfl, hc⟩⟩ := h
 ·exact absurd h hb
 ·cases e
  have := block_lt_of_cell (hc 0 (List.length_pos_iff.2 hb))
  simp at this ⊢
  omega

end Go.Proofs.Ytffcklobignlfaa
