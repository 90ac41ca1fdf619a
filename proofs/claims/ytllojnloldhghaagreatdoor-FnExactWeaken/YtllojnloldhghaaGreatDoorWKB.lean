/- Literals that are kept: a row of one's own, and what the program's filtered and idsOf answer. -/
import Derived.Test.YtllojnloldhghaaGreatDoorWKA
import Derived.Test.YtllojnloldhghaaGreatDoorZEE
import Derived.Test.YtllojnloldhghaaGreatDoorZIA
namespace Go.Proofs.YtllojnloldhghaaGreatDoor
set_option linter.unusedVariables false
set_option linter.unusedSimpArgs false
open Go.RowKit

set_option maxHeartbeats 2000000 in
set_option maxRecDepth 100000 in
/-- The closure that Weaken makes: whether a literal fails. -/
theorem weakF_any (va : Option Addr) (vc vn bv : Nat) (ds : List Dc) (vs : List Bw) (x : Lg) (w : World) (hc : w.cell? ⟨bv, 0, none⟩ = some (.slice va vn vc)) (hv : RdW w va vs) (hvn : vs.length = vn) (hs : RdT w x.sa x.ss) (ht : RdT w x.ta x.ts) (hV : valR ds (vs.map Bw.ct) = true) (hsd : sideR ds x.ct = true) :
    Calls Tryz.prog 45 #[x.val, .pointer (some ⟨bv, 0, none⟩)] w fun e w' => e = .returned (.bool (!hldR (vs.map Bw.ct) x.ct)) ∧ Below w.heap.size w w' := by
  have hbx : Below w.heap.size w (w.alloc (Obj.cells #[Value.int .i64 x.id, Value.bool x.eq, Value.slice x.sa x.ss.length x.sc, Value.slice x.ta x.ts.length x.tc] 78)) := (Below.refl _ _).alloc (Nat.le_refl _) _
  have HC := kide (holdsBy_any va vc ds vs x _ (hv.later hbx) (hs.later hbx) (ht.later hbx) hV (side_widths hsd).1 (side_widths hsd).2)
  rw [hvn] at HC
  have c1 := (kcell hbx _ _ (block_lt_of_cell hc)).trans hc
  have HBX := kide hbx
  generalize hldR (vs.map Bw.ct) x.ct = V at *
  clear hbx hs ht hV hsd hv hvn
  obtain ⟨id, q, ss, sa, sc, ts, ta, tc⟩ := x
  simp only [Lg.val] at *
  generalize ss.length = sn at *
  generalize ts.length = tn at *
  go_enter Tryz.func45, Tryz.ntmps45
  go_wp2_with fail
  refine Calls.mono HC.out ?_
  rintro e w3 ⟨rfl, hb3⟩
  have B3 := kide (HBX.out.trans (hb3.mono HBX.out.size))
  clear hb3 HC
  go_wp2_with fail
  go_ret
  exact ⟨rfl, B3.out⟩

theorem filter_take {p : Lg → Bool} {xs : List Lg} {k : Nat} {x : Lg} (h : xs[k]? = some x) : (xs.take (k + 1)).filter p = (xs.take k).filter p ++ (if p x = true then [x] else []) := by
  rw [List.take_add_one, h, List.filter_append]
  cases hv : p x <;> simp [hv]

set_option maxHeartbeats 2000000 in
set_option maxRecDepth 100000 in
theorem filtered_any (b : Option Addr) (c2 n bv : Nat) (xs : List Lg) (p : Lg → Bool) (w : World) (hk : ∀ u x, Below w.heap.size w u → x ∈ xs → Calls Tryz.prog 45 #[x.val, .pointer (some ⟨bv, 0, none⟩)] u fun e w' => e = .returned (.bool (p x)) ∧ Below u.heap.size u w') (hs : RdL w b xs) (hn : xs.length = n) :
    Calls Tryz.prog 48 #[.slice b n c2, .func (.func 45) #[] #[.pointer (some ⟨bv, 0, none⟩)]] w fun e w' => ∃ v, e = .returned v ∧ OL4 w' w.heap.size v (xs.filter p) ∧ Below w.heap.size w w' := by
  have hn2 : n ≤ 1048576 := by rw [← hn]; exact hs.1
  have HS := kide hs
  have HN := kide hn
  have HK := kide hk
  clear hk hs hn
  go_enter Tryz.func48, Tryz.ntmps48
  go_wp2_with fail
  go_loopw [5, 10] (fun o q wr => ∃ k : Nat, k ≤ n ∧ q = .int .i64 (k : Int) ∧ OL4 wr w.heap.size o ((xs.take k).filter p) ∧ Below w.heap.size w wr) (fun _ q _ => n - (intOf q).toNat)
  case atStart => exact ⟨0, Nat.zero_le _, rfl, OL4.nil _ _, Below.refl _ _⟩
  case round =>
    obtain ⟨k, hk, rfl, how, hb⟩ := hrel
    have HO := kide how
    have HB := kide hb
    clear how
    by_cases hlt : k < n
    · have i0 : (k : Int) < (n : Int) := by omega
      obtain ⟨x, gx⟩ : ∃ x, xs[k]? = some x := ⟨xs[k]'(by rw [HN.out]; exact hlt), List.getElem?_eq_getElem _⟩
      obtain ⟨b3, o3, rfl, ⟨p0, p1, p2, p3⟩, r1, r2, r3⟩ := (HS.out.later hb).at gx
      have hbx : Below wr.heap.size wr (wr.alloc (Obj.cells #[Value.int .i64 x.id, Value.bool x.eq, Value.slice x.sa x.ss.length x.sc, Value.slice x.ta x.ts.length x.tc] 78)) := (Below.refl _ _).alloc (Nat.le_refl _) _
      have HBX := kide (hb.trans (hbx.mono hb.size))
      have HOX := kide (HO.out.later hbx)
      have HC := kide (HK.out _ x HBX.out (List.mem_of_getElem? gx))
      have HST := kide (filter_take (p := p) gx)
      have S0 := kide (St.start wr (Obj.cells #[Value.int .i64 x.id, Value.bool x.eq, Value.slice x.sa x.ss.length x.sc, Value.slice x.ta x.ts.length x.tc] 78))
      have hul : ((xs.take k).filter p).length ≤ 1073741824 := by have h1 := List.length_filter_le p (xs.take k); have h2 := List.length_take_le k xs; omega
      generalize (xs.take k).filter p = rs at *
      generalize hpx : p x = V at *
      have HY : Hid (∃ y : Lg, y = x) := ⟨x, rfl⟩
      obtain ⟨y, hy⟩ := HY.out
      have y1 : x.id = y.id := by rw [hy]
      have y2 : x.eq = y.eq := by rw [hy]
      have y3 : Value.slice x.sa x.ss.length x.sc = .slice y.sa y.ss.length y.sc := by rw [hy]
      have y4 : Value.slice x.ta x.ts.length x.tc = .slice y.ta y.ts.length y.tc := by rw [hy]
      have e1 := kide y1
      have e2 := kide y2
      have e3 := kide y3
      have e4 := kide y4
      have HY2 := kide hy
      rw [← hy] at HST
      clear y1 y2 y3 y4 hy HY gx r1 r2 r3 hbx hb hpx HO
      obtain ⟨id, q, ss, sa, sc, ts, ta, tc⟩ := x
      simp only [Lg.val] at *
      generalize ss.length = sn at *
      generalize ts.length = tn at *
      cases V with
      | true =>
        have HF2 := HST.out
        rw [if_pos rfl] at HF2
        have HF3 := kide HF2
        clear HF2 HST
        go_wp2_with fail
        refine Calls.mono HC.out ?_
        rintro e w3 ⟨rfl, hb3⟩
        have B3 := kide (HBX.out.trans (hb3.mono HBX.out.size))
        have O3 := kide (HOX.out.later hb3)
        have S3 := kide (S0.out.next hb3)
        have c0 := S3.out.cell 0
        have c1 := S3.out.cell 1
        have c2' := S3.out.cell 2
        have c3 := S3.out.cell 3
        simp at c0 c1 c2' c3
        have hsz := B3.out.size
        clear hb3 HC
        go_wp2_with (at_builtin; refine wpList_appL4 rfl _ _ rfl w.heap.size _ rs y rfl (World.ownsRow.alloc O3.out _) _ rfl (by rw [← e1.out]; simp) (by rw [← e2.out]; simp) (by rw [← e3.out]; simp) (by rw [← e4.out]; simp) hul (by simp; omega) ?_)
        intro v7 w7 hos hg
        have B7 := kide (Below.grown (B3.out.alloc hsz (Obj.cells #[Value.int .i64 id, Value.bool q, Value.slice sa sn sc, Value.slice ta tn tc] 78)) hg (by simp; omega) (fun j hj => (O3.out.lt hj).1))
        have O7 := kide hos
        clear hos hg c0 c1 c2' c3 p0 p1 p2 p3
        go_wp2_with fail
        go_roundw
        case rel => exact ⟨k + 1, by omega, by go_num, by rw [HF3.out]; exact O7.out, B7.out⟩
        case measure => simp [intOf]; omega
      | false =>
        have HF2 := HST.out
        rw [if_neg (by simp), List.append_nil] at HF2
        have HF3 := kide HF2
        clear HF2 HST
        go_wp2_with fail
        refine Calls.mono HC.out ?_
        rintro e w3 ⟨rfl, hb3⟩
        have B3 := kide (HBX.out.trans (hb3.mono HBX.out.size))
        have O3 := kide (HOX.out.later hb3)
        clear hb3 HC
        go_wp2_with fail
        go_roundw
        case rel => exact ⟨k + 1, by omega, by go_num, by rw [HF3.out]; exact O3.out, B3.out⟩
        case measure => simp [intOf]; omega
    · have hfin : xs.take k = xs := List.take_of_length_le (by rw [HN.out]; omega)
      rw [hfin] at HO
      clear hb hfin
      go_wp2_with fail
      go_ret
      exact ⟨_, rfl, HO.out, HB.out⟩

end Go.Proofs.YtllojnloldhghaaGreatDoor
