/- The groups of a forest: the program. -/
import Derived.Test.YtelndjdbfapahaaHD
import Derived.Test.YtelndjdbfapahaaHC
import Derived.Test.YtelndjdbfapahaaGN
namespace Go.Proofs.Ytelndjdbfapahaa
set_option linter.unusedVariables false
set_option linter.unusedSimpArgs false
open Go.RowKit

def grpZ (z : Int) (ls : List Lk) : List (List Int) := match forR z ls with
  | none => []
  | some L => grpR L z.toNat z.toNat

/-- Rows of rows of its own. -/
def RetRR (w : World) (xss : List (List Int)) (e : Ending) (w' : World) : Prop :=
  ∃ v vs, e = .returned v ∧ w'.ownsRow w.heap.size 44 1 v vs.length vs ∧ Rws w' w.heap.size vs xss ∧ Below w.heap.size w w'

theorem wpList_appR {w : World} {ops : Array Oper} {rest : List Oper} {o : Oper} {a : Act} {Q : Exit → Act → World → Prop} (hgd : o.guard = none) (s x : Operand)
    (ho : o.op = .call { callee := .builtin .append, args := #[s, x], argTypes := #[39, 39] })
    (B : Nat) (v : Value) (xs : List Value) (y : Value) (hy : y.oneCell' = true) (hs : a.eval s = v) (hown : w.ownsRow B 44 1 v xs.length xs) (gx : Nat) (hx : a.eval x = .slice (some ⟨gx, 0, none⟩) 1 1)
    (h0 : w.cell? ⟨gx, 0, none⟩ = some y) (hl : xs.length ≤ 1073741824) (hB : B ≤ w.heap.size)
    (h : ∀ v' w', w'.ownsRow B 44 1 v' (xs ++ [y]).length (xs ++ [y]) → w.grownBy w' v.ownBlock → wpList Try.prog ops Q rest (a.put o.dst v') w') : wpList Try.prog ops Q (o :: rest) a w := by
  obtain ⟨i0, hi, hz0, hz1, hz2⟩ := info_parts Try.infoRow
  refine wpList_append_own_at w hgd s x 39 ho B 44 i0 _ 1 24 Try.underlying39 hi hz0 hz1 hz2 rfl (by decide) v xs.length xs hs hown ⟨gx, 0, none⟩ 1 1 [y] hx rfl ?_ ?_ (by unfold maxLen; omega) (by omega) hB ?_
  · intro j u hj
    rw [Addr.add_lit]
    match j, hj with
    | 0, hj => simp at hj; subst hj; exact h0
    | j + 1, hj => simp at hj
  · intro u hu
    simp at hu
    subst hu
    exact hy
  · intro v' w' ho' hg _ _
    refine h v' w' ?_ hg
    rw [List.length_append]
    exact ho'

theorem own_base {w : World} {B B' n : Nat} {e : TypeId} {v : Value} {xs : List Value} (h : w.ownsRow B e 1 v n xs) (hb : B' ≤ B) : w.ownsRow B' e 1 v n xs := by
  refine ⟨h.1, ?_⟩
  rcases h.2 with h' | ⟨g, cap, cur, rfl, hB, r⟩
  · exact .inl h'
  · exact .inr ⟨g, cap, cur, rfl, Nat.le_trans hb hB, r⟩

theorem own_slice {w : World} {B n : Nat} {e : TypeId} {v : Value} {xs : List Value} (h : w.ownsRow B e 1 v n xs) : ∃ a c, v = .slice a n c := by
  rcases h.2 with ⟨rfl, h0⟩ | ⟨g, cap, cur, rfl, hB, r⟩
  · exact ⟨none, 0, by rw [h0]⟩
  · exact ⟨_, _, rfl⟩

theorem forR_nm {z : Int} {ls : List Lk} {L : Nat → Nat} (h : forR z ls = some L) : Nm z.toNat L ∧ ∀ i, i < z.toNat → L i ≤ i := by
  unfold forR at h
  split at h
  · exact ⟨(goF_names (Nm.start _) h).1, goF_le (fun i _ => Nat.le_refl _) h⟩
  · cases h

theorem Rws.base {w : World} {B B' : Nat} {vs : List Value} {xss : List (List Int)} (h : Rws w B vs xss) (hb : B' ≤ B) : Rws w B' vs xss :=
  ⟨h.len, fun i v xs h1 h2 => own_base (h.own i v xs h1 h2) hb, h.dj⟩

set_option maxHeartbeats 1000000 in
set_option maxRecDepth 100000 in
theorem implGroups_any (z : Int) (a : Option Addr) (n c : Nat) (ls : List Lk) (w : World) (hr : RdK w a ls) (hn : ls.length = n) :
    Calls Try.prog 23 #[.agg #[.int .i64 z, .slice a n c]] w (RetRR w (grpZ z ls)) := by
  obtain ⟨R, hR⟩ : ∃ R, grpZ z ls = R := ⟨_, rfl⟩
  rw [hR]
  have HR := kide hR
  have h2 : Below w.heap.size w (w.alloc (Obj.cells #[.int .i64 z, .slice a n c] 29)) := (Below.refl _ _).alloc (Nat.le_refl _) _
  have XF := kide (Bx.new w #[.int .i64 z, .slice a n c] 29)
  have HC := kide (groveOf_any z a n c ls _ (hr.later h2) hn)
  have H2 := kide h2
  clear hr hn hR h2
  go_enter Try.func23, Try.ntmps23
  go_wp2_with fail
  generalize w.alloc (Obj.cells #[.int .i64 z, .slice a n c] 29) = w0 at *
  refine Calls.mono HC.out ?_
  rintro e w1 ⟨hb, ⟨hf, rfl⟩ | ⟨L, G, s, rt, dp, M, hf, rfl, hg, hnl, huf, hps, hls, hM⟩⟩
  · have B1 := kide (H2.out.trans (hb.mono H2.out.size))
    have hres : R = [] := by rw [← HR.out, grpZ, hf]
    subst hres
    clear hb hf HR
    go_wp2_with fail
    go_ret
    exact ⟨_, [], rfl, ⟨rfl, .inl ⟨rfl, rfl⟩⟩, Rws.nil _ _, B1.out⟩
  · have B1 := kide (H2.out.trans (hb.mono H2.out.size))
    have X1 := kide (XF.out.later hb)
    obtain ⟨N, rfl⟩ : ∃ N : Nat, z = (N : Int) := ⟨z.toNat, by have := (forR_len hf).1; omega⟩
    have hN : N ≤ 1000 := by have := (forR_len hf).1; omega
    have hpl : s.ps.length = N := by omega
    have hnm := (forR_nm hf).1
    rw [Int.toNat_natCast, ← hpl] at hnm
    have HST := kide (sets_any hg hnl huf hnm N hpl hN)
    have hres : R = grpR L N N := by rw [← HR.out, grpZ, hf]; simp
    subst hres
    have r0 := X1.out.cell 0
    simp at r0
    unfold pt
    clear hb hf HR hg hnl huf hps hls hnm hpl
    go_wp2_with fail
    refine Calls.mono HST.out ?_
    rintro e w2 ⟨g, f, rfl, hst, hb2⟩
    have B2 := kide (B1.out.trans (hb2.mono B1.out.size))
    have HS := kide hst
    have hz12 : Hid (w.heap.size ≤ w1.heap.size) := B1.out.size
    have hz2 : Hid (w1.heap.size ≤ w2.heap.size) := hb2.size
    clear hst hb2 r0 X1 B1 HST
    go_wp2_with fail
    go_loopw [4, 16] (fun v q wr => ∃ (k : Nat) (vs : List Value), k ≤ N ∧ q = .int .i64 (k : Int) ∧ wr.ownsRow w2.heap.size 44 1 v vs.length vs ∧ Rws w2 w1.heap.size vs (grpR L N k) ∧ (∀ u ∈ vs, ∃ i, i < k ∧ u = f i) ∧ Below w2.heap.size w2 wr) (fun _ q _ => N - (intOf q).toNat)
    case atStart => exact ⟨0, [], Nat.zero_le _, rfl, ⟨rfl, .inl ⟨rfl, rfl⟩⟩, Rws.nil _ _, by simp, Below.refl _ _⟩
    case round =>
      obtain ⟨k, vs, hk, rfl, hown, hrw, hin, hbel⟩ := hrel
      have HO := kide hown
      have HRW := kide hrw
      have HI := kide hin
      have HB := kide hbel
      obtain ⟨av, cv, rfl⟩ := own_slice hown
      clear hown hrw hin hbel
      by_cases hlt : k < N
      · have i0 : (k : Int) < (N : Int) := by omega
        have q0 := HS.out.row.cell hlt
        rw [← kcell HB.out g k HS.out.row.lt] at q0
        obtain ⟨ak, nk, ck, hfk⟩ : ∃ a n c, f k = .slice a n c := by
          obtain ⟨a, c, e⟩ := own_slice (HS.out.own k hlt)
          exact ⟨_, _, _, e⟩
        have hnk : nk = (setR L k N).length := by
          obtain ⟨a, c, e⟩ := own_slice (HS.out.own k hlt)
          rw [hfk] at e
          cases e
          rfl
        have HNK := kide hnk
        have HFK := kide hfk
        rw [hfk] at q0
        clear hfk hnk
        by_cases hl1 : 1 < nk
        · have i1 : (1 : Int) < (nk : Int) := by omega
          have hvl : vs.length ≤ 1073741824 := by have := HRW.out.len; have := grpR_len L N k; omega
          have hba : Below wr.heap.size wr (wr.alloc (Obj.cells #[Value.slice ak nk ck] 44)) := (Below.refl _ _).alloc (Nat.le_refl _) _
          have HOa := kide (own_later HO.out hba)
          have HBa := kide (HB.out.trans (hba.mono HB.out.size))
          have hsz := HB.out.size
          clear hba
          go_wp2_with (at_builtin; refine wpList_appR rfl _ _ rfl w2.heap.size _ vs (Value.slice ak nk ck) rfl rfl HOa.out _ rfl (by simp) hvl (by simp; omega) ?_)
          intro v7 w7 ho7 hg7
          have O7 := kide ho7
          have B7 := kide (Below.grown HBa.out hg7 (by simp; omega) (fun j hj => (own_lt HOa.out hj).1))
          clear ho7 hg7
          go_wp2_with fail
          go_roundw
          case rel =>
            refine ⟨k + 1, vs ++ [Value.slice ak nk ck], by omega, by go_num, by simpa using O7.out, ?_, fun u hu => ?_, B7.out⟩
            · rw [grpR_yes (by rw [← HNK.out]; exact hl1)]
              refine HRW.out.push (by rw [← HFK.out]; exact HS.out.own k hlt) (fun i u hi b hb hb' => ?_)
              obtain ⟨j, hj, e⟩ := HI.out u (List.mem_of_getElem? hi)
              rw [e] at hb
              rw [← HFK.out] at hb'
              exact HS.out.dj j k (by omega) hlt (by omega) b hb hb'
            · rcases List.mem_append.1 hu with hu | hu
              · obtain ⟨j, hj, e⟩ := HI.out u hu
                exact ⟨j, by omega, e⟩
              · simp at hu
                exact ⟨k, by omega, by rw [hu, HFK.out]⟩
          case measure => simp [intOf]; omega
        · have i1 : ¬ (1 : Int) < (nk : Int) := by omega
          go_wp2_with fail
          go_roundw
          case rel => exact ⟨k + 1, vs, by omega, by go_num, HO.out, by rw [grpR_no (by rw [← HNK.out]; exact hl1)]; exact HRW.out, fun u hu => by obtain ⟨j, hj, e⟩ := HI.out u hu; exact ⟨j, by omega, e⟩, HB.out⟩
          case measure => simp [intOf]; omega
      · have e : k = N := by omega
        subst e
        have BE : Hid (Below w.heap.size w wr) := B2.out.trans (HB.out.mono B2.out.size)
        have hz := B2.out.size
        go_wp2_with fail
        go_ret
        exact ⟨_, vs, rfl, own_base HO.out hz, (HRW.out.later HB.out).base hz12.out, BE.out⟩

end Go.Proofs.Ytelndjdbfapahaa
