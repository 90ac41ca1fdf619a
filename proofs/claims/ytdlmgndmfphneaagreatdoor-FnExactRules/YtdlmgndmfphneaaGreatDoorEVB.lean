/- The program's evalTerm. -/
import Derived.Test.YtdlmgndmfphneaaGreatDoorZGAQ
import Derived.Test.YtdlmgndmfphneaaGreatDoorZGAR
import Derived.Laws.EntriesVeiled
namespace Go.Proofs.YtdlmgndmfphneaaGreatDoor
set_option linter.unusedVariables false
set_option linter.unusedSimpArgs false
open Go.RowKit

theorem Eh.evl {w wr : World} {va b : Option Addr} {vc n c2 : Nat} {v : Value} {vs l : List Bw} (h : Eh w va b vs.length vc n c2 wr v l) (hv : RdW w va vs) (hok : ∀ x ∈ l.map Bw.ct, okWd x) (hl : l.length ≤ 400) : Evl wr (w.heap.size + 1 + 1) vs l := by
  obtain ⟨a, c, e, hr⟩ := h.row.rd (by omega) (fun x hx => by
    have ho := hok _ (List.mem_map_of_mem hx)
    have hr := right_W ho.1
    simp only [Bw.ct] at hr
    exact ⟨(h.nw x hx).rd (by omega) ho.2, by unfold in64; omega⟩)
  have h0 := h.xe.cell 0
  have h1 := h.xe.cell 1
  rw [e] at h1
  exact ⟨⟨va, vc, h0, hv.later h.bel⟩, ⟨a, c, h1, hr⟩⟩

theorem ev_pre (vs : List Wd) (ns : List Tc) : ∀ (m j : Nat), j < m → (evR vs (ns.take m))[j]? = (evR vs ns)[j]? := by
  have key : ∀ (t : List Tc) (all : List Wd) (j : Nat), j < all.length → (t.foldl (fun all n => all ++ [nodV vs all n]) all)[j]? = all[j]? := by
    intro t
    induction t with
    | nil => intros; rfl
    | cons n t ih =>
      intro all j hj
      rw [List.foldl_cons, ih _ j (by simp; omega), List.getElem?_append_left hj]
  intro m j hj
  by_cases hm : m ≤ ns.length
  · have e : evR vs ns = (ns.drop m).foldl (fun all n => all ++ [nodV vs all n]) (evR vs (ns.take m)) := by
      unfold evR
      rw [← List.foldl_append, List.take_append_drop]
    rw [e, key _ _ j (by rw [ev_len, List.length_take]; omega)]
  · rw [List.take_of_length_le (by omega)]

theorem RdW.words {w : World} {a : Option Addr} {vs : List Bw} (h : RdW w a vs) : ∀ x ∈ vs.map Bw.ct, ∀ y ∈ x.2, y < 18446744073709551616 := fun x hx y hy => by
  obtain ⟨v, hv, rfl⟩ := List.mem_map.1 hx
  obtain ⟨i, hi, rfl⟩ := List.mem_iff_getElem.1 hv
  obtain ⟨-, h | ⟨b, o, -, hc⟩⟩ := h
  · subst h; simp at hi
  · exact (hc i _ (List.getElem?_eq_getElem hi)).2.2.1.2.1 y hy

theorem RdT.words {w : World} {a : Option Addr} {xs : List Tg} (h : RdT w a xs) : ∀ n ∈ xs.map Tg.ct, ∀ y ∈ n.ws, y < 18446744073709551616 := fun n hn y hy => by
  obtain ⟨v, hv, rfl⟩ := List.mem_map.1 hn
  obtain ⟨i, hi, rfl⟩ := List.mem_iff_getElem.1 hv
  obtain ⟨-, h | ⟨b, o, -, hc⟩⟩ := h
  · subst h; simp at hi
  · exact (hc i _ (List.getElem?_eq_getElem hi)).2.1.2.1 y hy

/-- The method of a node, and where it stands in the table. -/
theorem meth_any (eb : Nat) (vs l : List Bw) (n : Tc) (h1 : 1 ≤ n.op) (h9 : n.op ≤ 9) : ∃ J f : Nat, n.op = (J : Int) ∧ J ≤ 9 ∧ 1 ≤ J ∧ (∀ (args : Array Value) (w : World), (callFunc f args).run Tryz.prog w = .ok (.enter f args) w) ∧
    (∀ (w : World) (va b : Option Addr) (vn vc m c2 : Nat) (wr : World) (v : Value) (k : List Bw), Eh w va b vn vc m c2 wr v k → wr.cell? ⟨w.heap.size + 1 + 1 + 1, J, none⟩ = some (Value.func (Fn.func f) #[Value.pointer (some ⟨w.heap.size + 1 + 1, 0, none⟩)] #[])) ∧
    ∀ (wa ka : Option Addr) (wc kc : Nat) (u : World), Evl u eb vs l → NodeAt (vs.map Bw.ct) (l.map Bw.ct) n → RdI u ka n.ks → Rd u wa n.ws → in64 n.a → Calls Tryz.prog f #[.pointer (some ⟨eb, 0, none⟩), nodA n wa ka wc kc] u (RetV u (nodV (vs.map Bw.ct) (l.map Bw.ct) n)) := by
  rcases op_nine h1 h9 with e | e | e | e | e | e | e | e | e
  · exact ⟨1, 129, e, by omega, by omega, fun args w => by simp [go_sem, Tryz.func129], fun w va b vn vc m c2 wr v k h => h.xb.cell 1, fun wa ka wc kc u hE hA hk hw h64 => meth1 eb vs l n wa ka wc kc u hE hA hk hw h64 e⟩
  · exact ⟨2, 130, e, by omega, by omega, fun args w => by simp [go_sem, Tryz.func130], fun w va b vn vc m c2 wr v k h => h.xb.cell 2, fun wa ka wc kc u hE hA hk hw h64 => meth2 eb vs l n wa ka wc kc u hE hA hk hw h64 e⟩
  · exact ⟨3, 131, e, by omega, by omega, fun args w => by simp [go_sem, Tryz.func131], fun w va b vn vc m c2 wr v k h => h.xb.cell 3, fun wa ka wc kc u hE hA hk hw h64 => meth3 eb vs l n wa ka wc kc u hE hA hk hw h64 e⟩
  · exact ⟨4, 132, e, by omega, by omega, fun args w => by simp [go_sem, Tryz.func132], fun w va b vn vc m c2 wr v k h => h.xb.cell 4, fun wa ka wc kc u hE hA hk hw h64 => meth4 eb vs l n wa ka wc kc u hE hA hk hw h64 e⟩
  · exact ⟨5, 133, e, by omega, by omega, fun args w => by simp [go_sem, Tryz.func133], fun w va b vn vc m c2 wr v k h => h.xb.cell 5, fun wa ka wc kc u hE hA hk hw h64 => meth5 eb vs l n wa ka wc kc u hE hA hk hw h64 e⟩
  · exact ⟨6, 134, e, by omega, by omega, fun args w => by simp [go_sem, Tryz.func134], fun w va b vn vc m c2 wr v k h => h.xb.cell 6, fun wa ka wc kc u hE hA hk hw h64 => meth6 eb vs l n wa ka wc kc u hE hA hk hw h64 e⟩
  · exact ⟨7, 135, e, by omega, by omega, fun args w => by simp [go_sem, Tryz.func135], fun w va b vn vc m c2 wr v k h => h.xb.cell 7, fun wa ka wc kc u hE hA hk hw h64 => meth7 eb vs l n wa ka wc kc u hE hA hk hw h64 e⟩
  · exact ⟨8, 136, e, by omega, by omega, fun args w => by simp [go_sem, Tryz.func136], fun w va b vn vc m c2 wr v k h => h.xb.cell 8, fun wa ka wc kc u hE hA hk hw h64 => meth8 eb vs l n wa ka wc kc u hE hA hk hw h64 e⟩
  · exact ⟨9, 137, e, by omega, by omega, fun args w => by simp [go_sem, Tryz.func137], fun w va b vn vc m c2 wr v k h => h.xb.cell 9, fun wa ka wc kc u hE hA hk hw h64 => meth9 eb vs l n wa ka wc kc u hE hA hk hw h64 e⟩

set_option maxHeartbeats 8000000 in
set_option maxRecDepth 100000 in
theorem evalTerm_any (va b : Option Addr) (vc c2 n : Nat) (ds : List Dc) (vs : List Bw) (xs : List Tg) (w : World) (hv : RdW w va vs) (hs : RdT w b xs) (hn : xs.length = n) (hW : ¬ (widthsR ds (xs.map Tg.ct)).length = 0) (hV : valR ds (vs.map Bw.ct) = true) :
    Calls Tryz.prog 99 #[.slice va vs.length vc, .agg #[.slice b n c2]] w (RetV w (evalR (vs.map Bw.ct) (xs.map Tg.ct))) := by
  have HAT0 := kide (fun (k : Nat) (m : Tc) hk => ev_at hW hV hv.words hs.words (k := k) (n := m) hk)
  have hR := eval_ok hW hV hv.words hs.words
  obtain ⟨hl1, hl2, -, -⟩ := right_kids hW
  rw [List.length_map, hn] at hl1 hl2
  have HV := kide hv
  have HS := kide hs
  have HN := kide hn
  obtain ⟨ns, hns⟩ : ∃ ns, xs.map Tg.ct = ns := ⟨_, rfl⟩
  rw [hns] at HAT0 hR ⊢
  have HNS := kide hns
  have hln : Hid (ns.length = n) := by show _ = _; rw [← HNS.out]; simpa using HN.out
  obtain ⟨R, hRe⟩ : ∃ R, evalR (vs.map Bw.ct) ns = R := ⟨_, rfl⟩
  rw [hRe] at hR ⊢
  have HRE := kide hRe
  have HRO := kide hR
  clear hv hs hn hW hV hns hRe hR
  obtain ⟨vn, hvn⟩ : ∃ m, vs.length = m := ⟨_, rfl⟩
  have HVN := kide hvn
  rw [hvn]
  clear hvn
  have XB : Hid (Bz ((((w.alloc (Obj.cells #[Value.slice b n c2] 34)).alloc (Obj.cells #[Value.int .i64 0, Value.slice none 0 0] 61)).alloc (Obj.cells #[Value.slice va vn vc, Value.slice none 0 0] 166)).alloc (Obj.cells #[Value.nilFunc, Value.func (Fn.func 129) #[Value.pointer (some ⟨w.heap.size + 1 + 1, 0, none⟩)] #[], Value.func (Fn.func 130) #[Value.pointer (some ⟨w.heap.size + 1 + 1, 0, none⟩)] #[], Value.func (Fn.func 131) #[Value.pointer (some ⟨w.heap.size + 1 + 1, 0, none⟩)] #[], Value.func (Fn.func 132) #[Value.pointer (some ⟨w.heap.size + 1 + 1, 0, none⟩)] #[], Value.func (Fn.func 133) #[Value.pointer (some ⟨w.heap.size + 1 + 1, 0, none⟩)] #[], Value.func (Fn.func 134) #[Value.pointer (some ⟨w.heap.size + 1 + 1, 0, none⟩)] #[], Value.func (Fn.func 135) #[Value.pointer (some ⟨w.heap.size + 1 + 1, 0, none⟩)] #[], Value.func (Fn.func 136) #[Value.pointer (some ⟨w.heap.size + 1 + 1, 0, none⟩)] #[], Value.func (Fn.func 137) #[Value.pointer (some ⟨w.heap.size + 1 + 1, 0, none⟩)] #[]] 168)) (w.heap.size + 1 + 1 + 1) #[Value.nilFunc, Value.func (Fn.func 129) #[Value.pointer (some ⟨w.heap.size + 1 + 1, 0, none⟩)] #[], Value.func (Fn.func 130) #[Value.pointer (some ⟨w.heap.size + 1 + 1, 0, none⟩)] #[], Value.func (Fn.func 131) #[Value.pointer (some ⟨w.heap.size + 1 + 1, 0, none⟩)] #[], Value.func (Fn.func 132) #[Value.pointer (some ⟨w.heap.size + 1 + 1, 0, none⟩)] #[], Value.func (Fn.func 133) #[Value.pointer (some ⟨w.heap.size + 1 + 1, 0, none⟩)] #[], Value.func (Fn.func 134) #[Value.pointer (some ⟨w.heap.size + 1 + 1, 0, none⟩)] #[], Value.func (Fn.func 135) #[Value.pointer (some ⟨w.heap.size + 1 + 1, 0, none⟩)] #[], Value.func (Fn.func 136) #[Value.pointer (some ⟨w.heap.size + 1 + 1, 0, none⟩)] #[], Value.func (Fn.func 137) #[Value.pointer (some ⟨w.heap.size + 1 + 1, 0, none⟩)] #[]] 168) := by
    have := Bz.new (((w.alloc (Obj.cells #[Value.slice b n c2] 34)).alloc (Obj.cells #[Value.int .i64 0, Value.slice none 0 0] 61)).alloc (Obj.cells #[Value.slice va vn vc, Value.slice none 0 0] 166)) #[Value.nilFunc, Value.func (Fn.func 129) #[Value.pointer (some ⟨w.heap.size + 1 + 1, 0, none⟩)] #[], Value.func (Fn.func 130) #[Value.pointer (some ⟨w.heap.size + 1 + 1, 0, none⟩)] #[], Value.func (Fn.func 131) #[Value.pointer (some ⟨w.heap.size + 1 + 1, 0, none⟩)] #[], Value.func (Fn.func 132) #[Value.pointer (some ⟨w.heap.size + 1 + 1, 0, none⟩)] #[], Value.func (Fn.func 133) #[Value.pointer (some ⟨w.heap.size + 1 + 1, 0, none⟩)] #[], Value.func (Fn.func 134) #[Value.pointer (some ⟨w.heap.size + 1 + 1, 0, none⟩)] #[], Value.func (Fn.func 135) #[Value.pointer (some ⟨w.heap.size + 1 + 1, 0, none⟩)] #[], Value.func (Fn.func 136) #[Value.pointer (some ⟨w.heap.size + 1 + 1, 0, none⟩)] #[], Value.func (Fn.func 137) #[Value.pointer (some ⟨w.heap.size + 1 + 1, 0, none⟩)] #[]] 168
    simp only [World.size_alloc] at this
    exact this
  have XE : Hid (Bz ((((w.alloc (Obj.cells #[Value.slice b n c2] 34)).alloc (Obj.cells #[Value.int .i64 0, Value.slice none 0 0] 61)).alloc (Obj.cells #[Value.slice va vn vc, Value.slice none 0 0] 166)).alloc (Obj.cells #[Value.nilFunc, Value.func (Fn.func 129) #[Value.pointer (some ⟨w.heap.size + 1 + 1, 0, none⟩)] #[], Value.func (Fn.func 130) #[Value.pointer (some ⟨w.heap.size + 1 + 1, 0, none⟩)] #[], Value.func (Fn.func 131) #[Value.pointer (some ⟨w.heap.size + 1 + 1, 0, none⟩)] #[], Value.func (Fn.func 132) #[Value.pointer (some ⟨w.heap.size + 1 + 1, 0, none⟩)] #[], Value.func (Fn.func 133) #[Value.pointer (some ⟨w.heap.size + 1 + 1, 0, none⟩)] #[], Value.func (Fn.func 134) #[Value.pointer (some ⟨w.heap.size + 1 + 1, 0, none⟩)] #[], Value.func (Fn.func 135) #[Value.pointer (some ⟨w.heap.size + 1 + 1, 0, none⟩)] #[], Value.func (Fn.func 136) #[Value.pointer (some ⟨w.heap.size + 1 + 1, 0, none⟩)] #[], Value.func (Fn.func 137) #[Value.pointer (some ⟨w.heap.size + 1 + 1, 0, none⟩)] #[]] 168)) (w.heap.size + 1 + 1) #[Value.slice va vn vc, Value.slice none 0 0] 166) := by
    have := (Bz.new ((w.alloc (Obj.cells #[Value.slice b n c2] 34)).alloc (Obj.cells #[Value.int .i64 0, Value.slice none 0 0] 61)) #[Value.slice va vn vc, Value.slice none 0 0] 166).later ((Below.refl _ _).alloc (Nat.le_refl _) (Obj.cells #[Value.nilFunc, Value.func (Fn.func 129) #[Value.pointer (some ⟨w.heap.size + 1 + 1, 0, none⟩)] #[], Value.func (Fn.func 130) #[Value.pointer (some ⟨w.heap.size + 1 + 1, 0, none⟩)] #[], Value.func (Fn.func 131) #[Value.pointer (some ⟨w.heap.size + 1 + 1, 0, none⟩)] #[], Value.func (Fn.func 132) #[Value.pointer (some ⟨w.heap.size + 1 + 1, 0, none⟩)] #[], Value.func (Fn.func 133) #[Value.pointer (some ⟨w.heap.size + 1 + 1, 0, none⟩)] #[], Value.func (Fn.func 134) #[Value.pointer (some ⟨w.heap.size + 1 + 1, 0, none⟩)] #[], Value.func (Fn.func 135) #[Value.pointer (some ⟨w.heap.size + 1 + 1, 0, none⟩)] #[], Value.func (Fn.func 136) #[Value.pointer (some ⟨w.heap.size + 1 + 1, 0, none⟩)] #[], Value.func (Fn.func 137) #[Value.pointer (some ⟨w.heap.size + 1 + 1, 0, none⟩)] #[]] 168))
    simp only [World.size_alloc] at this
    exact this
  have XR : Hid (Bz ((((w.alloc (Obj.cells #[Value.slice b n c2] 34)).alloc (Obj.cells #[Value.int .i64 0, Value.slice none 0 0] 61)).alloc (Obj.cells #[Value.slice va vn vc, Value.slice none 0 0] 166)).alloc (Obj.cells #[Value.nilFunc, Value.func (Fn.func 129) #[Value.pointer (some ⟨w.heap.size + 1 + 1, 0, none⟩)] #[], Value.func (Fn.func 130) #[Value.pointer (some ⟨w.heap.size + 1 + 1, 0, none⟩)] #[], Value.func (Fn.func 131) #[Value.pointer (some ⟨w.heap.size + 1 + 1, 0, none⟩)] #[], Value.func (Fn.func 132) #[Value.pointer (some ⟨w.heap.size + 1 + 1, 0, none⟩)] #[], Value.func (Fn.func 133) #[Value.pointer (some ⟨w.heap.size + 1 + 1, 0, none⟩)] #[], Value.func (Fn.func 134) #[Value.pointer (some ⟨w.heap.size + 1 + 1, 0, none⟩)] #[], Value.func (Fn.func 135) #[Value.pointer (some ⟨w.heap.size + 1 + 1, 0, none⟩)] #[], Value.func (Fn.func 136) #[Value.pointer (some ⟨w.heap.size + 1 + 1, 0, none⟩)] #[], Value.func (Fn.func 137) #[Value.pointer (some ⟨w.heap.size + 1 + 1, 0, none⟩)] #[]] 168)) (w.heap.size + 1) #[Value.int .i64 0, Value.slice none 0 0] 61) := by
    have := ((Bz.new (w.alloc (Obj.cells #[Value.slice b n c2] 34)) #[Value.int .i64 0, Value.slice none 0 0] 61).later ((Below.refl _ _).alloc (Nat.le_refl _) (Obj.cells #[Value.slice va vn vc, Value.slice none 0 0] 166))).later ((Below.refl _ _).alloc (Nat.le_refl _) (Obj.cells #[Value.nilFunc, Value.func (Fn.func 129) #[Value.pointer (some ⟨w.heap.size + 1 + 1, 0, none⟩)] #[], Value.func (Fn.func 130) #[Value.pointer (some ⟨w.heap.size + 1 + 1, 0, none⟩)] #[], Value.func (Fn.func 131) #[Value.pointer (some ⟨w.heap.size + 1 + 1, 0, none⟩)] #[], Value.func (Fn.func 132) #[Value.pointer (some ⟨w.heap.size + 1 + 1, 0, none⟩)] #[], Value.func (Fn.func 133) #[Value.pointer (some ⟨w.heap.size + 1 + 1, 0, none⟩)] #[], Value.func (Fn.func 134) #[Value.pointer (some ⟨w.heap.size + 1 + 1, 0, none⟩)] #[], Value.func (Fn.func 135) #[Value.pointer (some ⟨w.heap.size + 1 + 1, 0, none⟩)] #[], Value.func (Fn.func 136) #[Value.pointer (some ⟨w.heap.size + 1 + 1, 0, none⟩)] #[], Value.func (Fn.func 137) #[Value.pointer (some ⟨w.heap.size + 1 + 1, 0, none⟩)] #[]] 168))
    simp only [World.size_alloc] at this
    exact this
  have XT : Hid (Bz ((((w.alloc (Obj.cells #[Value.slice b n c2] 34)).alloc (Obj.cells #[Value.int .i64 0, Value.slice none 0 0] 61)).alloc (Obj.cells #[Value.slice va vn vc, Value.slice none 0 0] 166)).alloc (Obj.cells #[Value.nilFunc, Value.func (Fn.func 129) #[Value.pointer (some ⟨w.heap.size + 1 + 1, 0, none⟩)] #[], Value.func (Fn.func 130) #[Value.pointer (some ⟨w.heap.size + 1 + 1, 0, none⟩)] #[], Value.func (Fn.func 131) #[Value.pointer (some ⟨w.heap.size + 1 + 1, 0, none⟩)] #[], Value.func (Fn.func 132) #[Value.pointer (some ⟨w.heap.size + 1 + 1, 0, none⟩)] #[], Value.func (Fn.func 133) #[Value.pointer (some ⟨w.heap.size + 1 + 1, 0, none⟩)] #[], Value.func (Fn.func 134) #[Value.pointer (some ⟨w.heap.size + 1 + 1, 0, none⟩)] #[], Value.func (Fn.func 135) #[Value.pointer (some ⟨w.heap.size + 1 + 1, 0, none⟩)] #[], Value.func (Fn.func 136) #[Value.pointer (some ⟨w.heap.size + 1 + 1, 0, none⟩)] #[], Value.func (Fn.func 137) #[Value.pointer (some ⟨w.heap.size + 1 + 1, 0, none⟩)] #[]] 168)) w.heap.size #[Value.slice b n c2] 34) := (((Bz.new w #[Value.slice b n c2] 34).later ((Below.refl _ _).alloc (Nat.le_refl _) _)).later ((Below.refl _ _).alloc (Nat.le_refl _) _)).later ((Below.refl _ _).alloc (Nat.le_refl _) _)
  have BL : Hid (Below w.heap.size w ((((w.alloc (Obj.cells #[Value.slice b n c2] 34)).alloc (Obj.cells #[Value.int .i64 0, Value.slice none 0 0] 61)).alloc (Obj.cells #[Value.slice va vn vc, Value.slice none 0 0] 166)).alloc (Obj.cells #[Value.nilFunc, Value.func (Fn.func 129) #[Value.pointer (some ⟨w.heap.size + 1 + 1, 0, none⟩)] #[], Value.func (Fn.func 130) #[Value.pointer (some ⟨w.heap.size + 1 + 1, 0, none⟩)] #[], Value.func (Fn.func 131) #[Value.pointer (some ⟨w.heap.size + 1 + 1, 0, none⟩)] #[], Value.func (Fn.func 132) #[Value.pointer (some ⟨w.heap.size + 1 + 1, 0, none⟩)] #[], Value.func (Fn.func 133) #[Value.pointer (some ⟨w.heap.size + 1 + 1, 0, none⟩)] #[], Value.func (Fn.func 134) #[Value.pointer (some ⟨w.heap.size + 1 + 1, 0, none⟩)] #[], Value.func (Fn.func 135) #[Value.pointer (some ⟨w.heap.size + 1 + 1, 0, none⟩)] #[], Value.func (Fn.func 136) #[Value.pointer (some ⟨w.heap.size + 1 + 1, 0, none⟩)] #[], Value.func (Fn.func 137) #[Value.pointer (some ⟨w.heap.size + 1 + 1, 0, none⟩)] #[]] 168))) := Ba (Ba (Ba (Ba (Below.refl _ _) _) _) _) _
  have t0 : ((((w.alloc (Obj.cells #[Value.slice b n c2] 34)).alloc (Obj.cells #[Value.int .i64 0, Value.slice none 0 0] 61)).alloc (Obj.cells #[Value.slice va vn vc, Value.slice none 0 0] 166)).alloc (Obj.cells #[Value.nilFunc, Value.func (Fn.func 129) #[Value.pointer (some ⟨w.heap.size + 1 + 1, 0, none⟩)] #[], Value.func (Fn.func 130) #[Value.pointer (some ⟨w.heap.size + 1 + 1, 0, none⟩)] #[], Value.func (Fn.func 131) #[Value.pointer (some ⟨w.heap.size + 1 + 1, 0, none⟩)] #[], Value.func (Fn.func 132) #[Value.pointer (some ⟨w.heap.size + 1 + 1, 0, none⟩)] #[], Value.func (Fn.func 133) #[Value.pointer (some ⟨w.heap.size + 1 + 1, 0, none⟩)] #[], Value.func (Fn.func 134) #[Value.pointer (some ⟨w.heap.size + 1 + 1, 0, none⟩)] #[], Value.func (Fn.func 135) #[Value.pointer (some ⟨w.heap.size + 1 + 1, 0, none⟩)] #[], Value.func (Fn.func 136) #[Value.pointer (some ⟨w.heap.size + 1 + 1, 0, none⟩)] #[], Value.func (Fn.func 137) #[Value.pointer (some ⟨w.heap.size + 1 + 1, 0, none⟩)] #[]] 168)).cell? ⟨w.heap.size, 0, none⟩ = some (Value.slice b n c2) := XT.out.cell 0
  go_enter Tryz.func99, Tryz.ntmps99
  go_wp2_with fail
  have EH00 : Hid (Eh w va b vn vc n c2 ((((w.alloc (Obj.cells #[Value.slice b n c2] 34)).alloc (Obj.cells #[Value.int .i64 0, Value.slice none 0 0] 61)).alloc (Obj.cells #[Value.slice va vn vc, Value.slice none 0 0] 166)).alloc (Obj.cells #[Value.nilFunc, Value.func (Fn.func 129) #[Value.pointer (some ⟨w.heap.size + 1 + 1, 0, none⟩)] #[], Value.func (Fn.func 130) #[Value.pointer (some ⟨w.heap.size + 1 + 1, 0, none⟩)] #[], Value.func (Fn.func 131) #[Value.pointer (some ⟨w.heap.size + 1 + 1, 0, none⟩)] #[], Value.func (Fn.func 132) #[Value.pointer (some ⟨w.heap.size + 1 + 1, 0, none⟩)] #[], Value.func (Fn.func 133) #[Value.pointer (some ⟨w.heap.size + 1 + 1, 0, none⟩)] #[], Value.func (Fn.func 134) #[Value.pointer (some ⟨w.heap.size + 1 + 1, 0, none⟩)] #[], Value.func (Fn.func 135) #[Value.pointer (some ⟨w.heap.size + 1 + 1, 0, none⟩)] #[], Value.func (Fn.func 136) #[Value.pointer (some ⟨w.heap.size + 1 + 1, 0, none⟩)] #[], Value.func (Fn.func 137) #[Value.pointer (some ⟨w.heap.size + 1 + 1, 0, none⟩)] #[]] 168)) (.slice none 0 0) []) := ⟨XT.out, XR.out, XE.out, XB.out, OB2.nil _ _, by simp, BL.out⟩
  clear XB XE XR XT BL t0
  generalize ((((w.alloc (Obj.cells #[Value.slice b n c2] 34)).alloc (Obj.cells #[Value.int .i64 0, Value.slice none 0 0] 61)).alloc (Obj.cells #[Value.slice va vn vc, Value.slice none 0 0] 166)).alloc (Obj.cells #[Value.nilFunc, Value.func (Fn.func 129) #[Value.pointer (some ⟨w.heap.size + 1 + 1, 0, none⟩)] #[], Value.func (Fn.func 130) #[Value.pointer (some ⟨w.heap.size + 1 + 1, 0, none⟩)] #[], Value.func (Fn.func 131) #[Value.pointer (some ⟨w.heap.size + 1 + 1, 0, none⟩)] #[], Value.func (Fn.func 132) #[Value.pointer (some ⟨w.heap.size + 1 + 1, 0, none⟩)] #[], Value.func (Fn.func 133) #[Value.pointer (some ⟨w.heap.size + 1 + 1, 0, none⟩)] #[], Value.func (Fn.func 134) #[Value.pointer (some ⟨w.heap.size + 1 + 1, 0, none⟩)] #[], Value.func (Fn.func 135) #[Value.pointer (some ⟨w.heap.size + 1 + 1, 0, none⟩)] #[], Value.func (Fn.func 136) #[Value.pointer (some ⟨w.heap.size + 1 + 1, 0, none⟩)] #[], Value.func (Fn.func 137) #[Value.pointer (some ⟨w.heap.size + 1 + 1, 0, none⟩)] #[]] 168)) = w4 at *
  go_loopw [24] (fun q wr => ∃ (k : Nat) (l : List Bw), k ≤ n ∧ q = .int .i64 (k : Int) ∧ ∃ v, l.map Bw.ct = evR (vs.map Bw.ct) (ns.take k) ∧ Eh w va b vn vc n c2 wr v l) (fun q _ => n - (intOf q).toNat)
  case atStart => exact ⟨0, [], Nat.zero_le _, rfl, _, by simp [evR], EH00.out⟩
  case round =>
    obtain ⟨k, l, hk, rfl, v, hlc0, hEH⟩ := hrel
    have hlc := kide hlc0
    have EH := kide hEH
    have hll : Hid (l.length = k) := by
      have h := congrArg List.length hlc0
      rw [List.length_map, ev_len, List.length_take, hln.out] at h
      show _ = _
      omega
    clear hlc0 hEH EH00
    by_cases hlt : k < n
    · have i0 : (k : Int) < (n : Int) := by omega
      obtain ⟨⟨s1, wa, wc, ka, kc⟩, gx⟩ : ∃ x, xs[k]? = some x := ⟨xs[k]'(by rw [HN.out]; exact hlt), List.getElem?_eq_getElem _⟩
      have gn : ns[k]? = some s1 := by rw [← HNS.out, List.getElem?_map, gx]; rfl
      obtain ⟨-, h | ⟨b3, o3, rfl, hc⟩⟩ := HS.out.later EH.out.bel
      · rw [h] at gx; simp at gx
      obtain ⟨⟨p0, p1, p2, p3, p4, p5, p6⟩, pr, pk, q1, q2, q3, -⟩ := hc k _ gx
      simp only [Tg.hd] at p0 p1 p2 p3 p4 p5 p6 pr pk q1 q2 q3
      have HX := kide (ev_take (vs := vs.map Bw.ct) gn)
      have HAT : Hid (NodeAt (vs.map Bw.ct) (l.map Bw.ct) s1) := by show NodeAt _ _ _; rw [hlc.out]; exact HAT0.out k s1 gn
      have hop := HAT.out.op
      obtain ⟨op, vr, A, B, bw, ws, ks⟩ := s1
      simp only [] at p0 p1 p2 p3 p4 p5 p6 pr pk q1 q2 q3 hop
      have h64 := kide q3
      obtain ⟨wl, hwl⟩ : ∃ m, ws.length = m := ⟨_, rfl⟩
      obtain ⟨kl, hkl⟩ : ∃ m, ks.length = m := ⟨_, rfl⟩
      rw [hwl] at p5
      rw [hkl] at p6
      have HWL := kide hwl
      have HKL := kide hkl
      have hbn : Below wr.heap.size wr (wr.alloc (Obj.cells #[Value.int .i64 op, Value.int .i64 vr, Value.int .i64 A, Value.int .i64 B, Value.int .i64 bw, Value.slice wa wl wc, Value.slice ka kl kc] 63)) := (Below.refl _ _).alloc (Nat.le_refl _) _
      have EHW := kide (EH.out.later hbn)
      have XNW := kide (Bz.new wr #[Value.int .i64 op, Value.int .i64 vr, Value.int .i64 A, Value.int .i64 B, Value.int .i64 bw, Value.slice wa wl wc, Value.slice ka kl kc] 63)
      have HPK0 := kide (pk.later hbn)
      have HPR0 := kide (pr.later hbn)
      clear hc gx gn pr pk hbn hwl hkl q1 q2 q3 EH HAT0
      obtain ⟨J, fJ, hJ, hJ9, hJ1, hent, hxb, hmm⟩ := meth_any (w.heap.size + 1 + 1) vs l ⟨op, vr, A, B, bw, ws, ks⟩ hop.1 hop.2
      simp only [] at hJ
      subst hJ
      have HXB := kide hxb
      have HMM := kide hmm
      have hJi : (J : Int) < 10 := by omega
      clear hxb hmm
      have XNW' : Hid (Bz (wr.alloc (Obj.cells #[Value.int .i64 (J : Int), Value.int .i64 vr, Value.int .i64 A, Value.int .i64 B, Value.int .i64 bw, Value.slice wa wl wc, Value.slice ka kl kc] 63)) wr.heap.size #[Value.int .i64 (J : Int), Value.int .i64 vr, Value.int .i64 A, Value.int .i64 B, Value.int .i64 bw, Value.slice wa wl wc, Value.slice ka kl kc] 63) := XNW.out
      clear XNW
      have XNW := XNW'
      clear XNW'
      go_wp2_with fail
      obtain ⟨nb, hnb⟩ : ∃ x, wr.heap.size = x := ⟨_, rfl⟩
      rw [hnb] at XNW ⊢
      generalize wr.alloc (Obj.cells #[Value.int .i64 (J : Int), Value.int .i64 vr, Value.int .i64 A, Value.int .i64 B, Value.int .i64 bw, Value.slice wa wl wc, Value.slice ka kl kc] 63) = W0 at *
      have HEV := kide (fun u' (hu' : Below W0.heap.size W0 u') => Eh.evl (vs := vs) (by rw [HVN.out]; exact EHW.out.later hu') HV.out HAT.out.oks (by have := hll.out; omega))
      have HPK := kide (fun u' (hu' : Below W0.heap.size W0 u') => HPK0.out.later hu')
      have HPR := kide (fun u' (hu' : Below W0.heap.size W0 u') => HPR0.out.later hu')
      clear p0 p1 p2 p3 p4 p5 p6 HPK0 HPR0 hnb
      have HM := kide (fun u' (hu' : Below W0.heap.size W0 u') => HMM.out wa ka wc kc u' (HEV.out u' hu') HAT.out (HPK.out u' hu') (HPR.out u' hu') h64.out)
      rw [hlc.out] at HM
      simp only [nodA, HWL.out, HKL.out] at HM
      generalize hX : nodV (vs.map Bw.ct) (evR (vs.map Bw.ct) (ns.take k)) _ = X at HM HX
      clear hX HEV HPK HPR HAT h64
      refine wp_region_x (SA := fun z => z.cell? ⟨w.heap.size + 1 + 1, 1, none⟩ = some (v) ∧ z.cell? ⟨w.heap.size + 1 + 1 + 1, J, none⟩ = some (Value.func (Fn.func fJ) #[Value.pointer (some ⟨w.heap.size + 1 + 1, 0, none⟩)] #[]) ∧ S7 nb (J : Int) vr A B bw wa wl wc ka kl kc z) (SB := fun _ => True) (k := 11) (by kernel_rfl) ?_
      have hbd : Below W0.heap.size W0 W0.drew := (Below.refl _ _).drew
      have EH0 := kide (EHW.out.later hbd)
      have XN0 := kide (XNW.out.later hbd)
      have BW0 := kide hbd
      clear EHW XNW hbd
      generalize W0.drew = v0 at *
      have hs0 : Hid ((fun z => z.cell? ⟨w.heap.size + 1 + 1, 1, none⟩ = some (v) ∧ z.cell? ⟨w.heap.size + 1 + 1 + 1, J, none⟩ = some (Value.func (Fn.func fJ) #[Value.pointer (some ⟨w.heap.size + 1 + 1, 0, none⟩)] #[]) ∧ S7 nb (J : Int) vr A B bw wa wl wc ka kl kc z) v0) := ⟨EH0.out.xe.cell 1, HXB.out _ _ _ _ _ _ _ _ _ _ EH0.out, XN0.out.cell 0, XN0.out.cell 1, XN0.out.cell 2, XN0.out.cell 3, XN0.out.cell 4, XN0.out.cell 5, XN0.out.cell 6⟩
      try go_simp
      refine wpAnyX_both (T := fun _ => True) (i := 0) (v := Value.pointer (some ⟨w.heap.size + 1 + 1, 1, none⟩)) rfl (by kernel_rfl) (by kernel_rfl) (by kernel_rfl) (fun _ _ _ h => by first | exact h | exact h.elim | cases h.1) (by decide) (fun _ _ => trivial) (fun _ _ => trivial) (Sx.before (by kernel_rfl) hs0.out) (Or.inl ⟨by rfl, fun z hz => by go_simp⟩) ?_
      try go_simp
      refine wpAnyX_take (i := 1) (v := v) rfl (by kernel_rfl) (by kernel_rfl) (by kernel_rfl) (fun _ _ _ h => by first | exact h | exact h.elim | cases h.1) (by decide) (by kernel_rfl) (by kernel_rfl) hs0.out (Or.inl ⟨by rfl, fun z hz => by obtain ⟨e0, e1, e2, e3, e4, e5, e6, e7, e8⟩ := hz; go_simp⟩) ?_
      try go_simp
      refine wpAnyX_both (T := fun _ => True) (i := 2) (v := Value.pointer (some ⟨nb, 0, none⟩)) rfl (by kernel_rfl) (by kernel_rfl) (by kernel_rfl) (fun _ _ _ h => by first | exact h | exact h.elim | cases h.1) (by decide) (fun _ _ => trivial) (fun _ _ => trivial) (Sx.before (by kernel_rfl) hs0.out) (Or.inl ⟨by rfl, fun z hz => by go_simp⟩) ?_
      try go_simp
      refine wpAnyX_take (i := 3) (v := Value.int .i64 (J : Int)) rfl (by kernel_rfl) (by kernel_rfl) (by kernel_rfl) (fun _ _ _ h => by first | exact h | exact h.elim | cases h.1) (by decide) (by kernel_rfl) (by kernel_rfl) hs0.out (Or.inl ⟨by rfl, fun z hz => by obtain ⟨e0, e1, e2, e3, e4, e5, e6, e7, e8⟩ := hz; go_simp⟩) ?_
      try go_simp
      refine wpAnyX_both (T := fun _ => True) (i := 4) (v := Value.pointer (some ⟨w.heap.size + 1 + 1 + 1, J, none⟩)) rfl (by kernel_rfl) (by kernel_rfl) (by kernel_rfl) (fun _ _ _ h => by first | exact h | exact h.elim | cases h.1) (by decide) (fun _ _ => trivial) (fun _ _ => trivial) (Sx.before (by kernel_rfl) hs0.out) (Or.inl ⟨by rfl, fun z hz => by go_simp⟩) ?_
      try go_simp
      refine wpAnyX_take (i := 5) (v := Value.func (Fn.func fJ) #[Value.pointer (some ⟨w.heap.size + 1 + 1, 0, none⟩)] #[]) rfl (by kernel_rfl) (by kernel_rfl) (by kernel_rfl) (fun _ _ _ h => by first | exact h | exact h.elim | cases h.1) (by decide) (by kernel_rfl) (by kernel_rfl) hs0.out (Or.inl ⟨by rfl, fun z hz => by obtain ⟨e0, e1, e2, e3, e4, e5, e6, e7, e8⟩ := hz; go_simp⟩) ?_
      try go_simp
      refine wpAnyX_take (i := 6) (v := Value.agg #[Value.int .i64 (J : Int), Value.int .i64 vr, Value.int .i64 A, Value.int .i64 B, Value.int .i64 bw, Value.slice wa wl wc, Value.slice ka kl kc]) rfl (by kernel_rfl) (by kernel_rfl) (by kernel_rfl) (fun _ _ _ h => by first | exact h | exact h.elim | cases h.1) (by decide) (by kernel_rfl) (by kernel_rfl) hs0.out (Or.inl ⟨by rfl, fun z hz => by obtain ⟨e0, e1, e2, e3, e4, e5, e6, e7, e8⟩ := hz; go_simp⟩) ?_
      try go_simp
      refine wpAnyX_ready (rs := [7]) (by kernel_rfl) (by simp) (AllX.cons rfl (fun K hK => ?_) AllX.nil)
      go_simp
      refine Calls.mono (HM.out v0 BW0.out) ?_
      rintro e v1 ⟨a5, c5, rfl, hn1, hb1⟩
      have EH1 := kide (EH0.out.later hb1)
      have XN1 := kide (XN0.out.later hb1)
      have BW1 := kide (BW0.out.trans (hb1.mono BW0.out.size))
      have NA1 := kide (hn1.mono (lo' := w.heap.size) EH0.out.bel.size)
      clear hb1 hn1
      have hs1 : Hid ((fun z => z.cell? ⟨w.heap.size + 1 + 1, 1, none⟩ = some (v) ∧ z.cell? ⟨w.heap.size + 1 + 1 + 1, J, none⟩ = some (Value.func (Fn.func fJ) #[Value.pointer (some ⟨w.heap.size + 1 + 1, 0, none⟩)] #[]) ∧ S7 nb (J : Int) vr A B bw wa wl wc ka kl kc z) v1) := ⟨EH1.out.xe.cell 1, HXB.out _ _ _ _ _ _ _ _ _ _ EH1.out, XN1.out.cell 0, XN1.out.cell 1, XN1.out.cell 2, XN1.out.cell 3, XN1.out.cell 4, XN1.out.cell 5, XN1.out.cell 6⟩
      refine hK _ _ (Sx.before (by kernel_rfl) hs1.out) ?_
      clear hK K
      try go_simp
      refine wpAnyX_ready (rs := [8]) (by kernel_rfl) (by simp) (AllX.cons rfl (fun K hK => ?_) AllX.nil)
      go_simp
      have hbx : Below v1.heap.size v1 (v1.alloc (Obj.cells #[Value.int .i64 X.1, Value.slice a5 X.2.length c5] 61)) := (Below.refl _ _).alloc (Nat.le_refl _) _
      have YB := kide (Bz.new v1 #[Value.int .i64 X.1, Value.slice a5 X.2.length c5] 61)
      have EH2 := kide (EH1.out.later hbx)
      have XN2 := kide (XN1.out.later hbx)
      have NA2 := kide (NA1.out.later hbx)
      have BW2 := kide (BW1.out.trans (hbx.mono BW1.out.size))
      obtain ⟨b7, hb7⟩ : ∃ x, v1.heap.size = x := ⟨_, rfl⟩
      rw [hb7] at YB ⊢
      clear hb7 hbx
      generalize v1.alloc (Obj.cells #[Value.int .i64 X.1, Value.slice a5 X.2.length c5] 61) = v2 at *
      have hs2 : Hid ((fun z => z.cell? ⟨w.heap.size + 1 + 1, 1, none⟩ = some (v) ∧ z.cell? ⟨w.heap.size + 1 + 1 + 1, J, none⟩ = some (Value.func (Fn.func fJ) #[Value.pointer (some ⟨w.heap.size + 1 + 1, 0, none⟩)] #[]) ∧ S7 nb (J : Int) vr A B bw wa wl wc ka kl kc z) v2) := ⟨EH2.out.xe.cell 1, HXB.out _ _ _ _ _ _ _ _ _ _ EH2.out, XN2.out.cell 0, XN2.out.cell 1, XN2.out.cell 2, XN2.out.cell 3, XN2.out.cell 4, XN2.out.cell 5, XN2.out.cell 6⟩
      refine hK _ _ (Sx.before (by kernel_rfl) hs2.out) ?_
      clear hK K
      try go_simp
      refine wpAnyX_ready (rs := [9]) (by kernel_rfl) (by simp) (AllX.cons rfl (fun K hK => ?_) AllX.nil)
      refine step_appB2E _ rfl _ _ rfl (w.heap.size + 4) v l ⟨X.1, a5, c5, X.2⟩ (by first | rfl | simp [Act.eval]) EH2.out.row b7 1 (by first | rfl | simp [Act.eval]) (YB.out.cell 0) (YB.out.cell 1) (by have := hll.out; omega) (by have := EH2.out.xb.lt; omega) ?_
      intro g8 c8 N8 v3 ho3 hg3
      have GR3 := kide hg3
      have OR3 := kide ho3
      have e9 : v3.cell? ⟨w.heap.size + 1 + 1, 1, none⟩ = some v := (World.cell?_of_block (a := ⟨w.heap.size + 1 + 1, 1, none⟩) (hg3.block _ EH2.out.xe.lt (EH2.out.row.low (show w.heap.size + 1 + 1 < w.heap.size + 4 by omega)))).trans (EH2.out.xe.cell 1)
      have f9 : v3.frozen? ⟨w.heap.size + 1 + 1, 1, none⟩ = false := by
          have hB : Bz v3 (w.heap.size + 1 + 1) #[.slice va vn vc, v] 166 := by unfold Bz; rw [hg3.block _ EH2.out.xe.lt (EH2.out.row.low (by omega))]; exact EH2.out.xe
          exact hB.froz 1
      have hs3 : Hid ((fun z => z.cell? ⟨w.heap.size + 1 + 1, 1, none⟩ = some (v) ∧ z.cell? ⟨w.heap.size + 1 + 1 + 1, J, none⟩ = some (Value.func (Fn.func fJ) #[Value.pointer (some ⟨w.heap.size + 1 + 1, 0, none⟩)] #[]) ∧ S7 nb (J : Int) vr A B bw wa wl wc ka kl kc z) v3) := ⟨e9, (World.cell?_of_block (a := ⟨w.heap.size + 1 + 1 + 1, J, none⟩) (hg3.block _ EH2.out.xb.lt (EH2.out.row.low (show w.heap.size + 1 + 1 + 1 < w.heap.size + 4 by omega)))).trans (HXB.out _ _ _ _ _ _ _ _ _ _ EH2.out), (World.cell?_of_block (a := ⟨nb, 0, none⟩) (hg3.block _ XN2.out.lt (EH2.out.row.typedE XN2.out (by decide)))).trans (XN2.out.cell 0), (World.cell?_of_block (a := ⟨nb, 1, none⟩) (hg3.block _ XN2.out.lt (EH2.out.row.typedE XN2.out (by decide)))).trans (XN2.out.cell 1), (World.cell?_of_block (a := ⟨nb, 2, none⟩) (hg3.block _ XN2.out.lt (EH2.out.row.typedE XN2.out (by decide)))).trans (XN2.out.cell 2), (World.cell?_of_block (a := ⟨nb, 3, none⟩) (hg3.block _ XN2.out.lt (EH2.out.row.typedE XN2.out (by decide)))).trans (XN2.out.cell 3), (World.cell?_of_block (a := ⟨nb, 4, none⟩) (hg3.block _ XN2.out.lt (EH2.out.row.typedE XN2.out (by decide)))).trans (XN2.out.cell 4), (World.cell?_of_block (a := ⟨nb, 5, none⟩) (hg3.block _ XN2.out.lt (EH2.out.row.typedE XN2.out (by decide)))).trans (XN2.out.cell 5), (World.cell?_of_block (a := ⟨nb, 6, none⟩) (hg3.block _ XN2.out.lt (EH2.out.row.typedE XN2.out (by decide)))).trans (XN2.out.cell 6)⟩
      clear ho3 hg3
      refine hK _ _ (Sx.before (by kernel_rfl) hs3.out) ?_
      clear hK K
      try go_simp
      refine wpAnyX_both (T := fun _ => True) (i := 10) (v := Value.pointer (some ⟨w.heap.size + 1 + 1, 1, none⟩)) rfl (by kernel_rfl) (by kernel_rfl) (by kernel_rfl) (fun _ _ _ h => by first | exact h | exact h.elim | cases h.1) (by decide) (fun _ _ => trivial) (fun _ _ => trivial) (Sx.before (by kernel_rfl) hs3.out) (Or.inl ⟨by rfl, fun z hz => by go_simp⟩) ?_
      try go_simp
      refine wpAnyX_ready (rs := [11]) (by kernel_rfl) (by simp) (AllX.cons rfl (fun K hK => ?_) AllX.nil)
      go_simp
      have EH4 := kide (EH2.out.grown (y := ⟨X.1, a5, c5, X.2⟩) GR3.out OR3.out NA2.out)
      generalize v3.setCell ⟨w.heap.size + 1 + 1, 1, none⟩ (Value.slice (some ⟨g8, 0, none⟩) N8 c8) = v4 at *
      refine hK _ _ (Sx.behind (by kernel_rfl) trivial) ?_
      clear hK K e9 f9
      try go_simp
      refine wpAnyX_done (by kernel_rfl) ?_ _
      go_wp2_with fail
      go_roundw
      case rel => exact ⟨k + 1, l ++ [⟨X.1, a5, c5, X.2⟩], by omega, by go_num, Value.slice (some ⟨g8, 0, none⟩) N8 c8, by rw [List.map_append, hlc.out, HX.out]; rfl, EH4.out⟩
      case measure => simp [intOf]; omega
    · have e : k = n := by omega
      subst e
      have hfin : Hid (ns.take k = ns) := by show _ = _; rw [List.take_of_length_le (by rw [hln.out]; omega)]
      have hlc2 := hlc.out
      rw [hfin.out] at hlc2
      obtain ⟨m, rfl⟩ : ∃ m, k = m + 1 := ⟨k - 1, by omega⟩
      obtain ⟨x, hx⟩ : ∃ x, l[m]? = some x := ⟨l[m]'(by rw [hll.out]; omega), List.getElem?_eq_getElem _⟩
      have hxR : x.ct = R := by
        have h := HRE.out
        unfold evalR at h
        rw [← hlc2, hln.out, show m + 1 - 1 = m by omega, List.getD, List.getElem?_map, hx] at h
        simpa using h
      have hnx := EH.out.nw x (List.mem_of_getElem? hx)
      have HRO2 := HRO.out
      rw [← hxR] at HRO2
      obtain ⟨av, cv, hv, hrw⟩ := EH.out.row.rd (by rw [hll.out]; omega) (fun y hy => by
        obtain ⟨j, hj, rfl⟩ := List.mem_iff_getElem.1 hy
        have hjm : j < ns.length := by rw [hln.out]; rw [hll.out] at hj; exact hj
        have ho := (HAT0.out j ns[j] (List.getElem?_eq_getElem hjm)).is
        have he := ev_take (vs := vs.map Bw.ct) (List.getElem?_eq_getElem hjm)
        have hc : (l[j]).ct = nodV (vs.map Bw.ct) (evR (vs.map Bw.ct) (ns.take j)) ns[j] := by
          have h1 : (l.map Bw.ct)[j]? = some (l[j]).ct := by rw [List.getElem?_map, List.getElem?_eq_getElem hj]; rfl
          rw [hlc2] at h1
          have h2 := ev_pre (vs.map Bw.ct) ns (j + 1) j (by omega)
          rw [he, List.getElem?_append_right (by rw [ev_len, List.length_take]; omega), ev_len, List.length_take, show j - min j ns.length = 0 by omega] at h2
          rw [h1] at h2
          simpa using h2.symm
        rw [← hc] at ho
        have hr := right_W ho.1
        simp only [Bw.ct] at hr ho
        exact ⟨(EH.out.nw _ hy).rd (by omega) ho.2, by unfold in64; omega⟩)
      rw [hll.out] at hv
      subst hv
      obtain ⟨-, h | ⟨ab, ao, rfl, hac⟩⟩ := hrw
      · rw [h] at hx; simp at hx
      obtain ⟨d0, d1, -, -⟩ := hac m x hx
      have q1 : wr.cell? ⟨w.heap.size + 1 + 1, 1, none⟩ = some (.slice (some ⟨ab, ao, none⟩) (m + 1) cv) := EH.out.xe.cell 1
      have r0 := EH.out.xr.cell 0
      have r1 := EH.out.xr.cell 1
      have f0 := EH.out.xr.froz 0
      have f1 := EH.out.xr.froz 1
      simp at r0 r1
      have e1 : (((m + 1 : Nat) : Int) - 1) = (m : Int) := by omega
      have e2 : (m : Int) < ((m + 1 : Nat) : Int) := by omega
      have HNX := kide hnx
      obtain ⟨wd, xa, xc, ys⟩ := x
      simp only [Bw.ct] at hxR d0 d1 HNX
      have HXR := kide hxR
      clear hac hx hxR hnx HRO2 hlc2 hfin HAT0
      go_wp2_with fail
      obtain ⟨x0, x1⟩ := ((Bz.blk EH.out.xr).put0' (.int .i64 wd)).put1' (.slice xa ys.length xc) |>.cells
      rw [← HXR.out]
      exact bodyPost_ret (v := .agg #[.int .i64 wd, .slice xa ys.length xc]) (by simp [results, Tryz.results99, go_sem, x0, x1]) rfl (RetV.box (Bz.blk EH.out.xr) HNX.out (Nat.le_refl _) (Nat.le_succ _) EH.out.bel)

end Go.Proofs.YtdlmgndmfphneaaGreatDoor
