/- What DrawSlicesOf tells. -/
import Derived.Test.YtnfagdfaphihhaaDG
namespace Go.Proofs.Ytnfagdfaphihhaa
set_option linter.unusedVariables false
set_option linter.unusedSimpArgs false
open Go.RowKit

def GotD (w : World) (lo : Nat) (a : Option Addr) (ds : List Dc) : Prop := RdD w a ds ∧ ∀ p, a = some p → lo ≤ p.block
theorem GotD.other {w : World} {lo b i : Nat} {a : Option Addr} {ds : List Dc} (h : GotD w lo a ds) (hb : b < lo) (v : Value) : GotD (w.setCell ⟨b, i, none⟩ v) lo a ds := by
  obtain ⟨⟨h1, h2, h3⟩, h4⟩ := h
  refine ⟨⟨h1, h2, ?_⟩, h4⟩
  rcases h3 with h3 | ⟨g, o, e, hc⟩
  · exact .inl h3
  · have hg := h4 _ e
    simp only [] at hg
    refine .inr ⟨g, o, e, fun j d hj => ?_⟩
    obtain ⟨c0, c1⟩ := hc j d hj
    have e9 : (w.setCell ⟨b, i, none⟩ v).heap[g]? = w.heap[g]? := heap_setCell_other _ _ _ _ (by simp; omega)
    exact ⟨by rw [World.cell?_of_block (a := ⟨g, _, none⟩) e9]; exact c0, by rw [World.cell?_of_block (a := ⟨g, _, none⟩) e9]; exact c1⟩
theorem GotD.lower {w : World} {lo lo' : Nat} {a : Option Addr} {ds : List Dc} (h : GotD w lo a ds) (hl : lo' ≤ lo) : GotD w lo' a ds := ⟨h.1, fun p hp => Nat.le_trans hl (h.2 p hp)⟩
theorem GotII.otherG {w : World} {lo b i : Nat} {a : Option Addr} {xs : List Iw} (h : GotII w lo a xs) (hb : b < lo) (v : Value) : GotII (w.setCell ⟨b, i, none⟩ v) lo a xs := ⟨h.other hb v, h.2⟩
theorem GotII.lower {w : World} {lo lo' : Nat} {a : Option Addr} {xs : List Iw} (h : GotII w lo a xs) (hl : lo' ≤ lo) : GotII w lo' a xs := ⟨h.1, fun p hp => Nat.le_trans hl (h.2.1 p hp), fun x hx p hp => Nat.le_trans hl (h.2.2 x hx p hp)⟩

def RetDC (w : World) (e : Ending) (w' : World) : Prop := ∃ a1 c1 ds a2 n2 c2 xs, e = .returned (.tuple #[.slice a1 ds.length c1, .agg #[.slice a2 n2 c2]]) ∧ GotD w' w.heap.size a1 ds ∧ xs.length = n2 ∧ GotII w' w.heap.size a2 xs ∧ Below w.heap.size w w'

set_option maxHeartbeats 1000000 in
theorem drawCutsOk_any (a : Option Addr) (c : Nat) (bs : List Nat) (w : World) (h : RdB w a bs) :
    Calls Try.prog 22 #[.slice a bs.length c] w (RetDC w) := by
  have HO := kide (fun u (hu : Below w.heap.size w u) => open_any a c bs u (h.later hu))
  have hlb := h.1
  generalize bs.length = bn at *
  clear h
  go_enter Try.func22, Try.ntmps22
  go_wp2_with fail
  have hb0 : Below w.heap.size w (w.alloc (Obj.cells #[Value.slice none 0 0] 27)) := (Below.refl _ _).alloc (Nat.le_refl _) _
  have X0 : Hid (B1 (w.alloc (Obj.cells #[Value.slice none 0 0] 27)) w.heap.size (.slice none 0 0) 27) := heap_alloc_new _ _
  have B0 := kide hb0
  clear hb0
  generalize w.alloc (Obj.cells #[Value.slice none 0 0] 27) = w0 at *
  refine Calls.mono (HO.out w0 B0.out) ?_
  rintro e w1 ⟨β, rfl, hβ, r1, hb1⟩
  have R1 := kide r1
  have HB1 := kide (B0.out.trans (hb1.mono B0.out.size))
  have X1 := kide (X0.out.later hb1)
  have lx := lt_of_block X0.out
  clear r1 hb1
  go_wp2_with fail
  refine Calls.mono (decls_any β a c bs w1 R1.out) ?_
  rintro e w2 ⟨v2, ds, rfl, o2, hd1, hd6, hdx, r2, d2⟩
  have R2 := kide r2
  have D2 := kide d2
  have HL1 := R1.out.lt
  have hxβ : w.heap.size ≠ β := by omega
  have X2 := kide (X1.out.far d2 hxβ)
  obtain ⟨a1, c1, rfl, hrd⟩ := o2.rd (by omega) (fun x hx => ⟨by have := hdx x hx; unfold in64; omega, by have := (hdx x hx).2.2; omega⟩)
  have RD2 := kide hrd
  have HDX := kide hdx
  have HA1 : Hid (∀ p, a1 = some p → p.block ≠ β ∧ w1.heap.size ≤ p.block) := fun p hp => by
    subst hp
    have := (o2.lt (b := p.block) (by rcases o2.2 with ⟨e', -⟩ | ⟨g, cap, cur, e', -⟩ <;> cases e'; rfl)).1
    exact ⟨by omega, this⟩
  have HCU := kide (cuts_any β a c bs a1 c1 ds.length ds w2 R2.out RD2.out rfl (fun p hp => (HA1.out p hp).1) hd1 hd6 (fun x hx => ⟨(hdx x hx).1, (hdx x hx).2.1⟩))
  obtain ⟨n, hn⟩ : ∃ n, ds.length = n := ⟨_, rfl⟩
  have HN := kide hn
  rw [hn] at HCU
  rw [hn]
  clear r2 d2 o2 hrd hdx hn
  go_wp2_with fail
  refine Calls.mono HCU.out ?_
  rintro e w3 ⟨a3, n3, c3, xs, rfl, hxl, hii, r3, d3⟩
  have X3 := kide (X2.out.far d3 hxβ)
  have x0 := X3.out.cell
  have xf := X3.out.froz
  have HF : Hid (GotD (w3.setCell ⟨w.heap.size, 0, none⟩ (.slice a3 n3 c3)) w.heap.size a1 ds ∧ xs.length = n3 ∧ GotII (w3.setCell ⟨w.heap.size, 0, none⟩ (.slice a3 n3 c3)) w.heap.size a3 xs ∧ Below w.heap.size w (w3.setCell ⟨w.heap.size, 0, none⟩ (.slice a3 n3 c3))) := by
    have z1 := D2.out.size
    have g1 : GotD w3 w1.heap.size a1 ds := ⟨RD2.out.farB d3 (fun p hp => (HA1.out p hp).1), fun p hp => (HA1.out p hp).2⟩
    exact ⟨(g1.other (by omega) _).lower (by omega), hxl, (hii.otherG (by omega) _).lower (by omega), ((HB1.out.trans ((D2.out.trans d3).below (by omega) HB1.out.size))).setCell (Nat.le_refl _) _⟩
  clear hxl hii r3 d3
  go_wp2_with fail
  exact bodyPost_ret (v := .tuple #[.slice a1 n c1, .agg #[.slice a3 n3 c3]]) (by simp [results, Try.results22, go_sem, x0]) rfl ⟨a1, c1, ds, a3, n3, c3, xs, by rw [HN.out], HF.out⟩

theorem drawSlicesOf_any (a : Option Addr) (c : Nat) (bs : List Nat) (w : World) (h : RdB w a bs) :
    Calls Try.prog 6 #[.slice a bs.length c] w (RetDC w) := by
  have HO := kide (fun u (hu : Below w.heap.size w u) => drawCutsOk_any a c bs u (h.later hu))
  generalize bs.length = bn at *
  clear h
  go_enter Try.func6, Try.ntmps6
  go_wp2_with fail
  have hb0 : Below w.heap.size w (w.alloc (Obj.cells #[Value.slice none 0 0] 27)) := (Below.refl _ _).alloc (Nat.le_refl _) _
  have X0 : Hid (B1 (w.alloc (Obj.cells #[Value.slice none 0 0] 27)) w.heap.size (.slice none 0 0) 27) := heap_alloc_new _ _
  have B0 := kide hb0
  clear hb0
  generalize w.alloc (Obj.cells #[Value.slice none 0 0] 27) = w0 at *
  refine Calls.mono (HO.out w0 B0.out) ?_
  rintro e w1 ⟨a1, c1, ds, a2, n2, c2, xs, rfl, gd, hxl, gi, hb1⟩
  have X1 := kide (X0.out.later hb1)
  have lx := lt_of_block X0.out
  have x0 := X1.out.cell
  have xf := X1.out.froz
  have HF : Hid (GotD (w1.setCell ⟨w.heap.size, 0, none⟩ (.slice a2 n2 c2)) w.heap.size a1 ds ∧ xs.length = n2 ∧ GotII (w1.setCell ⟨w.heap.size, 0, none⟩ (.slice a2 n2 c2)) w.heap.size a2 xs ∧ Below w.heap.size w (w1.setCell ⟨w.heap.size, 0, none⟩ (.slice a2 n2 c2))) :=
    ⟨(gd.other (by omega) _).lower (by omega), hxl, (gi.otherG (by omega) _).lower (by omega), (B0.out.trans (hb1.mono B0.out.size)).setCell (Nat.le_refl _) _⟩
  generalize hn : ds.length = n
  have HN := kide hn
  clear hxl gd gi hb1 hn
  go_wp2_with fail
  exact bodyPost_ret (v := .tuple #[.slice a1 n c1, .agg #[.slice a2 n2 c2]]) (by simp [results, Try.results6, go_sem, x0]) rfl ⟨a1, c1, ds, a2, n2, c2, xs, by rw [HN.out], HF.out⟩

end Go.Proofs.Ytnfagdfaphihhaa
