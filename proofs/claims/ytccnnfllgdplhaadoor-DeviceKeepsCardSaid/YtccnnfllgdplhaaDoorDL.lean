/-
  Part of the proof: what a row's condition and its arguments give a walk.
-/
import Derived.Test.YtccnnfllgdplhaaDoorDC1
import Derived.Test.YtccnnfllgdplhaaDoorRows
import Derived.ProofKit
import Derived.SliceStrings
import Derived.OpenShut
import Derived.LaidLaws
import Derived.LaidHandle
import Derived.Stop.Joined
import Derived.Stop.LaidErr
import Derived.MakeChecks
namespace Go.Proofs.YtccnnfllgdplhaaDoor
open Go.ChangeShapes Go.WideShapes Go.ChangeAt Go.ChangeMaps Go.RowKit
theorem own : ownKnob Tryd.prog.godebug = none := by kernel_rfl
theorem laidOut : laidOutB Tryd.prog = true := by kernel_rfl
theorem cells3 : Tryd.prog.cellsOf 3 = 1 := by kernel_rfl
theorem cells4 : Tryd.prog.cellsOf 4 = 1 := by kernel_rfl
theorem cells9 : Tryd.prog.cellsOf 9 = 1 := by kernel_rfl
theorem g_et : Tryd.prog.globalNamed "errors.errorType" = some 0 := by kernel_rfl
theorem one_row : ((List.range 226).filter fun t => Tryd.prog.rowNamed t [101, 114, 114, 111, 114]) = [34] := by kernel_rfl
theorem n_types : Tryd.prog.types.size = 226 := by kernel_rfl
def laidB : List (String × DataW Unit) := Rows.deviceCountsRow.laid
/-- What the row's condition gives the walk: the one variable that a run reads. -/
theorem of_laid {W : World} (h : laidMetH Tryd.prog laidB W) : EB W := by
  have h' : laidMet Tryd.prog [] W ∧ handlesMet Tryd.prog laidB W := h
  obtain ⟨name, u, ty, e1, e2, e3, e4, e5⟩ := h'.2 _ (List.mem_singleton.2 rfl)
  have en : name = [101, 114, 114, 111, 114] := (Option.some.inj e1).symm
  subst en
  obtain rfl : 183 = u := Option.some.inj (Eq.trans (Eq.symm (by kernel_rfl)) e2)
  have hm : ty ∈ (List.range 226).filter fun t => Tryd.prog.rowNamed t [101, 114, 114, 111, 114] := List.mem_filter.2 ⟨List.mem_range.2 (by rw [← n_types]; exact e3), e4⟩
  rw [one_row] at hm
  obtain rfl := List.mem_singleton.1 hm
  have hh : typeHandle Tryd.prog 34 = hnd 34 := by kernel_rfl
  rw [hh] at e5
  simpa [EB] using World.var?_cell g_et e5 0
section
variable {H : Type} {enc : TypeId × Value → H} {P : Program} {w : World} {base : Nat} {sp : Nat → Bool} {held : Bool}
/-- A slice that can be read: the cells of each element. -/
theorem slice_open {t e : TypeId} {fuel : Nat} {a0 : Option Addr} {len cap : Nat} {x : DataW H × List MemPlace} (ht : P.underlying t = some (.slice e)) (hp : 0 < P.cellsOf e) (h : DataW.trod enc P w base sp held fuel t [.slice a0 len cap] = some x) :
    len ≤ maxLen ∧ ∀ i, i < len → ∃ a cs n y, a0 = some a ∧ a.spot = none ∧ w.cells? base (a.add (i * P.cellsOf e)) (P.cellsOf e) = some cs ∧ DataW.trod enc P w base sp held n e cs = some y := by
  rcases DataW.trod_slice ht h with ⟨h0, _⟩ | ⟨a, len', cap', elems, rest, n, _, hcs, rfl, hb, hl, hm, hlen, hel, hsp, hns⟩
  · simp at h0
    obtain ⟨rfl, rfl, rfl⟩ := h0
    exact ⟨Nat.zero_le _, fun i hi => absurd hi (Nat.not_lt_zero _)⟩
  · simp at hcs
    obtain ⟨rfl, rfl, rfl⟩ := hcs
    refine ⟨Nat.le_trans hl hm, fun i hi => ?_⟩
    have hE := hel i hi
    rw [List.getElem?_eq_getElem (by omega), Option.bind_eq_some_iff] at hE
    obtain ⟨cs, h1, h2⟩ := hE
    have hE0 := hel 0 (by omega)
    rw [List.getElem?_eq_getElem (by omega), Option.bind_eq_some_iff] at hE0
    obtain ⟨cs0, h3, _⟩ := hE0
    obtain ⟨_, hl0, hc0⟩ := World.cells?_some h3
    have hc1 := hc0 0 hp
    rw [List.getElem?_eq_getElem (by omega)] at hc1
    have hs := World.cell?_spot hc1
    simp [Addr.add] at hs
    exact ⟨a, cs, n, _, rfl, hs, h1, h2⟩
end
theorem list_of {α : Type} (p : Nat → α → Prop) : ∀ n : Nat, (∀ i, i < n → ∃ x, p i x) → ∃ l : List α, l.length = n ∧ ∀ i x, l[i]? = some x → p i x
  | 0, _ => ⟨[], rfl, fun i x h => by simp at h⟩
  | n + 1, h => by
    obtain ⟨l, h1, h2⟩ := list_of p n (fun i hi => h i (by omega))
    obtain ⟨x, hx⟩ := h n (by omega)
    refine ⟨l ++ [x], by simp [h1], fun i y hy => ?_⟩
    by_cases hi : i < n
    · rw [List.getElem?_append_left (by omega)] at hy; exact h2 i y hy
    · have : i = n := by
        have := (List.getElem?_eq_some_iff.1 hy).1
        simp [h1] at this; omega
      subst this
      rw [List.getElem?_append_right (by omega), h1, Nat.sub_self] at hy
      simp at hy; subst hy; exact hx
/-- A slice of bools reads as ks. -/
def Bools (w : World) (a : Option Addr) (ks : List Bool) : Prop := ∀ i x, ks[i]? = some x → ∃ g o, a = some ⟨g, o, none⟩ ∧ g < w.heap.size ∧ w.cell? ⟨g, o + i, none⟩ = some (.bool x)
section
variable {H : Type} {enc : TypeId × Value → H} {w : World} {base : Nat} {sp : Nat → Bool} {held : Bool} {fuel : Nat} {a0 : Option Addr} {len cap : Nat} {x : DataW H × List MemPlace}
theorem one_cell {P : Program} {e : TypeId} {a : Addr} {i : Nat} {cs : List Value} (hc : P.cellsOf e = 1) (h : w.cells? base (a.add (i * P.cellsOf e)) (P.cellsOf e) = some cs) (v : Value) (hv : cs = [v]) (hs : a.spot = none) : ∃ g o, a = ⟨g, o, none⟩ ∧ g < w.heap.size ∧ w.cell? ⟨g, o + i, none⟩ = some v := by
  subst hv
  rw [hc, Nat.mul_one] at h
  have h1 := cell_of_cells?_one h
  obtain ⟨b, off, spot⟩ := a
  obtain rfl : spot = none := hs
  rw [addr_addO] at h1
  exact ⟨b, off, rfl, World.block_lt_of_cell? w _ h1, h1⟩
theorem ints_open (h : DataW.trod enc Tryd.prog w base sp held fuel 41 [.slice a0 len cap] = some x) : ∃ zs : List Int, zs.length = len ∧ len ≤ maxLen ∧ Ints w a0 zs ∧ ∀ z ∈ zs, -9223372036854775808 ≤ z ∧ z ≤ 9223372036854775807 := by
  obtain ⟨hl, hc⟩ := slice_open Tryd.underlying41 (by rw [cells3]; decide) h
  obtain ⟨zs, h1, h2⟩ := list_of (fun i (z : Int) => (∃ g o, a0 = some ⟨g, o, none⟩ ∧ g < w.heap.size ∧ w.cell? ⟨g, o + i, none⟩ = some (.int .i64 z)) ∧ -9223372036854775808 ≤ z ∧ z ≤ 9223372036854775807) len (fun i hi => by
    obtain ⟨a, cs, n, y, rfl, hsp, h3, h4⟩ := hc i hi
    obtain ⟨m, rfl, _, hw⟩ := DataW.trod_int Tryd.underlying3 h4
    obtain ⟨g, o, rfl, h5, h6⟩ := one_cell cells3 h3 _ rfl hsp
    exact ⟨m, ⟨g, o, rfl, h5, h6⟩, by simpa [Lit.wf, IntKind.min, IntKind.max, IntKind.signed, IntKind.bits] using hw⟩)
  refine ⟨zs, h1, hl, fun i z hz => (h2 i z hz).1, fun z hz => ?_⟩
  obtain ⟨i, hi⟩ := List.getElem?_of_mem hz
  exact (h2 i z hi).2
theorem bools_open (h : DataW.trod enc Tryd.prog w base sp held fuel 54 [.slice a0 len cap] = some x) : ∃ ks : List Bool, ks.length = len ∧ len ≤ maxLen ∧ Bools w a0 ks := by
  obtain ⟨hl, hc⟩ := slice_open Tryd.underlying54 (by rw [cells4]; decide) h
  obtain ⟨ks, h1, h2⟩ := list_of (fun i (z : Bool) => ∃ g o, a0 = some ⟨g, o, none⟩ ∧ g < w.heap.size ∧ w.cell? ⟨g, o + i, none⟩ = some (.bool z)) len (fun i hi => by
    obtain ⟨a, cs, n, y, rfl, hsp, h3, h4⟩ := hc i hi
    obtain ⟨b, rfl, _⟩ := DataW.trod_bool Tryd.underlying4 h4
    obtain ⟨g, o, rfl, h5, h6⟩ := one_cell cells4 h3 _ rfl hsp
    exact ⟨b, g, o, rfl, h5, h6⟩)
  exact ⟨ks, h1, hl, h2⟩
theorem texts_open (h : DataW.trod enc Tryd.prog w base sp held fuel 22 [.slice a0 len cap] = some x) : ∃ ls : List ByteArray, ls.length = len ∧ len ≤ maxLen ∧ Texts w (fun _ => False) a0 ls ∧ ∀ s ∈ ls, s.size ≤ maxLen := by
  obtain ⟨hl, hc⟩ := slice_open Tryd.underlying22 (by rw [cells9]; decide) h
  obtain ⟨ls, h1, h2⟩ := list_of (fun i (s : ByteArray) => (∃ g o, a0 = some ⟨g, o, none⟩ ∧ g < w.heap.size ∧ ¬ False ∧ w.cell? ⟨g, o + i, none⟩ = some (.string s)) ∧ s.size ≤ maxLen) len (fun i hi => by
    obtain ⟨a, cs, n, y, rfl, hsp, h3, h4⟩ := hc i hi
    obtain ⟨s, rfl, _, hs⟩ := DataW.trod_string Tryd.underlying9 h4
    obtain ⟨g, o, rfl, h5, h6⟩ := one_cell cells9 h3 _ rfl hsp
    exact ⟨s, ⟨g, o, rfl, h5, id, h6⟩, hs⟩)
  refine ⟨ls, h1, hl, fun i z hz => (h2 i z hz).1, fun z hz => ?_⟩
  obtain ⟨i, hi⟩ := List.getElem?_of_mem hz
  exact (h2 i z hi).2
end
end Go.Proofs.YtccnnfllgdplhaaDoor
