/-
  Part of the proof: NearFinds, whatever it is asked.
  Part of the proof: what a row's condition says of slices of ints and of items.
  'coffer/cofferlaw.NearFinds' returns true at every input, and each argument reads behind the call as it read before: the row's statement 'Rows.NearFindsSaid', under its own condition alone (the one listed variable reads as listed when the call begins).
-/
import Derived.Test.YtamalmgfhpneaaaDoorB25
import Derived.Test.YtamalmgfhpneaaaDoorB09
import Derived.Test.YtamalmgfhpneaaaDoorRows
import Derived.ProofKit
import Derived.OpenShut
import Derived.MakeChecks
import Derived.Lib.SmallJoins
import Derived.Deep.Strs
import Derived.SliceStrings
import Derived.LaidLaws
import Derived.LaidHandle
import Derived.Stop.Joined
import Derived.Stop.LaidErr
namespace Go.Proofs.YtamalmgfhpneaaaDoor.Nf
open Go.RowKit
open It Nr Ce
theorem long_no (s : ByteArray) (h : s.size ≤ 60) (W : World) : Calls Tryd.prog 6 #[.string s] W fun e w' => e = .returned (.bool false) ∧ w' = W := by
  have := long_any s W (by unfold maxLen; omega)
  rwa [decide_eq_false (by omega)] at this
theorem long_yes (s : ByteArray) (hl : s.size ≤ maxLen) (h : ¬ s.size ≤ 60) (W : World) : Calls Tryd.prog 6 #[.string s] W fun e w' => e = .returned (.bool true) ∧ w' = W := by
  have := long_any s W hl
  rwa [decide_eq_true (by omega)] at this
set_option maxRecDepth 100000 in
theorem near_out0 (dim : Int) (a : Option Addr) (c : Nat) (ds : List ItD) (b : Option Addr) (d : Nat) (ys : List Int) (k : Int) (tag xn yn : ByteArray) (xf yf : Int) (w : World) (h : Its w a ds) (hl : ds.length ≤ maxLen) (h12 : ¬ ys.length ≤ 12) :
    Calls Tryd.prog 3 #[.int .i64 dim, .slice a ds.length c, .slice b ys.length d, .int .i64 k, .string tag, .agg #[.string xn, .int .i64 xf], .agg #[.string yn, .int .i64 yf]] w fun e w' => e = .returned (.bool true) ∧ Below w.heap.size w w' := by
  have hyl' : (12 : Int) < (ys.length : Int) := by omega
  have a1 := below_alloc w (.cells #[.string xn, .int .i64 xf] 25)
  have a2 := below_alloc (w.alloc (.cells #[.string xn, .int .i64 xf] 25)) (.cells #[.string yn, .int .i64 yf] 25)
  have jx0 : Blk (w.alloc (.cells #[.string xn, .int .i64 xf] 25)) w.heap.size #[.string xn, .int .i64 xf] 25 := Blk.new w _ _
  have jx := jx0.below a2 jx0.lt
  have jy : Blk ((w.alloc (.cells #[.string xn, .int .i64 xf] 25)).alloc (.cells #[.string yn, .int .i64 yf] 25)) (w.heap.size + 1) #[.string yn, .int .i64 yf] 25 := Blk.new' _ _ _ (by simp)
  have b0 := a1.trans (a2.mono a1.size)
  obtain ⟨W, hW⟩ : ∃ W, (w.alloc (.cells #[.string xn, .int .i64 xf] 25)).alloc (.cells #[.string yn, .int .i64 yf] 25) = W := ⟨_, rfl⟩
  rw [hW] at b0 jx jy
  have HW : Hid _ := hW
  have H1 : Hid _ := short_any a c ds W (h.below b0) hl
  have hx0 := jx.cell 0
  have hx1 := jx.cell 1
  have hy0 := jy.cell 0
  have hy1 := jy.cell 1
  clear a1 a2 jx0 jx jy h hW h12
  go_enter Tryd.func3, Tryd.ntmps3
  go_wp2_with fail
  rw [HW.out]
  refine Calls.mono H1.out ?_
  rintro e w' ⟨⟨sh, rfl, hsh⟩, hw'⟩
  obtain rfl : W = w' := hw'.symm
  clear hw' H1 HW hsh
  cases sh with
  | false =>
    go_wp2_with fail
    go_ret
    exact ⟨rfl, b0⟩
  | true =>
    go_wp2_with fail
    go_ret
    exact ⟨rfl, b0⟩
set_option maxRecDepth 100000 in
theorem near_out1 (dim : Int) (a : Option Addr) (c : Nat) (ds : List ItD) (b : Option Addr) (d : Nat) (ys : List Int) (k : Int) (tag xn yn : ByteArray) (xf yf : Int) (w : World) (h : Its w a ds) (hl : ds.length ≤ maxLen) (h12 : ys.length ≤ 12) (ht : ¬ tag.size ≤ 60) (hs1 : tag.size ≤ maxLen) :
    Calls Tryd.prog 3 #[.int .i64 dim, .slice a ds.length c, .slice b ys.length d, .int .i64 k, .string tag, .agg #[.string xn, .int .i64 xf], .agg #[.string yn, .int .i64 yf]] w fun e w' => e = .returned (.bool true) ∧ Below w.heap.size w w' := by
  have hyl' : ¬ (12 : Int) < (ys.length : Int) := by omega
  have a1 := below_alloc w (.cells #[.string xn, .int .i64 xf] 25)
  have a2 := below_alloc (w.alloc (.cells #[.string xn, .int .i64 xf] 25)) (.cells #[.string yn, .int .i64 yf] 25)
  have jx0 : Blk (w.alloc (.cells #[.string xn, .int .i64 xf] 25)) w.heap.size #[.string xn, .int .i64 xf] 25 := Blk.new w _ _
  have jx := jx0.below a2 jx0.lt
  have jy : Blk ((w.alloc (.cells #[.string xn, .int .i64 xf] 25)).alloc (.cells #[.string yn, .int .i64 yf] 25)) (w.heap.size + 1) #[.string yn, .int .i64 yf] 25 := Blk.new' _ _ _ (by simp)
  have b0 := a1.trans (a2.mono a1.size)
  obtain ⟨W, hW⟩ : ∃ W, (w.alloc (.cells #[.string xn, .int .i64 xf] 25)).alloc (.cells #[.string yn, .int .i64 yf] 25) = W := ⟨_, rfl⟩
  rw [hW] at b0 jx jy
  have HW : Hid _ := hW
  have H1 : Hid _ := short_any a c ds W (h.below b0) hl
  have HL1 : Hid _ := long_yes tag hs1 ht W
  have hx0 := jx.cell 0
  have hx1 := jx.cell 1
  have hy0 := jy.cell 0
  have hy1 := jy.cell 1
  clear a1 a2 jx0 jx jy h hW h12 ht hs1
  go_enter Tryd.func3, Tryd.ntmps3
  go_wp2_with fail
  rw [HW.out]
  refine Calls.mono H1.out ?_
  rintro e w' ⟨⟨sh, rfl, hsh⟩, hw'⟩
  obtain rfl : W = w' := hw'.symm
  clear hw' H1 HW hsh
  cases sh with
  | false =>
    go_wp2_with fail
    go_ret
    exact ⟨rfl, b0⟩
  | true =>
    go_wp2_with fail
    refine Calls.mono HL1.out ?_
    rintro e w' ⟨rfl, hw'⟩
    obtain rfl : W = w' := hw'.symm
    clear hw' HL1
    go_wp2_with fail
    go_ret
    exact ⟨rfl, b0⟩
set_option maxRecDepth 100000 in
theorem near_out2 (dim : Int) (a : Option Addr) (c : Nat) (ds : List ItD) (b : Option Addr) (d : Nat) (ys : List Int) (k : Int) (tag xn yn : ByteArray) (xf yf : Int) (w : World) (h : Its w a ds) (hl : ds.length ≤ maxLen) (h12 : ys.length ≤ 12) (ht : tag.size ≤ 60) (hx : ¬ xn.size ≤ 60) (hs2 : xn.size ≤ maxLen) :
    Calls Tryd.prog 3 #[.int .i64 dim, .slice a ds.length c, .slice b ys.length d, .int .i64 k, .string tag, .agg #[.string xn, .int .i64 xf], .agg #[.string yn, .int .i64 yf]] w fun e w' => e = .returned (.bool true) ∧ Below w.heap.size w w' := by
  have hyl' : ¬ (12 : Int) < (ys.length : Int) := by omega
  have a1 := below_alloc w (.cells #[.string xn, .int .i64 xf] 25)
  have a2 := below_alloc (w.alloc (.cells #[.string xn, .int .i64 xf] 25)) (.cells #[.string yn, .int .i64 yf] 25)
  have jx0 : Blk (w.alloc (.cells #[.string xn, .int .i64 xf] 25)) w.heap.size #[.string xn, .int .i64 xf] 25 := Blk.new w _ _
  have jx := jx0.below a2 jx0.lt
  have jy : Blk ((w.alloc (.cells #[.string xn, .int .i64 xf] 25)).alloc (.cells #[.string yn, .int .i64 yf] 25)) (w.heap.size + 1) #[.string yn, .int .i64 yf] 25 := Blk.new' _ _ _ (by simp)
  have b0 := a1.trans (a2.mono a1.size)
  obtain ⟨W, hW⟩ : ∃ W, (w.alloc (.cells #[.string xn, .int .i64 xf] 25)).alloc (.cells #[.string yn, .int .i64 yf] 25) = W := ⟨_, rfl⟩
  rw [hW] at b0 jx jy
  have HW : Hid _ := hW
  have H1 : Hid _ := short_any a c ds W (h.below b0) hl
  have HL1 : Hid _ := long_no tag ht W
  have HL2 : Hid _ := long_yes xn hs2 hx W
  have hx0 := jx.cell 0
  have hx1 := jx.cell 1
  have hy0 := jy.cell 0
  have hy1 := jy.cell 1
  clear a1 a2 jx0 jx jy h hW h12 ht hx hs2
  go_enter Tryd.func3, Tryd.ntmps3
  go_wp2_with fail
  rw [HW.out]
  refine Calls.mono H1.out ?_
  rintro e w' ⟨⟨sh, rfl, hsh⟩, hw'⟩
  obtain rfl : W = w' := hw'.symm
  clear hw' H1 HW hsh
  cases sh with
  | false =>
    go_wp2_with fail
    go_ret
    exact ⟨rfl, b0⟩
  | true =>
    go_wp2_with fail
    refine Calls.mono HL1.out ?_
    rintro e w' ⟨rfl, hw'⟩
    obtain rfl : W = w' := hw'.symm
    clear hw' HL1
    go_wp2_with fail
    refine Calls.mono HL2.out ?_
    rintro e w' ⟨rfl, hw'⟩
    obtain rfl : W = w' := hw'.symm
    clear hw' HL2
    go_wp2_with fail
    go_ret
    exact ⟨rfl, b0⟩
set_option maxRecDepth 100000 in
theorem near_out3 (dim : Int) (a : Option Addr) (c : Nat) (ds : List ItD) (b : Option Addr) (d : Nat) (ys : List Int) (k : Int) (tag xn yn : ByteArray) (xf yf : Int) (w : World) (h : Its w a ds) (hl : ds.length ≤ maxLen) (h12 : ys.length ≤ 12) (ht : tag.size ≤ 60) (hx : xn.size ≤ 60) (hz : ¬ yn.size ≤ 60) (hs3 : yn.size ≤ maxLen) :
    Calls Tryd.prog 3 #[.int .i64 dim, .slice a ds.length c, .slice b ys.length d, .int .i64 k, .string tag, .agg #[.string xn, .int .i64 xf], .agg #[.string yn, .int .i64 yf]] w fun e w' => e = .returned (.bool true) ∧ Below w.heap.size w w' := by
  have hyl' : ¬ (12 : Int) < (ys.length : Int) := by omega
  have a1 := below_alloc w (.cells #[.string xn, .int .i64 xf] 25)
  have a2 := below_alloc (w.alloc (.cells #[.string xn, .int .i64 xf] 25)) (.cells #[.string yn, .int .i64 yf] 25)
  have jx0 : Blk (w.alloc (.cells #[.string xn, .int .i64 xf] 25)) w.heap.size #[.string xn, .int .i64 xf] 25 := Blk.new w _ _
  have jx := jx0.below a2 jx0.lt
  have jy : Blk ((w.alloc (.cells #[.string xn, .int .i64 xf] 25)).alloc (.cells #[.string yn, .int .i64 yf] 25)) (w.heap.size + 1) #[.string yn, .int .i64 yf] 25 := Blk.new' _ _ _ (by simp)
  have b0 := a1.trans (a2.mono a1.size)
  obtain ⟨W, hW⟩ : ∃ W, (w.alloc (.cells #[.string xn, .int .i64 xf] 25)).alloc (.cells #[.string yn, .int .i64 yf] 25) = W := ⟨_, rfl⟩
  rw [hW] at b0 jx jy
  have HW : Hid _ := hW
  have H1 : Hid _ := short_any a c ds W (h.below b0) hl
  have HL1 : Hid _ := long_no tag ht W
  have HL2 : Hid _ := long_no xn hx W
  have HL3 : Hid _ := long_yes yn hs3 hz W
  have hx0 := jx.cell 0
  have hx1 := jx.cell 1
  have hy0 := jy.cell 0
  have hy1 := jy.cell 1
  clear a1 a2 jx0 jx jy h hW h12 ht hx hz hs3
  go_enter Tryd.func3, Tryd.ntmps3
  go_wp2_with fail
  rw [HW.out]
  refine Calls.mono H1.out ?_
  rintro e w' ⟨⟨sh, rfl, hsh⟩, hw'⟩
  obtain rfl : W = w' := hw'.symm
  clear hw' H1 HW hsh
  cases sh with
  | false =>
    go_wp2_with fail
    go_ret
    exact ⟨rfl, b0⟩
  | true =>
    go_wp2_with fail
    refine Calls.mono HL1.out ?_
    rintro e w' ⟨rfl, hw'⟩
    obtain rfl : W = w' := hw'.symm
    clear hw' HL1
    go_wp2_with fail
    refine Calls.mono HL2.out ?_
    rintro e w' ⟨rfl, hw'⟩
    obtain rfl : W = w' := hw'.symm
    clear hw' HL2
    go_wp2_with fail
    refine Calls.mono HL3.out ?_
    rintro e w' ⟨rfl, hw'⟩
    obtain rfl : W = w' := hw'.symm
    clear hw' HL3
    go_wp2_with fail
    go_ret
    exact ⟨rfl, b0⟩
theorem near_any (dim : Int) (a : Option Addr) (c : Nat) (ds : List ItD) (b : Option Addr) (d : Nat) (ys : List Int) (k : Int) (tag xn yn : ByteArray) (xf yf : Int) (w : World) (hE : EB w) (h : Its w a ds) (hl : ds.length ≤ maxLen) (hy : Ints w b ys) (hs1 : tag.size ≤ maxLen) (hs2 : xn.size ≤ maxLen) (hs3 : yn.size ≤ maxLen) :
    Calls Tryd.prog 3 #[.int .i64 dim, .slice a ds.length c, .slice b ys.length d, .int .i64 k, .string tag, .agg #[.string xn, .int .i64 xf], .agg #[.string yn, .int .i64 yf]] w fun e w' => e = .returned (.bool true) ∧ Below w.heap.size w w' := by
  by_cases h12 : ys.length ≤ 12
  · by_cases t1 : tag.size ≤ 60
    · by_cases t2 : xn.size ≤ 60
      · by_cases t3 : yn.size ≤ 60
        · exact near_main dim a c ds b d ys k tag xn yn xf yf w hE h hl hy h12 t1 t2 t3
        · exact near_out3 dim a c ds b d ys k tag xn yn xf yf w h hl h12 t1 t2 t3 hs3
      · exact near_out2 dim a c ds b d ys k tag xn yn xf yf w h hl h12 t1 t2 hs2
    · exact near_out1 dim a c ds b d ys k tag xn yn xf yf w h hl h12 t1 hs1
  · exact near_out0 dim a c ds b d ys k tag xn yn xf yf w h hl h12
end Go.Proofs.YtamalmgfhpneaaaDoor.Nf
namespace Go.Proofs.YtamalmgfhpneaaaDoor.Nr
open Go.ChangeShapes Go.WideShapes Go.ChangeAt Go.ChangeMaps Go.RowKit
open It
theorem own : ownKnob Tryd.prog.godebug = none := by kernel_rfl
theorem laidOut : laidOutB Tryd.prog = true := by kernel_rfl
theorem cells3 : Tryd.prog.cellsOf 3 = 1 := by kernel_rfl
theorem cells9 : Tryd.prog.cellsOf 9 = 1 := by kernel_rfl
theorem cellsIt : Tryd.prog.cellsOf 43 = 3 := by kernel_rfl
theorem cellsIs : Tryd.prog.cellsOf 23 = 1 := by kernel_rfl
section
variable {H : Type} {enc : TypeId × Value → H} {P : Program} {w : World} {base : Nat} {sp : Nat → Bool} {held : Bool}
/-- A slice that can be read: the cells of each element. -/
theorem slice_open {t e : TypeId} {fuel : Nat} {a0 : Option Addr} {len cap : Nat} {x : DataW H × List MemPlace} (ht : P.underlying t = some (.slice e)) (hp : 0 < P.cellsOf e) (h : DataW.trod enc P w base sp held fuel t [.slice a0 len cap] = some x) :
    len ≤ maxLen ∧ len ≤ cap ∧ ∀ i, i < len → ∃ a cs n y, a0 = some a ∧ a.spot = none ∧ w.cells? base (a.add (i * P.cellsOf e)) (P.cellsOf e) = some cs ∧ DataW.trod enc P w base sp held n e cs = some y := by
  rcases DataW.trod_slice ht h with ⟨h0, _⟩ | ⟨a, len', cap', elems, rest, n, _, hcs, rfl, hb, hl, hm, hlen, hel, hsp, hns⟩
  · simp at h0
    obtain ⟨rfl, rfl, rfl⟩ := h0
    exact ⟨Nat.zero_le _, Nat.zero_le _, fun i hi => absurd hi (Nat.not_lt_zero _)⟩
  · simp at hcs
    obtain ⟨rfl, rfl, rfl⟩ := hcs
    refine ⟨Nat.le_trans hl hm, hl, fun i hi => ?_⟩
    have hE := hel i hi
    rw [List.getElem?_eq_getElem (by omega), Option.bind_eq_some_iff] at hE
    obtain ⟨cs, h1, h2⟩ := hE
    have hE0 := hel 0 (by omega)
    rw [List.getElem?_eq_getElem (by omega), Option.bind_eq_some_iff] at hE0
    obtain ⟨cs0, h3, _⟩ := hE0
    obtain ⟨_, hl0, hc0⟩ := World.cells?_some h3
    have hc1 := hc0 0 hp
    rw [List.getElem?_eq_getElem (by omega)] at hc1
    have hs := World.cell?_spot hc1
    simp [Addr.add] at hs
    exact ⟨a, cs, n, _, rfl, hs, h1, h2⟩
end
theorem list_of {α : Type} (p : Nat → α → Prop) : ∀ n : Nat, (∀ i, i < n → ∃ x, p i x) → ∃ l : List α, l.length = n ∧ ∀ i x, l[i]? = some x → p i x
  | 0, _ => ⟨[], rfl, fun i x h => by simp at h⟩
  | n + 1, h => by
    obtain ⟨l, h1, h2⟩ := list_of p n (fun i hi => h i (by omega))
    obtain ⟨x, hx⟩ := h n (by omega)
    refine ⟨l ++ [x], by simp [h1], fun i y hy => ?_⟩
    by_cases hi : i < n
    · rw [List.getElem?_append_left (by omega)] at hy; exact h2 i y hy
    · have : i = n := by
        have := (List.getElem?_eq_some_iff.1 hy).1
        simp [h1] at this; omega
      subst this
      rw [List.getElem?_append_right (by omega), h1, Nat.sub_self] at hy
      simp at hy; subst hy; exact hx
section
variable {H : Type} {enc : TypeId × Value → H} {w : World} {base : Nat} {sp : Nat → Bool} {held : Bool} {fuel : Nat} {a0 : Option Addr} {len cap : Nat} {x : DataW H × List MemPlace}
theorem one_cell {P : Program} {e : TypeId} {a : Addr} {i : Nat} {cs : List Value} (hc : P.cellsOf e = 1) (h : w.cells? base (a.add (i * P.cellsOf e)) (P.cellsOf e) = some cs) (v : Value) (hv : cs = [v]) (hs : a.spot = none) : ∃ g o, a = ⟨g, o, none⟩ ∧ w.cell? ⟨g, o + i, none⟩ = some v := by
  subst hv
  rw [hc, Nat.mul_one] at h
  have h1 := cell_of_cells?_one h
  obtain ⟨b, off, spot⟩ := a
  obtain rfl : spot = none := hs
  rw [addr_addO] at h1
  exact ⟨b, off, rfl, h1⟩
theorem ints_open (h : DataW.trod enc Tryd.prog w base sp held fuel 23 [.slice a0 len cap] = some x) : ∃ zs : List Int, zs.length = len ∧ len ≤ maxLen ∧ len ≤ cap ∧ Ints w a0 zs := by
  obtain ⟨hl, hl2, hc⟩ := slice_open Tryd.underlying23 (by rw [cells3]; decide) h
  obtain ⟨zs, h1, h2⟩ := list_of (fun i (z : Int) => ∃ g o, a0 = some ⟨g, o, none⟩ ∧ w.cell? ⟨g, o + i, none⟩ = some (.int .i64 z)) len (fun i hi => by
    obtain ⟨a, cs, n, y, rfl, hsp, h3, h4⟩ := hc i hi
    obtain ⟨m, rfl, _, hw⟩ := DataW.trod_int Tryd.underlying3 h4
    obtain ⟨g, o, rfl, h6⟩ := one_cell cells3 h3 _ rfl hsp
    exact ⟨m, g, o, rfl, h6⟩)
  exact ⟨zs, h1, hl, hl2, h2⟩
theorem list3 {α : Type} {l : List α} (h : l.length = 3) : ∃ a b c, l = [a, b, c] := by
  match l, h with
  | [a, b, c], _ => exact ⟨a, b, c, rfl⟩
theorem item_open {fuel : Nat} {cs : List Value} {x : DataW H × List MemPlace} {a : Addr} (hs : a.spot = none) (hc : w.cells? base a 3 = some cs) (h : DataW.trod enc Tryd.prog w base sp held fuel 43 cs = some x) :
    ∃ d : ItD, w.cell? ⟨a.block, a.off, none⟩ = some (.string d.x.name) ∧ w.cell? ⟨a.block, a.off + 1, none⟩ = some (.string d.x.tag) ∧ w.cell? ⟨a.block, a.off + 2, none⟩ = some d.val ∧ d.Ok w := by
  obtain ⟨y0, y1, y2, n, _, hl, h0, h1, h2⟩ := Go.Deep.trod_struct3 Tryd.underlying43 h
  obtain ⟨_, hl3, hcell⟩ := World.cells?_some hc
  obtain ⟨v0, v1, v2, rfl⟩ : ∃ v0 v1 v2, cs = [v0, v1, v2] := list3 hl3
  obtain ⟨b, off, spot⟩ := a
  obtain rfl : spot = none := hs
  have k0 := hcell 0 (by decide)
  have k1 := hcell 1 (by decide)
  have k2 := hcell 2 (by decide)
  rw [addr_addO] at k0 k1 k2
  simp only [cells9, cellsIs, List.drop_succ_cons, List.drop_zero, List.take_succ_cons, List.take_zero] at h0 h1 h2
  obtain ⟨s, e0, _, hsz⟩ := DataW.trod_string Tryd.underlying9 h0
  obtain ⟨t, e1, _, htz⟩ := DataW.trod_string Tryd.underlying9 h1
  injection e0 with e0
  injection e1 with e1
  subst e0 e1
  obtain ⟨a3, l3, c3, rfl⟩ : ∃ a3 l3 c3, v2 = .slice a3 l3 c3 := by
    rcases DataW.trod_slice Tryd.underlying23 h2 with ⟨e, _⟩ | ⟨a, len', cap', _, _, _, _, e, _⟩
    · injection e with e; exact ⟨_, _, _, e⟩
    · injection e with e; exact ⟨_, _, _, e⟩
  obtain ⟨zs, rfl, hz1, hz2, hI⟩ := ints_open h2
  exact ⟨⟨⟨s, t, zs⟩, a3, c3⟩, k0, k1, k2, hI, hz1, hsz, htz, hz2⟩
theorem items_open (h : DataW.trod enc Tryd.prog w base sp held fuel 22 [.slice a0 len cap] = some x) : ∃ ds : List ItD, ds.length = len ∧ len ≤ maxLen ∧ len ≤ cap ∧ Its w a0 ds := by
  obtain ⟨hl, hl2, hc⟩ := slice_open Tryd.underlying22 (by rw [cellsIt]; decide) h
  obtain ⟨l, h1, h2⟩ := list_of (fun i (d : ItD) => ∃ g o, a0 = some ⟨g, o, none⟩ ∧ w.cell? ⟨g, o + i * 3, none⟩ = some (.string d.x.name) ∧ w.cell? ⟨g, o + i * 3 + 1, none⟩ = some (.string d.x.tag) ∧ w.cell? ⟨g, o + i * 3 + 2, none⟩ = some d.val ∧ d.Ok w) len (fun i hi => by
    obtain ⟨a, cs, n, y, rfl, hsp, h3, h4⟩ := hc i hi
    rw [cellsIt] at h3
    obtain ⟨b, off, spot⟩ := a
    obtain rfl : spot = none := hsp
    rw [addr_addO] at h3
    obtain ⟨d, q0, q1, q2, q3⟩ := item_open (a := ⟨b, off + i * 3, none⟩) rfl h3 h4
    exact ⟨d, b, off, rfl, q0, q1, q2, q3⟩)
  exact ⟨l, h1, hl, hl2, h2⟩
end
end Go.Proofs.YtamalmgfhpneaaaDoor.Nr
namespace Go.Proofs.YtamalmgfhpneaaaDoor.Nf
open Go.ChangeShapes Go.WideShapes Go.ChangeAt Go.ChangeMaps Go.RowKit
open It Nr Ce
theorem g_et : Tryd.prog.globalNamed "errors.errorType" = some 0 := by kernel_rfl
theorem one_row : ((List.range 183).filter fun t => Tryd.prog.rowNamed t [101, 114, 114, 111, 114]) = [36] := by kernel_rfl
theorem n_types : Tryd.prog.types.size = 183 := by kernel_rfl
def laidB : List (String × DataW Unit) := Rows.nearFindsRow.laid
/-- What the row's condition gives the walk: the one variable that a run reads. -/
theorem of_laid {W : World} (h : laidMetH Tryd.prog laidB W) : EB W := by
  have h' : laidMet Tryd.prog [] W ∧ handlesMet Tryd.prog laidB W := h
  obtain ⟨name, u, ty, e1, e2, e3, e4, e5⟩ := h'.2 _ (List.mem_singleton.2 rfl)
  have en : name = [101, 114, 114, 111, 114] := (Option.some.inj e1).symm
  subst en
  obtain rfl : 132 = u := Option.some.inj (Eq.trans (Eq.symm (by kernel_rfl)) e2)
  have hm : ty ∈ (List.range 183).filter fun t => Tryd.prog.rowNamed t [101, 114, 114, 111, 114] := List.mem_filter.2 ⟨List.mem_range.2 (by rw [← n_types]; exact e3), e4⟩
  rw [one_row] at hm
  obtain rfl := List.mem_singleton.1 hm
  have hh : typeHandle Tryd.prog 36 = hnd 36 := by kernel_rfl
  rw [hh] at e5
  simpa [EB] using World.var?_cell g_et e5 0
theorem cellsF : Tryd.prog.cellsOf 25 = 2 := by kernel_rfl
theorem cells3 : Tryd.prog.cellsOf 3 = 1 := by kernel_rfl
theorem cells9 : Tryd.prog.cellsOf 9 = 1 := by kernel_rfl
/-- What is found, handed in by value: its cells. -/
theorem found_open {H : Type} {enc : TypeId × Value → H} {w : World} {base : Nat} {sp : Nat → Bool} {held : Bool} {fuel : Nat} {cs : Array Value} {x : DataW H × List MemPlace} (hc : cs.size = 2) (h : DataW.trod enc Tryd.prog w base sp held fuel 25 cs.toList = some x) :
    ∃ s n, cs = #[.string s, .int .i64 n] ∧ s.size ≤ maxLen := by
  obtain ⟨y0, y1, n, _, hl, h0, h1⟩ := trod_struct2 Tryd.underlying25 h
  simp only [cells3, cells9] at h0 h1
  obtain ⟨s, e0, _, hs⟩ := DataW.trod_string Tryd.underlying9 h0
  obtain ⟨f, e1, _, _⟩ := DataW.trod_int Tryd.underlying3 h1
  refine ⟨s, f, ?_, hs⟩
  obtain ⟨l⟩ := cs
  match l, hc with
  | [u, v], _ =>
    have h2 : [u] = [.string s] := by simpa using e0
    have h3 : [v] = [.int .i64 f] := by simpa using e1
    rw [List.cons.inj h2 |>.1, List.cons.inj h3 |>.1]
set_option maxRecDepth 100000 in
theorem near_lifted (os : Os) (started : os.Started) (H : Type) (enc : TypeId × Value → H) :
    ReturnsInHanded {} Tryd.checked os 3 .any (fun w args => (Rows.nearFindsSpec.pre enc Tryd.prog Tryd.f3 [] false w args ∧ laidMetH Tryd.prog laidB w) ∧ sizedMet enc Tryd.prog Tryd.f3 (OpenSpec.ofChange Rows.nearFindsSpec) false w args)
      (Rows.nearFindsSpec.post enc Tryd.prog Tryd.f3 false true false false) := by
  refine returnsInHanded_of_change_and (C := Tryd.checked) (X := fun w _ => laidMetH Tryd.prog laidB w) (fun _ _ _ hh h => h.of_heap hh) own started (by kernel_rfl) Tryd.func3
    (ChangeSpec.witness_at (enc := enc) (C := Tryd.checked) (os := os) (X := fun w _ => laidMetH Tryd.prog laidB w) false ((World.holding Tryd.prog os ⟨#[], #[], []⟩).setCell ⟨0, 0, none⟩ (.iface 132 (.agg #[hnd 36]))) #[.int .i64 0, .slice none 0 0, .slice none 0 0, .int .i64 0, .string ⟨#[]⟩, .agg #[.string ⟨#[]⟩, .int .i64 0], .agg #[.string ⟨#[]⟩, .int .i64 0]] 8 rfl
      (by kernel_rfl) (by kernel_rfl) (by kernel_rfl) (by kernel_rfl) (by kernel_rfl) (laidMetH_of_parts (laidMet_nil _ _) (by kernel_rfl))) ?_
  intro W base args ds gs before hval0 hW _ _ hL _
  have hval : ∀ (j : Nat) t v, Tryd.f3.params[j]? = some t → args[j]? = some v → Value.okWide Tryd.prog W .any base t v := hval0
  have hW' := hW
  obtain ⟨p, q, hA0, hV, rfl, _, _⟩ := hW
  have hA : DataW.TrodAll enc Tryd.prog W 0 (fun _ => true) true Tryd.f3.params.toList args.toList ds p := hA0
  rw [Tryd.params3] at hA hval
  obtain ⟨v0, vs0, d0, ds0, p0, q0, hargs, rfl, rfl, h0, r0⟩ := trodAll_cons hA
  obtain ⟨v1, vs1, d1, ds1, p1, q1, rfl, rfl, rfl, h1, r1⟩ := trodAll_cons r0
  obtain ⟨v2, vs2, d2, ds2, p2, q2, rfl, rfl, rfl, h2, r2⟩ := trodAll_cons r1
  obtain ⟨v3, vs3, d3, ds3, p3, q3, rfl, rfl, rfl, h3, r3⟩ := trodAll_cons r2
  obtain ⟨v4, vs4, d4, ds4, p4, q4, rfl, rfl, rfl, h4, r4⟩ := trodAll_cons r3
  obtain ⟨v5, vs5, d5, ds5, p5, q5, rfl, rfl, rfl, h5, r5⟩ := trodAll_cons r4
  obtain ⟨v6, vs6, d6, ds6, p6, q6, rfl, rfl, rfl, h6, r6⟩ := trodAll_cons r5
  obtain ⟨rfl, rfl, rfl⟩ := trodAll_nil r6
  obtain rfl : args = #[v0, v1, v2, v3, v4, v5, v6] := by cases args; simp_all
  obtain ⟨rfl, rfl⟩ := trodVars_none hV
  obtain ⟨a0, rfl, rfl, rfl, w0⟩ := open_int Tryd.underlying3 (hval 0 3 v0 rfl rfl) h0
  obtain ⟨a1, len, cap, rfl⟩ := okWide_slice Tryd.underlying22 (hval 1 22 v1 rfl rfl)
  obtain ⟨a2, len1, cap1, rfl⟩ := okWide_slice Tryd.underlying23 (hval 2 23 v2 rfl rfl)
  obtain ⟨a3, rfl, rfl, rfl, w3⟩ := open_int Tryd.underlying3 (hval 3 3 v3 rfl rfl) h3
  obtain ⟨a4, rfl, rfl, rfl, w4⟩ := open_string Tryd.underlying9 (hval 4 9 v4 rfl rfl) h4
  obtain ⟨c5, rfl, hc5⟩ := okWide_struct Tryd.underlying25 (hval 5 25 v5 rfl rfl)
  obtain ⟨c6, rfl, hc6⟩ := okWide_struct Tryd.underlying25 (hval 6 25 v6 rfl rfl)
  clear hA0 hval0
  rw [cellsF] at hc5 hc6
  have h1k := h1
  have h2k := h2
  have h5k := h5
  have h6k := h6
  obtain ⟨fu1, hf1⟩ := h1
  obtain ⟨fu2, hf2⟩ := h2
  obtain ⟨fu5, hf5⟩ := h5
  obtain ⟨fu6, hf6⟩ := h6
  have hlt : ∀ x, x ∈ p1 ∨ x ∈ p2 ∨ x ∈ p5 ∨ x ∈ p6 → x.block < W.heap.size := fun x hx => by
    refine hW'.lt x ?_
    rcases hx with h | h | h | h <;> simp [h]
  obtain ⟨L, rfl, hm, _, hIts⟩ := items_open (w := W) (by simpa [Value.cells] using hf1)
  obtain ⟨ys, rfl, _, _, hInts⟩ := ints_open (w := W) (by simpa [Value.cells] using hf2)
  obtain ⟨xn, xf, rfl, s5⟩ := found_open (w := W) hc5 hf5
  obtain ⟨yn, yf, rfl, s6⟩ := found_open (w := W) hc6 hf6
  simp only [List.append_nil] at hW'
  refine (near_any a0 a1 cap L a2 cap1 ys a3 a4 xn yn xf yf W (of_laid hL) hIts hm hInts w4 s5 s6).mono fun e W' ⟨he, hb⟩ => ?_
  subst he
  refine ⟨_, rfl, _, _, _, [], [] ++ (p1 ++ (p2 ++ ([] ++ ([] ++ (p5 ++ (p6 ++ [])))))), [], hW', trodAll_mk1 (shut_bool Tryd.underlying4 _), ?_, rfl, hb.frame _, fun h => by cases h⟩
  exact trodAll_cons_mk (shut_int Tryd.underlying3 w0) (trodAll_cons_mk (Below.trod laidOut (by kernel_rfl) (of_decide_eq_true (by kernel_rfl)) h1k hb (fun x hx => hlt x (Or.inl hx))) (trodAll_cons_mk (Below.trod laidOut (by kernel_rfl) (of_decide_eq_true (by kernel_rfl)) h2k hb (fun x hx => hlt x (Or.inr (Or.inl hx)))) (trodAll_cons_mk (shut_int Tryd.underlying3 w3) (trodAll_cons_mk (shut_string Tryd.underlying9 w4) (trodAll_cons_mk (Below.trod laidOut (by kernel_rfl) (of_decide_eq_true (by kernel_rfl)) h5k hb (fun x hx => hlt x (Or.inr (Or.inr (Or.inl hx))))) (trodAll_cons_mk (Below.trod laidOut (by kernel_rfl) (of_decide_eq_true (by kernel_rfl)) h6k hb (fun x hx => hlt x (Or.inr (Or.inr (Or.inr hx))))) trodAll_mk0))))))
theorem nearFinds_holds : Rows.NearFindsSaid :=
  OpenClaim.holds_of_wide 3 Tryd.f3 rfl rfl rfl rfl rfl rfl rfl ⟨rfl, rfl, rfl, rfl, rfl⟩ rfl rfl rfl rfl rfl (by kernel_rfl) Tryd.func3 (by kernel_rfl)
    (of_decide_eq_true (by kernel_rfl)) (by unfold Func.isWrapper; first | (rw [if_pos (by decide +kernel)]; kernel_rfl) | (rw [if_neg (by decide +kernel)]; exact ⟨rfl, rfl⟩))
    (fun os started H enc _ => near_lifted os started H enc)
end Go.Proofs.YtamalmgfhpneaaaDoor.Nf
