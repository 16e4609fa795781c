/-
  Part of the proof: a call of ItemBack returns true, whatever the input, where the variables that it reads lie as laid.
  Part of the proof: what a row's condition and its arguments give a walk over items.
  Part of the proof: a slice of items that can be read.
  'coffer/cofferkeep.ItemBack' returns true at every input, and each argument reads behind the call as it read before: the row's statement 'Rows.ItemBackSaid', under its own condition alone (the seven listed variables read as listed when the call begins).
-/
import Derived.Test.YtmfbfhkhfhphfabDoorB07
import Derived.Test.YtmfbfhkhfhphfabDoorRows
import Derived.ProofKit
import Derived.SliceStrings
import Derived.OpenShut
import Derived.LaidLaws
import Derived.Stop.Joined
import Derived.Stop.LaidErr
import Derived.Lib.LaidTab
import Derived.MakeChecks
import Derived.Lay
import Derived.Lib.SmallJoins
import Derived.Deep.Strs
namespace Go.Proofs.YtmfbfhkhfhphfabDoor.It
open Go.RowKit
set_option maxRecDepth 100000 in
set_option maxHeartbeats 4000000 in
theorem back_law (d : Int) (a : Option Addr) (c : Nat) (ds : List ItD) (s : ByteArray) (w : World) (h : Its w a ds) (hl : ds.length ≤ maxLen) (hs : s.size ≤ maxLen) (hL : LB w) :
    Calls Tryd.prog 3 #[.int .i64 d, .slice a ds.length c, .string s] w fun e w' => e = .returned (.bool true) ∧ Below w.heap.size w w' := by
  have hs' := hs
  unfold maxLen at hs'
  have hel := held_any a c ds w h hl
  cases hh : heldB (xsOf ds) with
  | false =>
    rw [hh] at hel
    go_enter Tryd.func3, Tryd.ntmps3
    go_wp2_with fail
    refine hel.mono ?_
    rintro e w1 ⟨rfl, g1⟩
    go_wp2_with fail
    go_ret
    exact ⟨rfl, g1⟩
  | true =>
    rw [hh] at hel
    clear hh
    by_cases h5 : 500 < s.size
    · have h5' : (500 : Int) < (s.size : Int) := by omega
      go_enter Tryd.func3, Tryd.ntmps3
      go_wp2_with fail
      refine hel.mono ?_
      rintro e w1 ⟨rfl, g1⟩
      go_wp2_with fail
      go_ret
      exact ⟨rfl, g1⟩
    have h5' : ¬ (500 : Int) < (s.size : Int) := by omega
    go_enter Tryd.func3, Tryd.ntmps3
    go_wp2_with fail
    refine hel.mono ?_
    rintro e w1 ⟨rfl, g1⟩
    clear hel
    go_wp2_with fail
    refine (listed_any w1 (hL.below g1)).mono ?_
    rintro e w2 ⟨rfl, g2⟩
    have b2 := g1.trans (g2.mono g1.size)
    clear g1 g2
    go_wp2_with fail
    refine (parse_any s w2 (by omega) (hL.below b2)).mono ?_
    rintro e w3 ⟨hp, g3⟩
    have b3 := b2.trans (g3.mono b2.size)
    clear g3 b2
    rcases hp with ⟨d3, xs3, _, hg3, a3, c3, ds3, rfl, hx3, hi3, h3⟩ | ⟨_, rfl⟩
    · subst hx3
      have hg3' : okB d3 (xsOf ds3) = true ∧ textS d3 (xsOf ds3) = s.data.toList := by simpa [goodB] using hg3
      have HG : Hid (okB d3 (xsOf ds3) = true ∧ textS d3 (xsOf ds3) = s.data.toList) := hg3'
      have HI3 : Hid (Its w3 a3 ds3) := hi3
      clear hg3 hg3' hi3
      go_wp2_with fail
      refine (print_any d3 a3 c3 ds3 w3 HI3.out (by unfold maxLen; omega) (hL.below b3)).mono ?_
      rintro e w4 ⟨rfl, g4⟩
      rw [printV_yes HG.out.1, HG.out.2]
      have b4 := b3.trans (g4.mono b3.size)
      have e1 : ba s.data.toList = s := Lib.mk_data s
      rw [e1]
      clear g4 e1
      go_wp2_with fail
      -- the items
      cases hok : okB d (xsOf ds) with
      | false =>
        refine (print_any d a c ds _ (h.below b4) hl (hL.below b4)).mono ?_
        rintro e w7 ⟨rfl, g7⟩
        rw [printV_no hok]
        go_wp2_with fail
        go_ret
        exact ⟨rfl, b4.trans (g7.mono b4.size)⟩
      | true =>
        refine (print_any d a c ds _ (h.below b4) hl (hL.below b4)).mono ?_
        rintro e w7 ⟨rfl, g7⟩
        rw [printV_yes hok]
        have b7 := b4.trans (g7.mono b4.size)
        have HOK : Hid (okB d (xsOf ds) = true) := hok
        clear hok g7
        go_wp2_with fail
        refine (parse_text d (xsOf ds) w7 HOK.out (hL.below b7)).mono ?_
        rintro e w8 ⟨⟨a8, c8, ds8, rfl, hx8, hi8, _⟩, g8⟩
        have b8 := b7.trans (g8.mono b7.size)
        have HI8 : Hid (Its w8 a8 ds8) := hi8
        have HX8 : Hid (xsOf ds8 = xsOf ds) := hx8
        clear hi8 hx8 g8
        go_wp2_with fail
        have h60 : ds8.length ≤ 65 := by
          have := congrArg List.length HX8.out
          have h2 := (okB_parts HOK.out).2.1
          simp only [xsOf, List.length_map] at this h2
          omega
        have hnn : ∀ x ∈ xsOf ds8, x.nums.length ≤ 1000 := fun x hx => by
          rw [HX8.out] at hx
          have := right_parts (okB_right HOK.out x hx)
          omega
        refine (alike_any a8 a c8 c ds8 ds w8 HI8.out (h.below b8) HX8.out h60 hnn).mono ?_
        rintro e w9 ⟨rfl, g9⟩
        go_wp2_with fail
        go_ret
        exact ⟨rfl, b8.trans (g9.mono b8.size)⟩
    · unfold errF
      go_wp2_with fail
      -- the items
      cases hok : okB d (xsOf ds) with
      | false =>
        refine (print_any d a c ds _ (h.below b3) hl (hL.below b3)).mono ?_
        rintro e w7 ⟨rfl, g7⟩
        rw [printV_no hok]
        go_wp2_with fail
        go_ret
        exact ⟨rfl, b3.trans (g7.mono b3.size)⟩
      | true =>
        refine (print_any d a c ds _ (h.below b3) hl (hL.below b3)).mono ?_
        rintro e w7 ⟨rfl, g7⟩
        rw [printV_yes hok]
        have b7 := b3.trans (g7.mono b3.size)
        have HOK : Hid (okB d (xsOf ds) = true) := hok
        clear hok g7
        go_wp2_with fail
        refine (parse_text d (xsOf ds) w7 HOK.out (hL.below b7)).mono ?_
        rintro e w8 ⟨⟨a8, c8, ds8, rfl, hx8, hi8, _⟩, g8⟩
        have b8 := b7.trans (g8.mono b7.size)
        have HI8 : Hid (Its w8 a8 ds8) := hi8
        have HX8 : Hid (xsOf ds8 = xsOf ds) := hx8
        clear hi8 hx8 g8
        go_wp2_with fail
        have h60 : ds8.length ≤ 65 := by
          have := congrArg List.length HX8.out
          have h2 := (okB_parts HOK.out).2.1
          simp only [xsOf, List.length_map] at this h2
          omega
        have hnn : ∀ x ∈ xsOf ds8, x.nums.length ≤ 1000 := fun x hx => by
          rw [HX8.out] at hx
          have := right_parts (okB_right HOK.out x hx)
          omega
        refine (alike_any a8 a c8 c ds8 ds w8 HI8.out (h.below b8) HX8.out h60 hnn).mono ?_
        rintro e w9 ⟨rfl, g9⟩
        go_wp2_with fail
        go_ret
        exact ⟨rfl, b8.trans (g9.mono b8.size)⟩
end Go.Proofs.YtmfbfhkhfhphfabDoor.It
namespace Go.Proofs.YtmfbfhkhfhphfabDoor.It
open Go.ChangeShapes Go.WideShapes Go.ChangeAt Go.ChangeMaps Go.RowKit
section
variable {H : Type} {enc : TypeId × Value → H}
/-- The builder, handing on the world's shape and one more condition. -/
theorem handed_both {a : Assume} {C : Checked} {os : Os} {f : FuncId} {fn : Func} {s : ChangeSpec} {conds : List PathCond} {apart fresh handsOn again : Bool} {X : World → Array Value → Prop}
    (hX : ∀ (w w' : World) (args : Array Value), w.heap = w'.heap → X w args → X w' args)
    (own : ownKnob C.prog.godebug = none) (started : os.Started) (noInit : C.prog.inits.idxOf? f = none) (hfn : C.prog.funcs[f]? = some fn)
    (witness : ∃ (w : World) (tape : Tape) (i : Input), w.os = os ∧ (w.forCall tape i).Shaped C.prog ∧ i.vars = [] ∧ Input.okWide C.prog (w.forCall tape i) .any w.heap.size f i ∧
      ((s.pre enc C.prog fn conds apart (w.forCall tape i).memory i.args ∧ X (w.forCall tape i).memory i.args) ∧ sizedMet enc C.prog fn (OpenSpec.ofChange s) apart (w.forCall tape i).memory i.args) ∧ a.holds C.prog (lone (Frame.enter C.prog f i.args .normal) [] (w.forCall tape i)))
    (contract : ∀ (W : World) (base : Nat) (args : Array Value) (ds gs : List (DataW H)) (before : List MemPlace),
      (∀ (j : Nat) t v, fn.params[j]? = some t → args[j]? = some v → Value.okWide C.prog W .any base t v) →
      DataW.Whole enc C.prog fn.params.toList s.vars apart W args.toList ds gs before →
      W.ShapedOpen C.prog → X W args →
      Calls C.prog f args W fun e W' => ∃ v, e = .returned v ∧ s.post enc C.prog fn apart fresh handsOn again W args v W') :
    ReturnsInHanded a C os f .any (fun w args => (s.pre enc C.prog fn conds apart w args ∧ X w args) ∧ sizedMet enc C.prog fn (OpenSpec.ofChange s) apart w args) (s.post enc C.prog fn apart fresh handsOn again) := by
  refine returnsInHanded_of_calls own started noInit witness ?_
  intro w tape i _ hsh _ hok hpre hholds
  obtain ⟨_, _, _, fn', hfn', _, _, _, _, hval⟩ := hok
  have e : fn' = fn := Option.some.inj (hfn'.symm.trans hfn)
  subst e
  obtain ⟨⟨⟨ds, gs, before, hw, hc⟩, hx⟩, hz⟩ := hpre
  have hw' := DataW.Whole.of_heap (w' := w.forCall tape i) (by rfl) hw
  refine (contract (w.forCall tape i) w.heap.size i.args ds gs before hval hw' hsh (hX _ _ _ (by rfl) hx)).mono fun e W' ⟨v, he, hp⟩ => ?_
  subst he
  exact ChangeSpec.post_blind hp
end
/-- A variable of an interface's type that reads as an interface value that is not nil. -/
theorem iface_var {P : Program} {n nm : String} {d : DataW Unit} {r : List (String × DataW Unit)} {W : World} {g : Nat} {ti : TypeId} {ms : Array (String × TypeId)}
    (h : laidMet P ((n, .iface nm d) :: r) W) (hg : P.globalNamed n = some g) (ht : (P.globals[g]?).map (·.type) = some ti) (hi : P.underlying ti = some (.interface ms)) : ∃ u v, W.cell? ⟨g, 0, none⟩ = some (.iface u v) := by
  obtain ⟨ps, ⟨g0, t0, cs0, f0, p0, q0, hg0, ht0, hv0, hd0, _, _⟩, _, _⟩ := h
  obtain rfl := Option.some.inj (hg.symm.trans hg0)
  obtain rfl := Option.some.inj (ht.symm.trans ht0)
  have key : ∃ u v, cs0.toList = [.iface u v] := by
    generalize cs0.toList = l at hd0
    cases f0 with
    | zero => simp [DataW.trod] at hd0
    | succ f0 =>
      rcases l with _ | ⟨x, _ | ⟨y, l⟩⟩
      · simp [DataW.trod, hi] at hd0
      · cases x <;> simp [DataW.trod, hi] at hd0
        exact ⟨_, _, rfl⟩
      · simp [DataW.trod, hi] at hd0
  obtain ⟨u, v, e⟩ := key
  refine ⟨u, v, ?_⟩
  have e' : cs0 = #[.iface u v] := by apply Array.toList_inj.1; simpa using e
  subst e'
  have h0 := World.var?_cell hg0 hv0 0
  simpa using h0
theorem own : ownKnob Tryd.prog.godebug = none := by kernel_rfl
theorem laidOut : laidOutB Tryd.prog = true := by kernel_rfl
theorem cells3 : Tryd.prog.cellsOf 3 = 1 := by kernel_rfl
theorem cells9 : Tryd.prog.cellsOf 9 = 1 := by kernel_rfl
theorem cellsIt : Tryd.prog.cellsOf 39 = 3 := by kernel_rfl
theorem cellsIs : Tryd.prog.cellsOf 37 = 1 := by kernel_rfl
theorem tPow : (Tryd.prog.globals[1]?).map (·.type) = some 103 := by kernel_rfl
theorem uPow : Tryd.prog.underlying 103 = some (.array 20 87) := by kernel_rfl
theorem u64 : Tryd.prog.underlying 87 = some (.int .u64) := by kernel_rfl
theorem c64 : Tryd.prog.cellsOf 87 = 1 := by kernel_rfl
theorem cPow : Tryd.prog.cellsOf 103 = 20 := by kernel_rfl
theorem gES : (Tryd.prog.globals[2]?).map (·.type) = some 26 := by kernel_rfl
theorem gER : (Tryd.prog.globals[3]?).map (·.type) = some 26 := by kernel_rfl
theorem ePow : (Rows.laid_internal_strconv_uint64pow10 : DataW Unit) = Lib.tabData .u64 Lib.pow10Tab := by kernel_rfl
def laidL : List (String × DataW Unit) := Rows.itemBackRow.laid
/-- What the row's condition, and the world's shape, give the walk. -/
theorem of_laid {W : World} (h : laidMetH Tryd.prog laidL W) (hs : W.ShapedOpen Tryd.prog) : LB W := by
  rw [MakeChecks.laidMetH_plain _ _ _ (by kernel_rfl)] at h
  have h2 := laidMet.tail (laidMet.tail h)
  have h4 := laidMet.tail (laidMet.tail h2)
  have h5 := laidMet.tail h4
  rw [ePow] at h2
  exact ⟨laysM145.s1_3 W hs, iface_var h5 (by kernel_rfl) gES Tryd.underlying26, iface_var h4 (by kernel_rfl) gER Tryd.underlying26, Lib.tabBelow_of_tabIs (Lib.tabIs_of_head (g := 1) (by kernel_rfl) tPow uPow u64 c64 cPow h2)⟩
end Go.Proofs.YtmfbfhkhfhphfabDoor.It
namespace Go.Proofs.YtmfbfhkhfhphfabDoor.It
open Go.ChangeShapes Go.WideShapes Go.ChangeAt Go.ChangeMaps Go.RowKit
section
variable {H : Type} {enc : TypeId × Value → H} {P : Program} {w : World} {base : Nat} {sp : Nat → Bool} {held : Bool}
/-- A slice that can be read: the cells of each element. -/
theorem slice_open {t e : TypeId} {fuel : Nat} {a0 : Option Addr} {len cap : Nat} {x : DataW H × List MemPlace} (ht : P.underlying t = some (.slice e)) (hp : 0 < P.cellsOf e) (h : DataW.trod enc P w base sp held fuel t [.slice a0 len cap] = some x) :
    len ≤ maxLen ∧ len ≤ cap ∧ ∀ i, i < len → ∃ a cs n y, a0 = some a ∧ a.spot = none ∧ w.cells? base (a.add (i * P.cellsOf e)) (P.cellsOf e) = some cs ∧ DataW.trod enc P w base sp held n e cs = some y := by
  rcases DataW.trod_slice ht h with ⟨h0, _⟩ | ⟨a, len', cap', elems, rest, n, _, hcs, rfl, hb, hl, hm, hlen, hel, hsp, hns⟩
  · simp at h0
    obtain ⟨rfl, rfl, rfl⟩ := h0
    exact ⟨Nat.zero_le _, Nat.zero_le _, fun i hi => absurd hi (Nat.not_lt_zero _)⟩
  · simp at hcs
    obtain ⟨rfl, rfl, rfl⟩ := hcs
    refine ⟨Nat.le_trans hl hm, hl, fun i hi => ?_⟩
    have hE := hel i hi
    rw [List.getElem?_eq_getElem (by omega), Option.bind_eq_some_iff] at hE
    obtain ⟨cs, h1, h2⟩ := hE
    have hE0 := hel 0 (by omega)
    rw [List.getElem?_eq_getElem (by omega), Option.bind_eq_some_iff] at hE0
    obtain ⟨cs0, h3, _⟩ := hE0
    obtain ⟨_, hl0, hc0⟩ := World.cells?_some h3
    have hc1 := hc0 0 hp
    rw [List.getElem?_eq_getElem (by omega)] at hc1
    have hs := World.cell?_spot hc1
    simp [Addr.add] at hs
    exact ⟨a, cs, n, _, rfl, hs, h1, h2⟩
end
theorem list_of {α : Type} (p : Nat → α → Prop) : ∀ n : Nat, (∀ i, i < n → ∃ x, p i x) → ∃ l : List α, l.length = n ∧ ∀ i x, l[i]? = some x → p i x
  | 0, _ => ⟨[], rfl, fun i x h => by simp at h⟩
  | n + 1, h => by
    obtain ⟨l, h1, h2⟩ := list_of p n (fun i hi => h i (by omega))
    obtain ⟨x, hx⟩ := h n (by omega)
    refine ⟨l ++ [x], by simp [h1], fun i y hy => ?_⟩
    by_cases hi : i < n
    · rw [List.getElem?_append_left (by omega)] at hy; exact h2 i y hy
    · have : i = n := by
        have := (List.getElem?_eq_some_iff.1 hy).1
        simp [h1] at this; omega
      subst this
      rw [List.getElem?_append_right (by omega), h1, Nat.sub_self] at hy
      simp at hy; subst hy; exact hx
theorem addr_addO (b o i : Nat) : (⟨b, o, none⟩ : Addr).add i = ⟨b, o + i, none⟩ := by
  unfold Addr.add; split
  · rename_i h; subst h; rfl
  · rfl
section
variable {H : Type} {enc : TypeId × Value → H} {w : World} {base : Nat} {sp : Nat → Bool} {held : Bool} {fuel : Nat} {a0 : Option Addr} {len cap : Nat} {x : DataW H × List MemPlace}
theorem one_cell {P : Program} {e : TypeId} {a : Addr} {i : Nat} {cs : List Value} (hc : P.cellsOf e = 1) (h : w.cells? base (a.add (i * P.cellsOf e)) (P.cellsOf e) = some cs) (v : Value) (hv : cs = [v]) (hs : a.spot = none) : ∃ g o, a = ⟨g, o, none⟩ ∧ w.cell? ⟨g, o + i, none⟩ = some v := by
  subst hv
  rw [hc, Nat.mul_one] at h
  have h1 := cell_of_cells?_one h
  obtain ⟨b, off, spot⟩ := a
  obtain rfl : spot = none := hs
  rw [addr_addO] at h1
  exact ⟨b, off, rfl, h1⟩
theorem ints_open (h : DataW.trod enc Tryd.prog w base sp held fuel 37 [.slice a0 len cap] = some x) : ∃ zs : List Int, zs.length = len ∧ len ≤ maxLen ∧ len ≤ cap ∧ Ints w a0 zs := by
  obtain ⟨hl, hl2, hc⟩ := slice_open Tryd.underlying37 (by rw [cells3]; decide) h
  obtain ⟨zs, h1, h2⟩ := list_of (fun i (z : Int) => ∃ g o, a0 = some ⟨g, o, none⟩ ∧ w.cell? ⟨g, o + i, none⟩ = some (.int .i64 z)) len (fun i hi => by
    obtain ⟨a, cs, n, y, rfl, hsp, h3, h4⟩ := hc i hi
    obtain ⟨m, rfl, _, hw⟩ := DataW.trod_int Tryd.underlying3 h4
    obtain ⟨g, o, rfl, h6⟩ := one_cell cells3 h3 _ rfl hsp
    exact ⟨m, g, o, rfl, h6⟩)
  exact ⟨zs, h1, hl, hl2, h2⟩
theorem list3 {α : Type} {l : List α} (h : l.length = 3) : ∃ a b c, l = [a, b, c] := by
  match l, h with
  | [a, b, c], _ => exact ⟨a, b, c, rfl⟩
theorem item_open {fuel : Nat} {cs : List Value} {x : DataW H × List MemPlace} {a : Addr} (hs : a.spot = none) (hc : w.cells? base a 3 = some cs) (h : DataW.trod enc Tryd.prog w base sp held fuel 39 cs = some x) :
    ∃ d : ItD, w.cell? ⟨a.block, a.off, none⟩ = some (.string d.x.name) ∧ w.cell? ⟨a.block, a.off + 1, none⟩ = some (.string d.x.tag) ∧ w.cell? ⟨a.block, a.off + 2, none⟩ = some d.val ∧ d.Ok w := by
  obtain ⟨y0, y1, y2, n, _, hl, h0, h1, h2⟩ := Go.Deep.trod_struct3 Tryd.underlying39 h
  obtain ⟨_, hl3, hcell⟩ := World.cells?_some hc
  obtain ⟨v0, v1, v2, rfl⟩ : ∃ v0 v1 v2, cs = [v0, v1, v2] := list3 hl3
  obtain ⟨b, off, spot⟩ := a
  obtain rfl : spot = none := hs
  have k0 := hcell 0 (by decide)
  have k1 := hcell 1 (by decide)
  have k2 := hcell 2 (by decide)
  rw [addr_addO] at k0 k1 k2
  simp only [cells9, cellsIs, List.drop_succ_cons, List.drop_zero, List.take_succ_cons, List.take_zero] at h0 h1 h2
  obtain ⟨s, e0, _, hsz⟩ := DataW.trod_string Tryd.underlying9 h0
  obtain ⟨t, e1, _, htz⟩ := DataW.trod_string Tryd.underlying9 h1
  injection e0 with e0
  injection e1 with e1
  subst e0 e1
  obtain ⟨a3, l3, c3, rfl⟩ : ∃ a3 l3 c3, v2 = .slice a3 l3 c3 := by
    rcases DataW.trod_slice Tryd.underlying37 h2 with ⟨e, _⟩ | ⟨a, len', cap', _, _, _, _, e, _⟩
    · injection e with e; exact ⟨_, _, _, e⟩
    · injection e with e; exact ⟨_, _, _, e⟩
  obtain ⟨zs, rfl, hz1, hz2, hI⟩ := ints_open h2
  exact ⟨⟨⟨s, t, zs⟩, a3, c3⟩, k0, k1, k2, hI, hz1, hsz, htz, hz2⟩
theorem items_open (h : DataW.trod enc Tryd.prog w base sp held fuel 22 [.slice a0 len cap] = some x) : ∃ ds : List ItD, ds.length = len ∧ len ≤ maxLen ∧ len ≤ cap ∧ Its w a0 ds := by
  obtain ⟨hl, hl2, hc⟩ := slice_open Tryd.underlying22 (by rw [cellsIt]; decide) h
  obtain ⟨l, h1, h2⟩ := list_of (fun i (d : ItD) => ∃ g o, a0 = some ⟨g, o, none⟩ ∧ w.cell? ⟨g, o + i * 3, none⟩ = some (.string d.x.name) ∧ w.cell? ⟨g, o + i * 3 + 1, none⟩ = some (.string d.x.tag) ∧ w.cell? ⟨g, o + i * 3 + 2, none⟩ = some d.val ∧ d.Ok w) len (fun i hi => by
    obtain ⟨a, cs, n, y, rfl, hsp, h3, h4⟩ := hc i hi
    rw [cellsIt] at h3
    obtain ⟨b, off, spot⟩ := a
    obtain rfl : spot = none := hsp
    rw [addr_addO] at h3
    obtain ⟨d, q0, q1, q2, q3⟩ := item_open (a := ⟨b, off + i * 3, none⟩) rfl h3 h4
    exact ⟨d, b, off, rfl, q0, q1, q2, q3⟩)
  exact ⟨l, h1, hl, hl2, h2⟩
end
end Go.Proofs.YtmfbfhkhfhphfabDoor.It
namespace Go.Proofs.YtmfbfhkhfhphfabDoor.It
open Go.ChangeShapes Go.WideShapes Go.ChangeAt Go.ChangeMaps Go.RowKit
set_option maxRecDepth 100000 in
theorem itemBack_lifted (os : Os) (started : os.Started) (H : Type) (enc : TypeId × Value → H) :
    ReturnsInHanded {} Tryd.checked os 3 .any (fun w args => (Rows.itemBackSpec.pre enc Tryd.prog Tryd.f3 [] false w args ∧ laidMetH Tryd.prog laidL w) ∧ sizedMet enc Tryd.prog Tryd.f3 (OpenSpec.ofChange Rows.itemBackSpec) false w args)
      (Rows.itemBackSpec.post enc Tryd.prog Tryd.f3 false true false false) := by
  refine handed_both (C := Tryd.checked) (X := fun w _ => laidMetH Tryd.prog laidL w) (fun _ _ _ hh h => h.of_heap hh) own started (by kernel_rfl) Tryd.func3
    (ChangeSpec.witness_shaped (enc := enc) (C := Tryd.checked) (os := os) (X := fun w _ => laidMetH Tryd.prog laidL w) false (World.laidAll Tryd.prog os laidL) #[.int .i64 0, .slice none 0 0, .string ByteArray.empty] 8 (World.laidAll_os _ _ _)
      (World.shaped_of_ZipB (by kernel_rfl) (by kernel_rfl)) (by kernel_rfl) (by kernel_rfl) (by kernel_rfl)
      (by rw [MakeChecks.laidMetH_plain _ _ _ (by kernel_rfl)]; exact laidMet_laidAll _ (by kernel_rfl) (by kernel_rfl))) ?_
  intro W base args ds gs before hval0 hW hsh hL
  have hval : ∀ (j : Nat) t v, Tryd.f3.params[j]? = some t → args[j]? = some v → Value.okWide Tryd.prog W .any base t v := hval0
  have hW' := hW
  obtain ⟨p, q, hA0, hV, rfl, _, _⟩ := hW
  have hA : DataW.TrodAll enc Tryd.prog W 0 (fun _ => true) true Tryd.f3.params.toList args.toList ds p := hA0
  rw [Tryd.params3] at hA hval
  obtain ⟨v0, v1, v2, d0, d1, d2, p0, p1, p2, rfl, rfl, rfl, h0, h1, h2⟩ := trodAll_three hA
  obtain ⟨rfl, rfl⟩ := trodVars_none hV
  obtain ⟨n, rfl, rfl, rfl, wn⟩ := open_int Tryd.underlying3 (hval 0 3 v0 rfl rfl) h0
  obtain ⟨a0, len, cap, rfl⟩ := okWide_slice Tryd.underlying22 (hval 1 22 v1 rfl rfl)
  obtain ⟨s, rfl, rfl, rfl, ws⟩ := open_string Tryd.underlying9 (hval 2 9 v2 rfl rfl) h2
  have hLB := of_laid hL hsh
  have h1k := h1
  obtain ⟨fuel, hf⟩ := h1
  clear hA0 hval0
  have hlt : ∀ x ∈ p1, x.block < W.heap.size := fun x hx => hW'.lt x (by simpa using hx)
  obtain ⟨es, rfl, m0, m1, hits⟩ := items_open (w := W) (by simpa [Value.cells] using hf)
  refine (back_law n a0 cap es s W hits m0 ws hLB).mono fun e W' ⟨he, hb⟩ => ?_
  subst he
  refine ⟨_, rfl, _, _, _, [], [] ++ p1 ++ [], [], hW', trodAll_mk1 (shut_bool Tryd.underlying4 _), ?_, rfl, hb.frame _, fun h => by cases h⟩
  exact trodAll_mk3 (shut_int Tryd.underlying3 wn) (Below.trod laidOut (by kernel_rfl) (of_decide_eq_true (by kernel_rfl)) h1k hb hlt) (shut_string Tryd.underlying9 ws)
theorem itemBack_holds : Rows.ItemBackSaid :=
  OpenClaim.holds_of_wide 3 Tryd.f3 rfl rfl rfl rfl rfl rfl rfl ⟨rfl, rfl, rfl, rfl, rfl⟩ rfl rfl rfl rfl rfl (by kernel_rfl) Tryd.func3 (by kernel_rfl)
    (of_decide_eq_true (by kernel_rfl)) (by unfold Func.isWrapper; first | (rw [if_pos (by decide +kernel)]; kernel_rfl) | (rw [if_neg (by decide +kernel)]; exact ⟨rfl, rfl⟩))
    (fun os started H enc _ => itemBack_lifted os started H enc)
end Go.Proofs.YtmfbfhkhfhphfabDoor.It
