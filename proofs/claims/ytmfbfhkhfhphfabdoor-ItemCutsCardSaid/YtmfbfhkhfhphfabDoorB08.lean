/-
  Part of the proof: a call of ItemCuts returns true, whatever the input, where the variables that it reads lie as laid.
  Part of the proof: what a row's condition and its arguments give a walk over items.
  Part of the proof: a slice of items that can be read.
  'coffer/cofferkeep.ItemCuts' returns true at every input, and each argument reads behind the call as it read before: the row's statement 'Rows.ItemCutsSaid', under its own condition alone (the seven listed variables read as listed when the call begins).
-/
import Derived.Test.YtmfbfhkhfhphfabDoorB07
import Derived.Test.YtmfbfhkhfhphfabDoorRows
import Derived.ProofKit
import Derived.SliceStrings
import Derived.OpenShut
import Derived.LaidLaws
import Derived.Stop.Joined
import Derived.Stop.LaidErr
import Derived.Lib.LaidTab
import Derived.MakeChecks
import Derived.Lay
import Derived.Lib.SmallJoins
import Derived.Deep.Strs
namespace Go.Proofs.YtmfbfhkhfhphfabDoor.It
open Go.RowKit
/-- What is written ends with a line feed. -/
theorem text_last (d : Int) (xs : List Itm) : (textS d xs).getLast? = some 10 := lines_last _ _
theorem text_count (d : Int) (xs : List Itm) : 1 ≤ (textS d xs).count 10 := by
  have := List.mem_of_getLast? (text_last d xs)
  exact List.one_le_count_iff.2 this
/-- The first lines of what is written are the first items' text. -/
theorem text_pre {d : Int} {xs : List Itm} (h : okB d xs = true) (j : Nat) (h1 : 1 ≤ ((textS d xs).take j).count 10) (hl : ((textS d xs).take j).getLast? = some 10) :
    (textS d xs).take j = textS d (xs.take (((textS d xs).take j).count 10 - 1)) ∧ ((textS d xs).take j).count 10 - 1 ≤ xs.length := by
  have hL : ∀ a ∈ headS d :: xs.map lineS, (10 : UInt8) ∉ a := by
    intro a ha
    rcases List.mem_cons.1 ha with rfl | ha
    · exact head_byte d
    · obtain ⟨x, hx, rfl⟩ := List.mem_map.1 ha
      exact line_byte (okB_right h x hx)
  have hp := lines_pre _ ((textS d xs).take j) ((textS d xs).drop j) hL (List.take_append_drop j _).symm (Or.inr hl)
  have hc : ((textS d xs).take j).count 10 ≤ (textS d xs).count 10 := (List.take_sublist _ _).count_le _
  have hn : (textS d xs).count 10 = xs.length + 1 := by
    unfold textS; rw [lines_count _ hL]; simp
  generalize ((textS d xs).take j).count 10 = k at *
  refine ⟨?_, by omega⟩
  rw [hp]
  obtain ⟨m, rfl⟩ : ∃ m, k = m + 1 := ⟨k - 1, by omega⟩
  rw [List.take_succ_cons, Nat.add_sub_cancel]
  unfold textS
  rw [List.map_take]
theorem Its.take {w : World} {a : Option Addr} {ds : List ItD} (h : Its w a ds) (n : Nat) : Its w a (ds.take n) := by
  intro i d hd
  rw [List.getElem?_take] at hd
  split at hd
  · exact h i d hd
  · cases hd
/-- Of a text that is no items' one Parse tells an error. -/
theorem parse_bad (s : ByteArray) (w : World) (hs : s.size ≤ 100000) (hL : LB w) (hb : ∀ d xs, textS d xs ≠ s.data.toList) :
    Calls Tryd.prog 7 #[.string s] w fun e w' => e = .returned (.tuple #[.int .i64 0, .slice none 0 0, .iface 43 (.int .i64 3)]) ∧ Below w.heap.size w w' := by
  refine (parse_any s w hs hL).mono ?_
  rintro e w' ⟨hp, g⟩
  refine ⟨?_, g⟩
  rcases hp with ⟨d, xs, _, hg, _⟩ | ⟨_, rfl⟩
  · have : textS d xs = s.data.toList := by
      simp only [goodB, Bool.and_eq_true, decide_eq_true_eq] at hg; exact hg.2
    exact absurd this (hb d xs)
  · rfl
theorem take_last (S : ByteArray) (m : Nat) (h : m < S.size) : (S.data.toList.take (m + 1)).getLast? = some S[m] := by
  rw [List.take_add_one, List.getElem?_eq_getElem (by rw [← Lib.size_eq]; exact h)]
  simp; rfl
set_option maxRecDepth 100000 in
set_option maxHeartbeats 4000000 in
theorem cuts_law (d : Int) (a : Option Addr) (c : Nat) (ds : List ItD) (z : Int) (w : World) (h : Its w a ds) (hl : ds.length ≤ maxLen) (hc : ds.length ≤ c) (hL : LB w) :
    Calls Tryd.prog 4 #[.int .i64 d, .slice a ds.length c, .int .i64 z] w fun e w' => e = .returned (.bool true) ∧ Below w.heap.size w w' := by
  have hel := held_any a c ds w h hl
  cases hh : heldB (xsOf ds) with
  | false =>
    rw [hh] at hel
    go_enter Tryd.func4, Tryd.ntmps4
    go_wp2_with fail
    refine hel.mono ?_
    rintro e w1 ⟨rfl, g1⟩
    go_wp2_with fail
    go_ret
    exact ⟨rfl, g1⟩
  | true =>
    rw [hh] at hel
    clear hh
    go_enter Tryd.func4, Tryd.ntmps4
    go_wp2_with fail
    refine hel.mono ?_
    rintro e w1 ⟨rfl, g1⟩
    clear hel
    go_wp2_with fail
    refine (listed_any w1 (hL.below g1)).mono ?_
    rintro e w2 ⟨rfl, g2⟩
    have b2 := g1.trans (g2.mono g1.size)
    clear g1 g2
    go_wp2_with fail
    cases hok : okB d (xsOf ds) with
    | false =>
      refine (print_any d a c ds _ (h.below b2) hl (hL.below b2)).mono ?_
      rintro e w7 ⟨rfl, g7⟩
      rw [printV_no hok]
      go_wp2_with fail
      go_ret
      exact ⟨rfl, b2.trans (g7.mono b2.size)⟩
    | true =>
      refine (print_any d a c ds _ (h.below b2) hl (hL.below b2)).mono ?_
      rintro e w7 ⟨rfl, g7⟩
      rw [printV_yes hok]
      have b7 := b2.trans (g7.mono b2.size)
      have HOK : Hid (okB d (xsOf ds) = true) := hok
      have hts : (ba (textS d (xsOf ds))).size ≤ 7000 := by
        have := text_len (okB_parts hok).1 (okB_right hok) 60 (Nat.le_refl _)
        rw [List.take_of_length_le (okB_parts hok).2.1] at this
        rw [ba_size]; unfold textS; omega
      have hn60 : ds.length ≤ 60 := by simpa [xsOf] using (okB_parts hok).2.1
      have HS : Hid (∃ S, S = ba (textS d (xsOf ds)) ∧ S.data.toList = textS d (xsOf ds)) := ⟨_, rfl, rfl⟩
      obtain ⟨S, hS1, hS2⟩ := HS.out
      rw [← hS1] at hts ⊢
      have HS2 : Hid (S.data.toList = textS d (xsOf ds)) := hS2
      clear hok g7 b2 HS hS1 hS2
      go_wp2_with fail
      have pk := pick_any z (S.size + 1) w7 (by omega) (by omega)
      rw [show ((S.size + 1 : Nat) : Int) = (S.size : Int) + 1 from by omega] at pk
      refine pk.mono ?_
      rintro e w8 ⟨j, rfl, hj, hw⟩
      obtain rfl : w7 = w8 := hw.symm
      clear hw pk
      have hj' : (j : Int) ≤ (S.size : Int) := by omega
      have hex : (S.extract 0 j).data.toList = S.data.toList.take j := Lib.extract_from_zero S j
      have hxs : (S.extract 0 j).size ≤ 100000 := by rw [ByteArray.size_extract]; omega
      have hct := fun w => count_any (S.extract 0 j) w
      have HCT : Hid (∀ w, Calls Tryd.prog 11 #[.string (S.extract 0 j), .string ⟨#[10]⟩] w fun e w' => e = .returned (.int .i64 (((S.extract 0 j).data.toList.count 10 : Nat) : Int)) ∧ w' = w) := hct
      clear hct
      by_cases hC : 1 ≤ ((S.extract 0 j).data.toList).count 10 ∧ ((S.extract 0 j).data.toList).getLast? = some 10
      · obtain ⟨hc1, hc2⟩ := hC
        obtain ⟨m, rfl⟩ : ∃ m, j = m + 1 := by
          cases j with
          | zero => exfalso; rw [hex] at hc1; simp at hc1
          | succ m => exact ⟨m, rfl⟩
        have hm : m < S.size := by omega
        have hbyte : S[m] = 10 := by
          have := hc2
          rw [hex, take_last S m hm] at this
          injection this
        have hbi : (S[m].toNat : Int) = 10 := by rw [hbyte]; rfl
        have hm' : (m : Int) < (S.size : Int) := by omega
        obtain ⟨t1, t2⟩ := text_pre HOK.out (m + 1) (by rw [← HS2.out, ← hex]; exact hc1) (by rw [← HS2.out, ← hex]; exact hc2)
        rw [← HS2.out, ← hex] at t1 t2
        have HC0 := HCT.out
        obtain ⟨kk, hkk⟩ : ∃ kk, ((S.extract 0 (m + 1)).data.toList).count 10 = kk + 1 := ⟨_, (Nat.sub_add_cancel hc1).symm⟩
        rw [hkk, Nat.add_sub_cancel] at t1 t2
        rw [hkk] at HC0
        have hkc : kk ≤ ds.length := by simpa [xsOf] using t2
        have hk0 : ¬ ((kk + 1 : Nat) : Int) = 0 := by omega
        have hE : S.extract 0 (m + 1) = ba (textS d ((xsOf ds).take kk)) := by
          rw [← t1]; exact (Lib.mk_data _).symm
        have HP := parse_text d ((xsOf ds).take kk) w7 (okB_take kk HOK.out) (hL.below b7)
        rw [← hE] at HP
        clear t1 t2 hkk hc1 hc2 hex hbyte hE
        go_wp2_with fail
        refine HP.mono ?_
        rintro e w9 ⟨⟨a9, c9, ds9, rfl, hx9, hi9, _⟩, g9⟩
        have b9 := b7.trans (g9.mono b7.size)
        have HX9 : Hid (xsOf ds9 = (xsOf ds).take kk) := hx9
        have HI9 : Hid (Its w9 a9 ds9) := hi9
        clear HP hx9 hi9 g9
        go_wp2_with fail
        refine (HC0 w9).mono ?_
        rintro e w10 ⟨rfl, hw⟩
        obtain rfl : w9 = w10 := hw.symm
        clear hw
        have hkc' : (kk : Int) ≤ (c : Int) := by omega
        go_wp2_with fail
        have hlk : (ds.take kk).length = kk := by rw [List.length_take]; omega
        have hxk : xsOf ds9 = xsOf (ds.take kk) := by rw [HX9.out]; unfold xsOf; rw [List.map_take]
        have h9 : ds9.length ≤ 65 := by
          have := congrArg List.length hxk
          simp only [xsOf, List.length_map] at this
          omega
        have hnn : ∀ x ∈ xsOf ds9, x.nums.length ≤ 1000 := fun x hx => by
          rw [HX9.out] at hx
          have := right_parts (okB_right HOK.out x (List.mem_of_mem_take hx))
          omega
        have al := alike_any a9 a c9 c ds9 (ds.take kk) w9 HI9.out ((h.below b9).take kk) hxk h9 hnn
        rw [hlk] at al
        refine al.mono ?_
        rintro e w11 ⟨rfl, g11⟩
        clear hlk hxk h9 hnn al
        go_wp2_with fail
        go_ret
        exact ⟨rfl, b9.trans (g11.mono b9.size)⟩
      · have HB : Hid (∀ d' xs', textS d' xs' ≠ (S.extract 0 j).data.toList) := fun d' xs' e => hC (by rw [← e]; exact ⟨text_count _ _, text_last _ _⟩)
        go_wp2_with fail
        refine (parse_bad _ w7 hxs (hL.below b7) HB.out).mono ?_
        rintro e w9 ⟨rfl, g9⟩
        have b9 := b7.trans (g9.mono b7.size)
        by_cases hk : ((S.extract 0 j).data.toList).count 10 = 0
        · have HC0 := HCT.out
          rw [hk] at HC0
          clear hk hC hex
          go_wp2_with fail
          refine (HC0 w9).mono ?_
          rintro e w10 ⟨rfl, hw⟩
          obtain rfl : w9 = w10 := hw.symm
          clear hw
          go_wp2_with fail
          go_ret
          exact ⟨rfl, b9⟩
        · obtain ⟨m, rfl⟩ : ∃ m, j = m + 1 := by
            cases j with
            | zero => exfalso; apply hk; rw [hex]; rfl
            | succ m => exact ⟨m, rfl⟩
          have hm : m < S.size := by omega
          have hbyte : S[m] ≠ 10 := fun e => hC ⟨by omega, by rw [hex, take_last S m hm, e]⟩
          have hbi : ¬ ((S[m].toNat : Int) = 10) := fun e => hbyte (by
            apply UInt8.toNat_inj.1
            show S[m].toNat = 10
            omega)
          have hm' : (m : Int) < (S.size : Int) := by omega
          have HC0 := HCT.out
          obtain ⟨kk, hkk⟩ : ∃ kk, ((S.extract 0 (m + 1)).data.toList).count 10 = kk := ⟨_, rfl⟩
          rw [hkk] at HC0 hk
          have hk0 : ¬ (kk : Int) = 0 := by omega
          clear hC hex hkk hk
          go_wp2_with fail
          refine (HC0 w9).mono ?_
          rintro e w10 ⟨rfl, hw⟩
          obtain rfl : w9 = w10 := hw.symm
          clear hw
          go_wp2_with fail
          · go_ret
            exact ⟨rfl, b9⟩
          · exfalso
            rename_i hh
            simp at hh
            exact hbi (by have := hh.2; omega)
end Go.Proofs.YtmfbfhkhfhphfabDoor.It
namespace Go.Proofs.YtmfbfhkhfhphfabDoor.It
open Go.ChangeShapes Go.WideShapes Go.ChangeAt Go.ChangeMaps Go.RowKit
section
variable {H : Type} {enc : TypeId × Value → H}
/-- The builder, handing on the world's shape and one more condition. -/
theorem handed_both {a : Assume} {C : Checked} {os : Os} {f : FuncId} {fn : Func} {s : ChangeSpec} {conds : List PathCond} {apart fresh handsOn again : Bool} {X : World → Array Value → Prop}
    (hX : ∀ (w w' : World) (args : Array Value), w.heap = w'.heap → X w args → X w' args)
    (own : ownKnob C.prog.godebug = none) (started : os.Started) (noInit : C.prog.inits.idxOf? f = none) (hfn : C.prog.funcs[f]? = some fn)
    (witness : ∃ (w : World) (tape : Tape) (i : Input), w.os = os ∧ (w.forCall tape i).Shaped C.prog ∧ i.vars = [] ∧ Input.okWide C.prog (w.forCall tape i) .any w.heap.size f i ∧
      ((s.pre enc C.prog fn conds apart (w.forCall tape i).memory i.args ∧ X (w.forCall tape i).memory i.args) ∧ sizedMet enc C.prog fn (OpenSpec.ofChange s) apart (w.forCall tape i).memory i.args) ∧ a.holds C.prog (lone (Frame.enter C.prog f i.args .normal) [] (w.forCall tape i)))
    (contract : ∀ (W : World) (base : Nat) (args : Array Value) (ds gs : List (DataW H)) (before : List MemPlace),
      (∀ (j : Nat) t v, fn.params[j]? = some t → args[j]? = some v → Value.okWide C.prog W .any base t v) →
      DataW.Whole enc C.prog fn.params.toList s.vars apart W args.toList ds gs before →
      W.ShapedOpen C.prog → X W args →
      Calls C.prog f args W fun e W' => ∃ v, e = .returned v ∧ s.post enc C.prog fn apart fresh handsOn again W args v W') :
    ReturnsInHanded a C os f .any (fun w args => (s.pre enc C.prog fn conds apart w args ∧ X w args) ∧ sizedMet enc C.prog fn (OpenSpec.ofChange s) apart w args) (s.post enc C.prog fn apart fresh handsOn again) := by
  refine returnsInHanded_of_calls own started noInit witness ?_
  intro w tape i _ hsh _ hok hpre hholds
  obtain ⟨_, _, _, fn', hfn', _, _, _, _, hval⟩ := hok
  have e : fn' = fn := Option.some.inj (hfn'.symm.trans hfn)
  subst e
  obtain ⟨⟨⟨ds, gs, before, hw, hc⟩, hx⟩, hz⟩ := hpre
  have hw' := DataW.Whole.of_heap (w' := w.forCall tape i) (by rfl) hw
  refine (contract (w.forCall tape i) w.heap.size i.args ds gs before hval hw' hsh (hX _ _ _ (by rfl) hx)).mono fun e W' ⟨v, he, hp⟩ => ?_
  subst he
  exact ChangeSpec.post_blind hp
end
/-- A variable of an interface's type that reads as an interface value that is not nil. -/
theorem iface_var {P : Program} {n nm : String} {d : DataW Unit} {r : List (String × DataW Unit)} {W : World} {g : Nat} {ti : TypeId} {ms : Array (String × TypeId)}
    (h : laidMet P ((n, .iface nm d) :: r) W) (hg : P.globalNamed n = some g) (ht : (P.globals[g]?).map (·.type) = some ti) (hi : P.underlying ti = some (.interface ms)) : ∃ u v, W.cell? ⟨g, 0, none⟩ = some (.iface u v) := by
  obtain ⟨ps, ⟨g0, t0, cs0, f0, p0, q0, hg0, ht0, hv0, hd0, _, _⟩, _, _⟩ := h
  obtain rfl := Option.some.inj (hg.symm.trans hg0)
  obtain rfl := Option.some.inj (ht.symm.trans ht0)
  have key : ∃ u v, cs0.toList = [.iface u v] := by
    generalize cs0.toList = l at hd0
    cases f0 with
    | zero => simp [DataW.trod] at hd0
    | succ f0 =>
      rcases l with _ | ⟨x, _ | ⟨y, l⟩⟩
      · simp [DataW.trod, hi] at hd0
      · cases x <;> simp [DataW.trod, hi] at hd0
        exact ⟨_, _, rfl⟩
      · simp [DataW.trod, hi] at hd0
  obtain ⟨u, v, e⟩ := key
  refine ⟨u, v, ?_⟩
  have e' : cs0 = #[.iface u v] := by apply Array.toList_inj.1; simpa using e
  subst e'
  have h0 := World.var?_cell hg0 hv0 0
  simpa using h0
theorem own : ownKnob Tryd.prog.godebug = none := by kernel_rfl
theorem laidOut : laidOutB Tryd.prog = true := by kernel_rfl
theorem cells3 : Tryd.prog.cellsOf 3 = 1 := by kernel_rfl
theorem cells9 : Tryd.prog.cellsOf 9 = 1 := by kernel_rfl
theorem cellsIt : Tryd.prog.cellsOf 39 = 3 := by kernel_rfl
theorem cellsIs : Tryd.prog.cellsOf 37 = 1 := by kernel_rfl
theorem tPow : (Tryd.prog.globals[1]?).map (·.type) = some 103 := by kernel_rfl
theorem uPow : Tryd.prog.underlying 103 = some (.array 20 87) := by kernel_rfl
theorem u64 : Tryd.prog.underlying 87 = some (.int .u64) := by kernel_rfl
theorem c64 : Tryd.prog.cellsOf 87 = 1 := by kernel_rfl
theorem cPow : Tryd.prog.cellsOf 103 = 20 := by kernel_rfl
theorem gES : (Tryd.prog.globals[2]?).map (·.type) = some 26 := by kernel_rfl
theorem gER : (Tryd.prog.globals[3]?).map (·.type) = some 26 := by kernel_rfl
theorem ePow : (Rows.laid_internal_strconv_uint64pow10 : DataW Unit) = Lib.tabData .u64 Lib.pow10Tab := by kernel_rfl
def laidL : List (String × DataW Unit) := Rows.itemBackRow.laid
/-- What the row's condition, and the world's shape, give the walk. -/
theorem of_laid {W : World} (h : laidMetH Tryd.prog laidL W) (hs : W.ShapedOpen Tryd.prog) : LB W := by
  rw [MakeChecks.laidMetH_plain _ _ _ (by kernel_rfl)] at h
  have h2 := laidMet.tail (laidMet.tail h)
  have h4 := laidMet.tail (laidMet.tail h2)
  have h5 := laidMet.tail h4
  rw [ePow] at h2
  exact ⟨laysM145.s1_3 W hs, iface_var h5 (by kernel_rfl) gES Tryd.underlying26, iface_var h4 (by kernel_rfl) gER Tryd.underlying26, Lib.tabBelow_of_tabIs (Lib.tabIs_of_head (g := 1) (by kernel_rfl) tPow uPow u64 c64 cPow h2)⟩
end Go.Proofs.YtmfbfhkhfhphfabDoor.It
namespace Go.Proofs.YtmfbfhkhfhphfabDoor.It
open Go.ChangeShapes Go.WideShapes Go.ChangeAt Go.ChangeMaps Go.RowKit
section
variable {H : Type} {enc : TypeId × Value → H} {P : Program} {w : World} {base : Nat} {sp : Nat → Bool} {held : Bool}
/-- A slice that can be read: the cells of each element. -/
theorem slice_open {t e : TypeId} {fuel : Nat} {a0 : Option Addr} {len cap : Nat} {x : DataW H × List MemPlace} (ht : P.underlying t = some (.slice e)) (hp : 0 < P.cellsOf e) (h : DataW.trod enc P w base sp held fuel t [.slice a0 len cap] = some x) :
    len ≤ maxLen ∧ len ≤ cap ∧ ∀ i, i < len → ∃ a cs n y, a0 = some a ∧ a.spot = none ∧ w.cells? base (a.add (i * P.cellsOf e)) (P.cellsOf e) = some cs ∧ DataW.trod enc P w base sp held n e cs = some y := by
  rcases DataW.trod_slice ht h with ⟨h0, _⟩ | ⟨a, len', cap', elems, rest, n, _, hcs, rfl, hb, hl, hm, hlen, hel, hsp, hns⟩
  · simp at h0
    obtain ⟨rfl, rfl, rfl⟩ := h0
    exact ⟨Nat.zero_le _, Nat.zero_le _, fun i hi => absurd hi (Nat.not_lt_zero _)⟩
  · simp at hcs
    obtain ⟨rfl, rfl, rfl⟩ := hcs
    refine ⟨Nat.le_trans hl hm, hl, fun i hi => ?_⟩
    have hE := hel i hi
    rw [List.getElem?_eq_getElem (by omega), Option.bind_eq_some_iff] at hE
    obtain ⟨cs, h1, h2⟩ := hE
    have hE0 := hel 0 (by omega)
    rw [List.getElem?_eq_getElem (by omega), Option.bind_eq_some_iff] at hE0
    obtain ⟨cs0, h3, _⟩ := hE0
    obtain ⟨_, hl0, hc0⟩ := World.cells?_some h3
    have hc1 := hc0 0 hp
    rw [List.getElem?_eq_getElem (by omega)] at hc1
    have hs := World.cell?_spot hc1
    simp [Addr.add] at hs
    exact ⟨a, cs, n, _, rfl, hs, h1, h2⟩
end
theorem list_of {α : Type} (p : Nat → α → Prop) : ∀ n : Nat, (∀ i, i < n → ∃ x, p i x) → ∃ l : List α, l.length = n ∧ ∀ i x, l[i]? = some x → p i x
  | 0, _ => ⟨[], rfl, fun i x h => by simp at h⟩
  | n + 1, h => by
    obtain ⟨l, h1, h2⟩ := list_of p n (fun i hi => h i (by omega))
    obtain ⟨x, hx⟩ := h n (by omega)
    refine ⟨l ++ [x], by simp [h1], fun i y hy => ?_⟩
    by_cases hi : i < n
    · rw [List.getElem?_append_left (by omega)] at hy; exact h2 i y hy
    · have : i = n := by
        have := (List.getElem?_eq_some_iff.1 hy).1
        simp [h1] at this; omega
      subst this
      rw [List.getElem?_append_right (by omega), h1, Nat.sub_self] at hy
      simp at hy; subst hy; exact hx
theorem addr_addO (b o i : Nat) : (⟨b, o, none⟩ : Addr).add i = ⟨b, o + i, none⟩ := by
  unfold Addr.add; split
  · rename_i h; subst h; rfl
  · rfl
section
variable {H : Type} {enc : TypeId × Value → H} {w : World} {base : Nat} {sp : Nat → Bool} {held : Bool} {fuel : Nat} {a0 : Option Addr} {len cap : Nat} {x : DataW H × List MemPlace}
theorem one_cell {P : Program} {e : TypeId} {a : Addr} {i : Nat} {cs : List Value} (hc : P.cellsOf e = 1) (h : w.cells? base (a.add (i * P.cellsOf e)) (P.cellsOf e) = some cs) (v : Value) (hv : cs = [v]) (hs : a.spot = none) : ∃ g o, a = ⟨g, o, none⟩ ∧ w.cell? ⟨g, o + i, none⟩ = some v := by
  subst hv
  rw [hc, Nat.mul_one] at h
  have h1 := cell_of_cells?_one h
  obtain ⟨b, off, spot⟩ := a
  obtain rfl : spot = none := hs
  rw [addr_addO] at h1
  exact ⟨b, off, rfl, h1⟩
theorem ints_open (h : DataW.trod enc Tryd.prog w base sp held fuel 37 [.slice a0 len cap] = some x) : ∃ zs : List Int, zs.length = len ∧ len ≤ maxLen ∧ len ≤ cap ∧ Ints w a0 zs := by
  obtain ⟨hl, hl2, hc⟩ := slice_open Tryd.underlying37 (by rw [cells3]; decide) h
  obtain ⟨zs, h1, h2⟩ := list_of (fun i (z : Int) => ∃ g o, a0 = some ⟨g, o, none⟩ ∧ w.cell? ⟨g, o + i, none⟩ = some (.int .i64 z)) len (fun i hi => by
    obtain ⟨a, cs, n, y, rfl, hsp, h3, h4⟩ := hc i hi
    obtain ⟨m, rfl, _, hw⟩ := DataW.trod_int Tryd.underlying3 h4
    obtain ⟨g, o, rfl, h6⟩ := one_cell cells3 h3 _ rfl hsp
    exact ⟨m, g, o, rfl, h6⟩)
  exact ⟨zs, h1, hl, hl2, h2⟩
theorem list3 {α : Type} {l : List α} (h : l.length = 3) : ∃ a b c, l = [a, b, c] := by
  match l, h with
  | [a, b, c], _ => exact ⟨a, b, c, rfl⟩
theorem item_open {fuel : Nat} {cs : List Value} {x : DataW H × List MemPlace} {a : Addr} (hs : a.spot = none) (hc : w.cells? base a 3 = some cs) (h : DataW.trod enc Tryd.prog w base sp held fuel 39 cs = some x) :
    ∃ d : ItD, w.cell? ⟨a.block, a.off, none⟩ = some (.string d.x.name) ∧ w.cell? ⟨a.block, a.off + 1, none⟩ = some (.string d.x.tag) ∧ w.cell? ⟨a.block, a.off + 2, none⟩ = some d.val ∧ d.Ok w := by
  obtain ⟨y0, y1, y2, n, _, hl, h0, h1, h2⟩ := Go.Deep.trod_struct3 Tryd.underlying39 h
  obtain ⟨_, hl3, hcell⟩ := World.cells?_some hc
  obtain ⟨v0, v1, v2, rfl⟩ : ∃ v0 v1 v2, cs = [v0, v1, v2] := list3 hl3
  obtain ⟨b, off, spot⟩ := a
  obtain rfl : spot = none := hs
  have k0 := hcell 0 (by decide)
  have k1 := hcell 1 (by decide)
  have k2 := hcell 2 (by decide)
  rw [addr_addO] at k0 k1 k2
  simp only [cells9, cellsIs, List.drop_succ_cons, List.drop_zero, List.take_succ_cons, List.take_zero] at h0 h1 h2
  obtain ⟨s, e0, _, hsz⟩ := DataW.trod_string Tryd.underlying9 h0
  obtain ⟨t, e1, _, htz⟩ := DataW.trod_string Tryd.underlying9 h1
  injection e0 with e0
  injection e1 with e1
  subst e0 e1
  obtain ⟨a3, l3, c3, rfl⟩ : ∃ a3 l3 c3, v2 = .slice a3 l3 c3 := by
    rcases DataW.trod_slice Tryd.underlying37 h2 with ⟨e, _⟩ | ⟨a, len', cap', _, _, _, _, e, _⟩
    · injection e with e; exact ⟨_, _, _, e⟩
    · injection e with e; exact ⟨_, _, _, e⟩
  obtain ⟨zs, rfl, hz1, hz2, hI⟩ := ints_open h2
  exact ⟨⟨⟨s, t, zs⟩, a3, c3⟩, k0, k1, k2, hI, hz1, hsz, htz, hz2⟩
theorem items_open (h : DataW.trod enc Tryd.prog w base sp held fuel 22 [.slice a0 len cap] = some x) : ∃ ds : List ItD, ds.length = len ∧ len ≤ maxLen ∧ len ≤ cap ∧ Its w a0 ds := by
  obtain ⟨hl, hl2, hc⟩ := slice_open Tryd.underlying22 (by rw [cellsIt]; decide) h
  obtain ⟨l, h1, h2⟩ := list_of (fun i (d : ItD) => ∃ g o, a0 = some ⟨g, o, none⟩ ∧ w.cell? ⟨g, o + i * 3, none⟩ = some (.string d.x.name) ∧ w.cell? ⟨g, o + i * 3 + 1, none⟩ = some (.string d.x.tag) ∧ w.cell? ⟨g, o + i * 3 + 2, none⟩ = some d.val ∧ d.Ok w) len (fun i hi => by
    obtain ⟨a, cs, n, y, rfl, hsp, h3, h4⟩ := hc i hi
    rw [cellsIt] at h3
    obtain ⟨b, off, spot⟩ := a
    obtain rfl : spot = none := hsp
    rw [addr_addO] at h3
    obtain ⟨d, q0, q1, q2, q3⟩ := item_open (a := ⟨b, off + i * 3, none⟩) rfl h3 h4
    exact ⟨d, b, off, rfl, q0, q1, q2, q3⟩)
  exact ⟨l, h1, hl, hl2, h2⟩
end
end Go.Proofs.YtmfbfhkhfhphfabDoor.It
namespace Go.Proofs.YtmfbfhkhfhphfabDoor.It
open Go.ChangeShapes Go.WideShapes Go.ChangeAt Go.ChangeMaps Go.RowKit
set_option maxRecDepth 100000 in
theorem itemCuts_lifted (os : Os) (started : os.Started) (H : Type) (enc : TypeId × Value → H) :
    ReturnsInHanded {} Tryd.checked os 4 .any (fun w args => (Rows.itemCutsSpec.pre enc Tryd.prog Tryd.f4 [] false w args ∧ laidMetH Tryd.prog laidL w) ∧ sizedMet enc Tryd.prog Tryd.f4 (OpenSpec.ofChange Rows.itemCutsSpec) false w args)
      (Rows.itemCutsSpec.post enc Tryd.prog Tryd.f4 false true false false) := by
  refine handed_both (C := Tryd.checked) (X := fun w _ => laidMetH Tryd.prog laidL w) (fun _ _ _ hh h => h.of_heap hh) own started (by kernel_rfl) Tryd.func4
    (ChangeSpec.witness_shaped (enc := enc) (C := Tryd.checked) (os := os) (X := fun w _ => laidMetH Tryd.prog laidL w) false (World.laidAll Tryd.prog os laidL) #[.int .i64 0, .slice none 0 0, .int .i64 0] 8 (World.laidAll_os _ _ _)
      (World.shaped_of_ZipB (by kernel_rfl) (by kernel_rfl)) (by kernel_rfl) (by kernel_rfl) (by kernel_rfl)
      (by rw [MakeChecks.laidMetH_plain _ _ _ (by kernel_rfl)]; exact laidMet_laidAll _ (by kernel_rfl) (by kernel_rfl))) ?_
  intro W base args ds gs before hval0 hW hsh hL
  have hval : ∀ (j : Nat) t v, Tryd.f4.params[j]? = some t → args[j]? = some v → Value.okWide Tryd.prog W .any base t v := hval0
  have hW' := hW
  obtain ⟨p, q, hA0, hV, rfl, _, _⟩ := hW
  have hA : DataW.TrodAll enc Tryd.prog W 0 (fun _ => true) true Tryd.f4.params.toList args.toList ds p := hA0
  rw [Tryd.params4] at hA hval
  obtain ⟨v0, v1, v2, d0, d1, d2, p0, p1, p2, rfl, rfl, rfl, h0, h1, h2⟩ := trodAll_three hA
  obtain ⟨rfl, rfl⟩ := trodVars_none hV
  obtain ⟨n, rfl, rfl, rfl, wn⟩ := open_int Tryd.underlying3 (hval 0 3 v0 rfl rfl) h0
  obtain ⟨a0, len, cap, rfl⟩ := okWide_slice Tryd.underlying22 (hval 1 22 v1 rfl rfl)
  obtain ⟨z, rfl, rfl, rfl, wz⟩ := open_int Tryd.underlying3 (hval 2 3 v2 rfl rfl) h2
  have hLB := of_laid hL hsh
  have h1k := h1
  obtain ⟨fuel, hf⟩ := h1
  clear hA0 hval0
  have hlt : ∀ x ∈ p1, x.block < W.heap.size := fun x hx => hW'.lt x (by simpa using hx)
  obtain ⟨es, rfl, m0, m1, hits⟩ := items_open (w := W) (by simpa [Value.cells] using hf)
  refine (cuts_law n a0 cap es z W hits m0 m1 hLB).mono fun e W' ⟨he, hb⟩ => ?_
  subst he
  refine ⟨_, rfl, _, _, _, [], [] ++ p1 ++ [], [], hW', trodAll_mk1 (shut_bool Tryd.underlying4 _), ?_, rfl, hb.frame _, fun h => by cases h⟩
  exact trodAll_mk3 (shut_int Tryd.underlying3 wn) (Below.trod laidOut (by kernel_rfl) (of_decide_eq_true (by kernel_rfl)) h1k hb hlt) (shut_int Tryd.underlying3 wz)
theorem itemCuts_holds : Rows.ItemCutsSaid :=
  OpenClaim.holds_of_wide 4 Tryd.f4 rfl rfl rfl rfl rfl rfl rfl ⟨rfl, rfl, rfl, rfl, rfl⟩ rfl rfl rfl rfl rfl (by kernel_rfl) Tryd.func4 (by kernel_rfl)
    (of_decide_eq_true (by kernel_rfl)) (by unfold Func.isWrapper; first | (rw [if_pos (by decide +kernel)]; kernel_rfl) | (rw [if_neg (by decide +kernel)]; exact ⟨rfl, rfl⟩))
    (fun os started H enc _ => itemCuts_lifted os started H enc)
end Go.Proofs.YtmfbfhkhfhphfabDoor.It
