/-
  'coffer/cofferlaw.TreeBinds' returns true at every input, and each argument reads behind the call as it read before: the row's statement 'Rows.TreeBindsSaid', under its own condition alone (the two listed variables read as listed when the call begins).
-/
import Derived.Test.YtgbfjdaelcfnjaaDoorU11
import Derived.Test.YtgbfjdaelcfnjaaDoorRows
import Derived.ProofKit
import Derived.SliceStrings
import Derived.OpenShut
import Derived.LaidLaws
import Derived.LaidHandle
import Derived.Stop.Joined
import Derived.Stop.LaidErr
import Derived.Lib.LaidTab
import Derived.MakeChecks
import Derived.Lay
namespace Go.Proofs.YtgbfjdaelcfnjaaDoor.Tr
open Go.ChangeShapes Go.WideShapes Go.ChangeAt Go.ChangeMaps Go.RowKit
theorem own : ownKnob Tryd.prog.godebug = none := by kernel_rfl
theorem laidOut : laidOutB Tryd.prog = true := by kernel_rfl
theorem cells9 : Tryd.prog.cellsOf 9 = 1 := by kernel_rfl
theorem g_et : Tryd.prog.globalNamed "errors.errorType" = some 0 := by kernel_rfl
theorem one_row : ((List.range 240).filter fun t => Tryd.prog.rowNamed t [101, 114, 114, 111, 114]) = [34] := by kernel_rfl
theorem n_types : Tryd.prog.types.size = 240 := by kernel_rfl
theorem tK : (Tryd.prog.globals[1]?).map (·.type) = some 93 := by kernel_rfl
theorem c32 : Tryd.prog.cellsOf 93 = 64 := by kernel_rfl
theorem c30 : Tryd.prog.cellsOf 91 = 1 := by kernel_rfl
def laidP : List (String × DataW Unit) := Rows.treeBindsRow.laid
def laidE : List (String × DataW Unit) := [("errors.errorType", Rows.laid_errors_errorType)]
def laidK : List (String × DataW Unit) := [("coffer/sum.roundNumbers", Rows.laid_coffer_sum_roundNumbers)]
theorem eK : (Rows.laid_coffer_sum_roundNumbers : DataW Unit) = Lib.tabData .u32 (Sm.kList.map Int.ofNat) := by kernel_rfl
theorem kList_I : ∀ i : Fin 64, (Sm.kList.map Int.ofNat).getD i.1 0 = I (Sm.kF i.1) := by decide +kernel
/-- What the row's condition gives the walk: the two variables that a run reads. -/
theorem of_laid {W : World} (h : laidMetH Tryd.prog laidP W) : EB W ∧ Sm.KB W := by
  have h' : laidMet Tryd.prog laidK W ∧ handlesMet Tryd.prog laidE W := h
  obtain ⟨hk, hh⟩ := h'
  constructor
  · obtain ⟨name, u, ty, e1, e2, e3, e4, e5⟩ := hh _ (List.mem_singleton.2 rfl)
    have en : name = [101, 114, 114, 111, 114] := (Option.some.inj e1).symm
    subst en
    obtain rfl : 197 = u := Option.some.inj (Eq.trans (Eq.symm (by kernel_rfl)) e2)
    have hm : ty ∈ (List.range 240).filter fun t => Tryd.prog.rowNamed t [101, 114, 114, 111, 114] := List.mem_filter.2 ⟨List.mem_range.2 (by rw [← n_types]; exact e3), e4⟩
    rw [one_row] at hm
    obtain rfl := List.mem_singleton.1 hm
    have hh : typeHandle Tryd.prog 34 = hnd 34 := by kernel_rfl
    rw [hh] at e5
    simpa [EB] using World.var?_cell g_et e5 0
  · unfold laidK at hk
    rw [eK] at hk
    have b := fun i (hi : i < 64) => (Lib.tabIs_of_head (g := 1) (by kernel_rfl) tK Tryd.underlying93 Tryd.underlying91 c30 c32 hk).cell (g := 1) (by kernel_rfl) i (by simpa [Sm.kList] using hi)
    refine ⟨World.block_lt_of_cell? W _ (b 0 (by decide)), fun i hi => ?_⟩
    rw [b i hi]; exact congrArg (fun z => some (Value.int .u32 z)) (kList_I ⟨i, hi⟩)
section
variable {H : Type} {enc : TypeId × Value → H} {P : Program} {w : World} {base : Nat} {spare : Nat → Bool} {held : Bool} {t0 t1 t2 t3 t4 : TypeId}
/-- Five parameters, taken apart. -/
theorem open5 {args : Array Value} {ds : List (DataW H)} {ps : List MemPlace} (h : DataW.TrodAll enc P w base spare held [t0, t1, t2, t3, t4] args.toList ds ps) :
    ∃ v0 v1 v2 v3 v4 d0 d1 d2 d3 d4 p0 p1 p2 p3 p4, args = #[v0, v1, v2, v3, v4] ∧ ds = [d0, d1, d2, d3, d4] ∧ ps = p0 ++ (p1 ++ p2 ++ p3 ++ p4) ∧ DataW.Trod enc P w base spare held t0 v0 d0 p0 ∧ DataW.Trod enc P w base spare held t1 v1 d1 p1 ∧ DataW.Trod enc P w base spare held t2 v2 d2 p2 ∧ DataW.Trod enc P w base spare held t3 v3 d3 p3 ∧ DataW.Trod enc P w base spare held t4 v4 d4 p4 := by
  obtain ⟨v0, vs, d0, ds', p0, q, ea, rfl, rfl, h0, hr⟩ := trodAll_cons h
  have hr' : DataW.TrodAll enc P w base spare held [t1, t2, t3, t4] vs.toArray.toList ds' q := hr
  obtain ⟨v1, v2, v3, v4, d1, d2, d3, d4, p1, p2, p3, p4, eb, rfl, rfl, h1, h2, h3, h4⟩ := trodAll_four hr'
  refine ⟨v0, v1, v2, v3, v4, d0, d1, d2, d3, d4, p0, p1, p2, p3, p4, ?_, rfl, rfl, h0, h1, h2, h3, h4⟩
  apply Array.toList_inj.1
  rw [ea]
  have : vs = [v1, v2, v3, v4] := by simpa using congrArg Array.toList eb
  rw [this]
/-- A slice that can be read: the cells of each element. -/
theorem slice_open {t e : TypeId} {fuel : Nat} {a0 : Option Addr} {len cap : Nat} {x : DataW H × List MemPlace} (ht : P.underlying t = some (.slice e)) (hp : 0 < P.cellsOf e) (h : DataW.trod enc P w base spare held fuel t [.slice a0 len cap] = some x) :
    (a0 = none → cap = 0) ∧ len ≤ maxLen ∧ ∀ i, i < len → ∃ a cs n y, a0 = some a ∧ a.spot = none ∧ w.cells? base (a.add (i * P.cellsOf e)) (P.cellsOf e) = some cs ∧ DataW.trod enc P w base spare held n e cs = some y := by
  rcases DataW.trod_slice ht h with ⟨h0, _⟩ | ⟨a, len', cap', elems, rest, n, _, hcs, rfl, hb, hl, hm, hlen, hel, hsp, hns⟩
  · simp at h0
    obtain ⟨rfl, rfl, rfl⟩ := h0
    exact ⟨fun _ => rfl, Nat.zero_le _, fun i hi => absurd hi (Nat.not_lt_zero _)⟩
  · simp at hcs
    obtain ⟨rfl, rfl, rfl⟩ := hcs
    refine ⟨(fun e => by cases e), Nat.le_trans hl hm, fun i hi => ?_⟩
    have hE := hel i hi
    rw [List.getElem?_eq_getElem (by omega), Option.bind_eq_some_iff] at hE
    obtain ⟨cs, h1, h2⟩ := hE
    have hE0 := hel 0 (by omega)
    rw [List.getElem?_eq_getElem (by omega), Option.bind_eq_some_iff] at hE0
    obtain ⟨cs0, h3, _⟩ := hE0
    obtain ⟨_, hl0, hc0⟩ := World.cells?_some h3
    have hc1 := hc0 0 hp
    rw [List.getElem?_eq_getElem (by omega)] at hc1
    have hs := World.cell?_spot hc1
    simp [Addr.add] at hs
    exact ⟨a, cs, n, _, rfl, hs, h1, h2⟩
end
/-- A slice of texts that can be read. -/
theorem texts_open {H : Type} {enc : TypeId × Value → H} {w : World} {base : Nat} {sp : Nat → Bool} {held : Bool} {fuel : Nat} {a0 : Option Addr} {len cap : Nat} {x : DataW H × List MemPlace} (h : DataW.trod enc Tryd.prog w base sp held fuel 22 [.slice a0 len cap] = some x) :
    (a0 = none → cap = 0) ∧ len ≤ maxLen ∧ ∃ f : Nat → ByteArray, Tx w a0 f len ∧ ∀ i, i < len → (f i).size ≤ maxLen := by
  obtain ⟨hz, hl, hc⟩ := slice_open Tryd.underlying22 (by rw [cells9]; decide) h
  have key : ∀ i, ∃ s : ByteArray, i < len → (∃ g o, a0 = some ⟨g, o, none⟩ ∧ g < w.heap.size ∧ w.cell? ⟨g, o + i, none⟩ = some (.string s)) ∧ s.size ≤ maxLen := fun i => by
    by_cases hi : i < len
    · obtain ⟨a, cs, n, y, rfl, hsp, h3, h4⟩ := hc i hi
      obtain ⟨s, rfl, _, hs⟩ := DataW.trod_string Tryd.underlying9 h4
      rw [cells9, Nat.mul_one] at h3
      have h1 := cell_of_cells?_one h3
      obtain ⟨b, off, spot⟩ := a
      obtain rfl : spot = none := hsp
      have ea : (⟨b, off, none⟩ : Addr).add i = ⟨b, off + i, none⟩ := by
        unfold Addr.add; split
        · rename_i e; subst e; rfl
        · rfl
      rw [ea] at h1
      exact ⟨s, fun _ => ⟨⟨b, off, rfl, World.block_lt_of_cell? w _ h1, h1⟩, hs⟩⟩
    · exact ⟨ByteArray.empty, fun h => absurd h hi⟩
  refine ⟨hz, hl, fun i => Classical.choose (key i), fun i hi => (Classical.choose_spec (key i) hi).1, fun i hi => (Classical.choose_spec (key i) hi).2⟩
/-- A world in which both variables lie as listed. -/
noncomputable def wit (os : Os) : World := ((World.holding Tryd.prog os ⟨#[], #[], []⟩).setCell ⟨0, 0, none⟩ (.iface 197 (.agg #[hnd 34]))).layVars Tryd.prog laidK
theorem wit_os (os : Os) : (wit os).os = os := (World.layVars_os _ _ _).trans rfl
set_option maxRecDepth 100000 in
theorem lifted (os : Os) (started : os.Started) (H : Type) (enc : TypeId × Value → H) :
    ReturnsInHanded {} Tryd.checked os 10 .any (fun w args => (Rows.treeBindsSpec.pre enc Tryd.prog Tryd.f10 [] false w args ∧ laidMetH Tryd.prog laidP w) ∧ sizedMet enc Tryd.prog Tryd.f10 (OpenSpec.ofChange Rows.treeBindsSpec) false w args)
      (Rows.treeBindsSpec.post enc Tryd.prog Tryd.f10 false true false false) := by
  refine returnsInHanded_of_change_and (C := Tryd.checked) (X := fun w _ => laidMetH Tryd.prog laidP w) (fun _ _ _ hh h => h.of_heap hh) own started (by kernel_rfl) Tryd.func10
    (ChangeSpec.witness_shaped (enc := enc) (C := Tryd.checked) (os := os) (X := fun w _ => laidMetH Tryd.prog laidP w) false (wit os) #[.slice none 0 0, .int .i64 0, .string ByteArray.empty, .string ByteArray.empty, .slice none 0 0] 8 (wit_os os)
      (World.shaped_of_ZipB (by kernel_rfl) (by kernel_rfl)) (by kernel_rfl) (by kernel_rfl) (by kernel_rfl)
      (laidMetH_of_parts (laidMet_of_run' 8 (by kernel_rfl) (by kernel_rfl)) (by kernel_rfl))) ?_
  intro W base args ds gs before hval0 hW _ _ hL _
  have hval : ∀ (j : Nat) t v, Tryd.f10.params[j]? = some t → args[j]? = some v → Value.okWide Tryd.prog W .any base t v := hval0
  have hW' := hW
  obtain ⟨p, q, hA0, hV, rfl, _, _⟩ := hW
  have hA : DataW.TrodAll enc Tryd.prog W 0 (fun _ => true) true Tryd.f10.params.toList args.toList ds p := hA0
  rw [Tryd.params10] at hA hval
  obtain ⟨v0, v1, v2, v3, v4, d0, d1, d2, d3, d4, p0, p1, p2, p3, p4, rfl, rfl, rfl, h0, h1, h2, h3, h4⟩ := open5 hA
  obtain ⟨rfl, rfl⟩ := trodVars_none hV
  obtain ⟨a0, n0, c0, rfl⟩ := okWide_slice Tryd.underlying22 (hval 0 22 v0 rfl rfl)
  obtain ⟨a1, rfl, rfl, rfl, w1⟩ := open_int Tryd.underlying3 (hval 1 3 v1 rfl rfl) h1
  obtain ⟨a2, rfl, rfl, rfl, w2⟩ := open_string Tryd.underlying9 (hval 2 9 v2 rfl rfl) h2
  obtain ⟨a3, rfl, rfl, rfl, w3⟩ := open_string Tryd.underlying9 (hval 3 9 v3 rfl rfl) h3
  obtain ⟨a4, n4, c4, rfl⟩ := okWide_slice Tryd.underlying22 (hval 4 22 v4 rfl rfl)
  clear hA0 hval0
  have h0k := h0
  have h4k := h4
  obtain ⟨fu0, hf0⟩ := h0
  obtain ⟨fu4, hf4⟩ := h4
  obtain ⟨z0, l0, f0, t0, s0⟩ := texts_open (w := W) (by simpa [Value.cells] using hf0)
  obtain ⟨z4, l4, f4, t4, s4⟩ := texts_open (w := W) (by simpa [Value.cells] using hf4)
  have hlt : ∀ x, x ∈ p0 ∨ x ∈ p4 → x.block < W.heap.size := fun x hx => by
    refine hW'.lt x ?_
    rcases hx with h | h <;> simp [h]
  obtain ⟨hE, hK⟩ := of_laid hL
  refine (law_any a0 n0 c0 f0 a1 a2 a3 a4 n4 c4 f4 W t0 t4 l0 l4 s0 s4 w2 w3 z0 z4 hK hE).mono fun e W' ⟨he, hb⟩ => ?_
  subst he
  simp only [List.append_nil] at hW'
  refine ⟨_, rfl, _, _, _, [], p0 ++ ([] ++ [] ++ [] ++ p4), [], hW', trodAll_mk1 (shut_bool Tryd.underlying4 _), ?_, rfl, hb.frame _, fun h => by cases h⟩
  exact ⟨p0, _, Below.trod laidOut (by kernel_rfl) (of_decide_eq_true (by kernel_rfl)) h0k hb (fun x hx => hlt x (Or.inl hx)), trodAll_mk4 (shut_int Tryd.underlying3 w1) (shut_string Tryd.underlying9 w2) (shut_string Tryd.underlying9 w3) (Below.trod laidOut (by kernel_rfl) (of_decide_eq_true (by kernel_rfl)) h4k hb (fun x hx => hlt x (Or.inr hx))), rfl⟩
theorem treeBinds_holds : Rows.TreeBindsSaid :=
  OpenClaim.holds_of_wide 10 Tryd.f10 rfl rfl rfl rfl rfl rfl rfl ⟨rfl, rfl, rfl, rfl, rfl⟩ rfl rfl rfl rfl rfl (by kernel_rfl) Tryd.func10 (by kernel_rfl)
    (of_decide_eq_true (by kernel_rfl)) (by unfold Func.isWrapper; first | (rw [if_pos (by decide +kernel)]; kernel_rfl) | (rw [if_neg (by decide +kernel)]; exact ⟨rfl, rfl⟩))
    (fun os started H enc _ => lifted os started H enc)
end Go.Proofs.YtgbfjdaelcfnjaaDoor.Tr
