/-
  'coffer/cofferlaw.SuperWrites' returns true at every input, and each argument reads behind the call as it read before: the row's statement 'Rows.SuperWritesSaid', under its own condition alone (the two listed variables read as listed when the call begins).
-/
import Derived.Test.YtfkgfakjhjbidaaDoorSu8
import Derived.Test.YtfkgfakjhjbidaaDoorRows
import Derived.ProofKit
import Derived.Lib.SmallJoins
import Derived.OpenShut
import Derived.LaidLaws
import Derived.LaidHandle
import Derived.Stop.Joined
import Derived.Stop.LaidErr
import Derived.Lib.LaidTab
import Derived.MakeChecks
import Derived.Lay
namespace Go.Proofs.YtfkgfakjhjbidaaDoor.Su
open Go.ChangeShapes Go.WideShapes Go.ChangeAt Go.ChangeMaps Go.RowKit
theorem own : ownKnob Tryd.prog.godebug = none := by kernel_rfl
theorem laidOut : laidOutB Tryd.prog = true := by kernel_rfl
theorem cells9 : Tryd.prog.cellsOf 9 = 1 := by kernel_rfl
theorem g_et : Tryd.prog.globalNamed "errors.errorType" = some 0 := by kernel_rfl
theorem one_row : ((List.range 254).filter fun t => Tryd.prog.rowNamed t [101, 114, 114, 111, 114]) = [34] := by kernel_rfl
theorem n_types : Tryd.prog.types.size = 254 := by kernel_rfl
theorem tK : (Tryd.prog.globals[1]?).map (·.type) = some 103 := by kernel_rfl
theorem c32 : Tryd.prog.cellsOf 103 = 64 := by kernel_rfl
theorem c30 : Tryd.prog.cellsOf 101 = 1 := by kernel_rfl
def laidP : List (String × DataW Unit) := Rows.superWritesRow.laid
def laidE : List (String × DataW Unit) := [("errors.errorType", Rows.laid_errors_errorType)]
def laidK : List (String × DataW Unit) := [("coffer/sum.roundNumbers", Rows.laid_coffer_sum_roundNumbers)]
theorem eK : (Rows.laid_coffer_sum_roundNumbers : DataW Unit) = Lib.tabData .u32 (Sm.kList.map Int.ofNat) := by kernel_rfl
theorem kList_I : ∀ i : Fin 64, (Sm.kList.map Int.ofNat).getD i.1 0 = I (Sm.kF i.1) := by decide +kernel
/-- What the row's condition gives the walk: the two variables that a run reads. -/
theorem of_laid {W : World} (h : laidMetH Tryd.prog laidP W) : EB W ∧ Sm.KB W := by
  have h' : laidMet Tryd.prog laidK W ∧ handlesMet Tryd.prog laidE W := h
  obtain ⟨hk, hh⟩ := h'
  constructor
  · obtain ⟨name, u, ty, e1, e2, e3, e4, e5⟩ := hh _ (List.mem_singleton.2 rfl)
    have en : name = [101, 114, 114, 111, 114] := (Option.some.inj e1).symm
    subst en
    obtain rfl : 211 = u := Option.some.inj (Eq.trans (Eq.symm (by kernel_rfl)) e2)
    have hm : ty ∈ (List.range 254).filter fun t => Tryd.prog.rowNamed t [101, 114, 114, 111, 114] := List.mem_filter.2 ⟨List.mem_range.2 (by rw [← n_types]; exact e3), e4⟩
    rw [one_row] at hm
    obtain rfl := List.mem_singleton.1 hm
    have hh : typeHandle Tryd.prog 34 = hnd 34 := by kernel_rfl
    rw [hh] at e5
    simpa [EB] using World.var?_cell g_et e5 0
  · unfold laidK at hk
    rw [eK] at hk
    have b := fun i (hi : i < 64) => (Lib.tabIs_of_head (g := 1) (by kernel_rfl) tK Tryd.underlying103 Tryd.underlying101 c30 c32 hk).cell (g := 1) (by kernel_rfl) i (by simpa [Sm.kList] using hi)
    refine ⟨World.block_lt_of_cell? W _ (b 0 (by decide)), fun i hi => ?_⟩
    rw [b i hi]; exact congrArg (fun z => some (Value.int .u32 z)) (kList_I ⟨i, hi⟩)
section
variable {H : Type} {enc : TypeId × Value → H} {w : World} {base : Nat} {sp : Nat → Bool} {held : Bool}
theorem cells3 : Tryd.prog.cellsOf 3 = 1 := by kernel_rfl
theorem cells91 : Tryd.prog.cellsOf 91 = 32 := by kernel_rfl
theorem cells93 : Tryd.prog.cellsOf 93 = 35 := by kernel_rfl
theorem one_at {l : List Value} {k : Nat} {v : Value} (h : (l.drop k).take 1 = [v]) : l[k]? = some v := by
  have := congrArg (fun x : List Value => x[0]?) h
  simp only [List.getElem?_take, List.getElem?_drop] at this
  simpa using this
/-- What tells of all, read: its cells. -/
theorem sup_open {fuel : Nat} {cs : Array Value} {x : DataW H × List MemPlace} (hc : cs.size = 35) (h : DataW.trod enc Tryd.prog w base sp held fuel 93 cs.toList = some x) : ∃ c e f r, cs = supA c e f r ∧ r.size ≤ maxLen := by
  obtain ⟨y0, y1, y2, y3, n, _, hl, h0, h1, h2, h3⟩ := Go.Joins.trod_struct4 Tryd.underlying93 h
  simp only [cells3, cells9, cells91] at h0 h1 h2 h3
  obtain ⟨c, e0, _, _⟩ := DataW.trod_int Tryd.underlying3 h0
  obtain ⟨e, e1, _, _⟩ := DataW.trod_int Tryd.underlying3 h1
  obtain ⟨r, e3, _, hr⟩ := DataW.trod_string Tryd.underlying9 h3
  obtain ⟨xs, m, _, _, hl2, hn, hi⟩ := DataW.trod_array Tryd.underlying91 h2
  have key : ∀ i, ∃ b : Bool, i < 32 → cs[2 + i]? = some (.bool b) := fun i => by
    by_cases h32 : i < 32
    · have hx := hi i h32
      rw [List.getElem?_eq_getElem (by omega), cells4, Nat.mul_one] at hx
      obtain ⟨b, eb, _⟩ := DataW.trod_bool Tryd.underlying4 hx
      refine ⟨b, fun _ => ?_⟩
      have := one_at eb
      rw [List.getElem?_take, if_pos h32, List.getElem?_drop] at this
      rw [← Array.getElem?_toList]; exact this
    · exact ⟨false, fun h => absurd h h32⟩
  refine ⟨c, e, fun i => Classical.choose (key i), r, ?_, hr⟩
  apply Array.ext_getElem?
  intro i
  have k0 : cs[0]? = some (.int .i64 c) := by rw [← Array.getElem?_toList]; exact one_at e0
  have k1 : cs[1]? = some (.int .i64 e) := by rw [← Array.getElem?_toList]; exact one_at e1
  have k3 : cs[34]? = some (.string r) := by rw [← Array.getElem?_toList]; exact one_at e3
  by_cases a0 : i = 0
  · rw [a0, k0, supA_0]
  by_cases a1 : i = 1
  · rw [a1, k1, supA_1]
  by_cases a3 : i = 34
  · rw [a3, k3, supA_34]
  by_cases a4 : i < 34
  · obtain ⟨j, rfl⟩ : ∃ j, i = 2 + j := ⟨i - 2, by omega⟩
    rw [supA_side _ _ _ _ _ (by omega)]
    exact Classical.choose_spec (key j) (by omega)
  · rw [Array.getElem?_eq_none (by omega), Array.getElem?_eq_none (by rw [supA_size]; omega)]
end
/-- A world in which both variables lie as listed. -/
noncomputable def wit (os : Os) : World := ((World.holding Tryd.prog os ⟨#[], #[], []⟩).setCell ⟨0, 0, none⟩ (.iface 211 (.agg #[hnd 34]))).layVars Tryd.prog laidK
theorem wit_os (os : Os) : (wit os).os = os := (World.layVars_os _ _ _).trans rfl
set_option maxRecDepth 100000 in
theorem lifted (os : Os) (started : os.Started) (H : Type) (enc : TypeId × Value → H) :
    ReturnsInHanded {} Tryd.checked os 11 .any (fun w args => (Rows.superWritesSpec.pre enc Tryd.prog Tryd.f11 [] false w args ∧ laidMetH Tryd.prog laidP w) ∧ sizedMet enc Tryd.prog Tryd.f11 (OpenSpec.ofChange Rows.superWritesSpec) false w args)
      (Rows.superWritesSpec.post enc Tryd.prog Tryd.f11 false true false false) := by
  refine returnsInHanded_of_change_and (C := Tryd.checked) (X := fun w _ => laidMetH Tryd.prog laidP w) (fun _ _ _ hh h => h.of_heap hh) own started (by kernel_rfl) Tryd.func11
    (ChangeSpec.witness_shaped (enc := enc) (C := Tryd.checked) (os := os) (X := fun w _ => laidMetH Tryd.prog laidP w) false (wit os) #[.string ByteArray.empty, .agg sup0, .string ByteArray.empty] 8 (wit_os os)
      (World.shaped_of_ZipB (by kernel_rfl) (by kernel_rfl)) (by kernel_rfl) (by kernel_rfl) (by kernel_rfl)
      (laidMetH_of_parts (laidMet_of_run' 8 (by kernel_rfl) (by kernel_rfl)) (by kernel_rfl))) ?_
  intro W base args ds gs before hval0 hW _ _ hL _
  have hval : ∀ (j : Nat) t v, Tryd.f11.params[j]? = some t → args[j]? = some v → Value.okWide Tryd.prog W .any base t v := hval0
  have hW' := hW
  obtain ⟨p, q, hA0, hV, rfl, _, _⟩ := hW
  have hA : DataW.TrodAll enc Tryd.prog W 0 (fun _ => true) true Tryd.f11.params.toList args.toList ds p := hA0
  rw [Tryd.params11] at hA hval
  obtain ⟨v0, v1, v2, d0, d1, d2, p0, p1, p2, rfl, rfl, rfl, h0, h1, h2⟩ := trodAll_three hA
  obtain ⟨rfl, rfl⟩ := trodVars_none hV
  obtain ⟨a0, rfl, rfl, rfl, w0⟩ := open_string Tryd.underlying9 (hval 0 9 v0 rfl rfl) h0
  obtain ⟨cs, rfl, hcs⟩ := okWide_struct Tryd.underlying93 (hval 1 93 v1 rfl rfl)
  obtain ⟨a2, rfl, rfl, rfl, w2⟩ := open_string Tryd.underlying9 (hval 2 9 v2 rfl rfl) h2
  clear hA0 hval0
  rw [cells93] at hcs
  have h1k := h1
  obtain ⟨fu1, hf1⟩ := h1
  obtain ⟨c, e, f, r, rfl, hr⟩ := sup_open (w := W) hcs hf1
  have hlt : ∀ x, x ∈ p1 → x.block < W.heap.size := fun x hx => hW'.lt x (by simp [hx])
  obtain ⟨hE, hK⟩ := of_laid hL
  refine (law_any a0 c e f r a2 W w0 hr w2 hK hE).mono fun e' W' ⟨he, hb⟩ => ?_
  subst he
  simp only [List.append_nil] at hW'
  refine ⟨_, rfl, _, _, _, [], [] ++ (p1 ++ []), [], hW', trodAll_mk1 (shut_bool Tryd.underlying4 _), ?_, rfl, hb.frame _, fun h => by cases h⟩
  exact trodAll_mk3 (shut_string Tryd.underlying9 w0) (Below.trod laidOut (by kernel_rfl) (of_decide_eq_true (by kernel_rfl)) h1k hb hlt) (shut_string Tryd.underlying9 w2)
theorem superWrites_holds : Rows.SuperWritesSaid :=
  OpenClaim.holds_of_wide 11 Tryd.f11 rfl rfl rfl rfl rfl rfl rfl ⟨rfl, rfl, rfl, rfl, rfl⟩ rfl rfl rfl rfl rfl (by kernel_rfl) Tryd.func11 (by kernel_rfl)
    (of_decide_eq_true (by kernel_rfl)) (by unfold Func.isWrapper; first | (rw [if_pos (by decide +kernel)]; kernel_rfl) | (rw [if_neg (by decide +kernel)]; exact ⟨rfl, rfl⟩))
    (fun os started H enc _ => lifted os started H enc)
end Go.Proofs.YtfkgfakjhjbidaaDoor.Su
