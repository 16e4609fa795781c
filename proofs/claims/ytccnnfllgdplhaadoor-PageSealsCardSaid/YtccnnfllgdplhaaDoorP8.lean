/-
  'coffer/cofferlaw.PageSeals' returns true at every input, and each argument reads behind the call as it read before: the row's statement 'Rows.PageSealsSaid', under its own condition alone (the two listed variables read as listed when the call begins).
-/
import Derived.Test.YtccnnfllgdplhaaDoorP7
import Derived.Test.YtccnnfllgdplhaaDoorRows
import Derived.ProofKit
import Derived.OpenShut
import Derived.LaidLaws
import Derived.LaidHandle
import Derived.Stop.Joined
import Derived.Stop.LaidErr
import Derived.Lib.LaidTab
import Derived.MakeChecks
import Derived.Lay
namespace Go.Proofs.YtccnnfllgdplhaaDoor.Pg
open Go.ChangeShapes Go.WideShapes Go.ChangeAt Go.ChangeMaps Go.RowKit
theorem own : ownKnob Tryd.prog.godebug = none := by kernel_rfl
theorem g_et : Tryd.prog.globalNamed "errors.errorType" = some 0 := by kernel_rfl
theorem one_row : ((List.range 226).filter fun t => Tryd.prog.rowNamed t [101, 114, 114, 111, 114]) = [34] := by kernel_rfl
theorem n_types : Tryd.prog.types.size = 226 := by kernel_rfl
theorem tK : (Tryd.prog.globals[1]?).map (·.type) = some 85 := by kernel_rfl
theorem c32 : Tryd.prog.cellsOf 85 = 64 := by kernel_rfl
theorem c30 : Tryd.prog.cellsOf 83 = 1 := by kernel_rfl
def laidP : List (String × DataW Unit) := Rows.pageSealsRow.laid
def laidE : List (String × DataW Unit) := [("errors.errorType", Rows.laid_errors_errorType)]
def laidK : List (String × DataW Unit) := [("coffer/sum.roundNumbers", Rows.laid_coffer_sum_roundNumbers)]
theorem eK : (Rows.laid_coffer_sum_roundNumbers : DataW Unit) = Lib.tabData .u32 (Sm.kList.map Int.ofNat) := by kernel_rfl
theorem kList_I : ∀ i : Fin 64, (Sm.kList.map Int.ofNat).getD i.1 0 = I (Sm.kF i.1) := by decide +kernel
/-- What the row's condition gives the walk: the two variables that a run reads. -/
theorem of_laid {W : World} (h : laidMetH Tryd.prog laidP W) : EB W ∧ Sm.KB W := by
  have h' : laidMet Tryd.prog laidK W ∧ handlesMet Tryd.prog laidE W := h
  obtain ⟨hk, hh⟩ := h'
  constructor
  · obtain ⟨name, u, ty, e1, e2, e3, e4, e5⟩ := hh _ (List.mem_singleton.2 rfl)
    have en : name = [101, 114, 114, 111, 114] := (Option.some.inj e1).symm
    subst en
    obtain rfl : 183 = u := Option.some.inj (Eq.trans (Eq.symm (by kernel_rfl)) e2)
    have hm : ty ∈ (List.range 226).filter fun t => Tryd.prog.rowNamed t [101, 114, 114, 111, 114] := List.mem_filter.2 ⟨List.mem_range.2 (by rw [← n_types]; exact e3), e4⟩
    rw [one_row] at hm
    obtain rfl := List.mem_singleton.1 hm
    have hh : typeHandle Tryd.prog 34 = hnd 34 := by kernel_rfl
    rw [hh] at e5
    simpa [EB] using World.var?_cell g_et e5 0
  · unfold laidK at hk
    rw [eK] at hk
    have b := fun i (hi : i < 64) => (Lib.tabIs_of_head (g := 1) (by kernel_rfl) tK Tryd.underlying85 Tryd.underlying83 c30 c32 hk).cell (g := 1) (by kernel_rfl) i (by simpa [Sm.kList] using hi)
    refine ⟨World.block_lt_of_cell? W _ (b 0 (by decide)), fun i hi => ?_⟩
    rw [b i hi]; exact congrArg (fun z => some (Value.int .u32 z)) (kList_I ⟨i, hi⟩)
section
variable {H : Type} {enc : TypeId × Value → H} {P : Program} {w : World} {base : Nat} {spare : Nat → Bool} {held : Bool} {t0 t1 t2 t3 t4 : TypeId}
/-- Five parameters, taken apart. -/
theorem open5 {args : Array Value} {ds : List (DataW H)} {ps : List MemPlace} (h : DataW.TrodAll enc P w base spare held [t0, t1, t2, t3, t4] args.toList ds ps) :
    ∃ v0 v1 v2 v3 v4 d0 d1 d2 d3 d4 p0 p1 p2 p3 p4, args = #[v0, v1, v2, v3, v4] ∧ ds = [d0, d1, d2, d3, d4] ∧ ps = p0 ++ (p1 ++ p2 ++ p3 ++ p4) ∧ DataW.Trod enc P w base spare held t0 v0 d0 p0 ∧ DataW.Trod enc P w base spare held t1 v1 d1 p1 ∧ DataW.Trod enc P w base spare held t2 v2 d2 p2 ∧ DataW.Trod enc P w base spare held t3 v3 d3 p3 ∧ DataW.Trod enc P w base spare held t4 v4 d4 p4 := by
  obtain ⟨v0, vs, d0, ds', p0, q, ea, rfl, rfl, h0, hr⟩ := trodAll_cons h
  have hr' : DataW.TrodAll enc P w base spare held [t1, t2, t3, t4] vs.toArray.toList ds' q := hr
  obtain ⟨v1, v2, v3, v4, d1, d2, d3, d4, p1, p2, p3, p4, eb, rfl, rfl, h1, h2, h3, h4⟩ := trodAll_four hr'
  refine ⟨v0, v1, v2, v3, v4, d0, d1, d2, d3, d4, p0, p1, p2, p3, p4, ?_, rfl, rfl, h0, h1, h2, h3, h4⟩
  apply Array.toList_inj.1
  rw [ea]
  have : vs = [v1, v2, v3, v4] := by simpa using congrArg Array.toList eb
  rw [this]
end
/-- A world in which both variables lie as listed. -/
noncomputable def wit (os : Os) : World := ((World.holding Tryd.prog os ⟨#[], #[], []⟩).setCell ⟨0, 0, none⟩ (.iface 183 (.agg #[hnd 34]))).layVars Tryd.prog laidK
theorem wit_os (os : Os) : (wit os).os = os := (World.layVars_os _ _ _).trans rfl
set_option maxRecDepth 100000 in
theorem lifted (os : Os) (started : os.Started) (H : Type) (enc : TypeId × Value → H) :
    ReturnsInHanded {} Tryd.checked os 9 .any (fun w args => (Rows.pageSealsSpec.pre enc Tryd.prog Tryd.f9 [] false w args ∧ laidMetH Tryd.prog laidP w) ∧ sizedMet enc Tryd.prog Tryd.f9 (OpenSpec.ofChange Rows.pageSealsSpec) false w args)
      (Rows.pageSealsSpec.post enc Tryd.prog Tryd.f9 false true false false) := by
  refine returnsInHanded_of_change_and (C := Tryd.checked) (X := fun w _ => laidMetH Tryd.prog laidP w) (fun _ _ _ hh h => h.of_heap hh) own started (by kernel_rfl) Tryd.func9
    (ChangeSpec.witness_shaped (enc := enc) (C := Tryd.checked) (os := os) (X := fun w _ => laidMetH Tryd.prog laidP w) false (wit os) #[.string ByteArray.empty, .int .i64 0, .int .i64 0, .string ByteArray.empty, .string ByteArray.empty] 8 (wit_os os)
      (World.shaped_of_ZipB (by kernel_rfl) (by kernel_rfl)) (by kernel_rfl) (by kernel_rfl) (by kernel_rfl)
      (laidMetH_of_parts (laidMet_of_run' 8 (by kernel_rfl) (by kernel_rfl)) (by kernel_rfl))) ?_
  intro W base args ds gs before hval0 hW _ _ hL _
  have hval : ∀ (j : Nat) t v, Tryd.f9.params[j]? = some t → args[j]? = some v → Value.okWide Tryd.prog W .any base t v := hval0
  have hW' := hW
  obtain ⟨p, q, hA0, hV, rfl, _, _⟩ := hW
  have hA : DataW.TrodAll enc Tryd.prog W 0 (fun _ => true) true Tryd.f9.params.toList args.toList ds p := hA0
  rw [Tryd.params9] at hA hval
  obtain ⟨v0, v1, v2, v3, v4, d0, d1, d2, d3, d4, p0, p1, p2, p3, p4, rfl, rfl, rfl, h0, h1, h2, h3, h4⟩ := open5 hA
  obtain ⟨rfl, rfl⟩ := trodVars_none hV
  obtain ⟨a0, rfl, rfl, rfl, w0⟩ := open_string Tryd.underlying9 (hval 0 9 v0 rfl rfl) h0
  obtain ⟨a1, rfl, rfl, rfl, w1⟩ := open_int Tryd.underlying3 (hval 1 3 v1 rfl rfl) h1
  obtain ⟨a2, rfl, rfl, rfl, w2⟩ := open_int Tryd.underlying3 (hval 2 3 v2 rfl rfl) h2
  obtain ⟨a3, rfl, rfl, rfl, w3⟩ := open_string Tryd.underlying9 (hval 3 9 v3 rfl rfl) h3
  obtain ⟨a4, rfl, rfl, rfl, w4⟩ := open_string Tryd.underlying9 (hval 4 9 v4 rfl rfl) h4
  clear hA0 hval0
  simp only [List.append_nil] at hW'
  obtain ⟨hE, hK⟩ := of_laid hL
  refine (law_any a0 a1 a2 a3 a4 W w0 w3 w4 hK hE).mono fun e W' ⟨he, hb⟩ => ?_
  subst he
  refine ⟨_, rfl, _, _, _, [], [], [], hW', trodAll_mk1 (shut_bool Tryd.underlying4 _), ?_, rfl, hb.frame _, fun h => by cases h⟩
  exact ⟨[], [], shut_string Tryd.underlying9 w0, trodAll_mk4 (shut_int Tryd.underlying3 w1) (shut_int Tryd.underlying3 w2) (shut_string Tryd.underlying9 w3) (shut_string Tryd.underlying9 w4), rfl⟩
theorem pageSeals_holds : Rows.PageSealsSaid :=
  OpenClaim.holds_of_wide 9 Tryd.f9 rfl rfl rfl rfl rfl rfl rfl ⟨rfl, rfl, rfl, rfl, rfl⟩ rfl rfl rfl rfl rfl (by kernel_rfl) Tryd.func9 (by kernel_rfl)
    (of_decide_eq_true (by kernel_rfl)) (by unfold Func.isWrapper; first | (rw [if_pos (by decide +kernel)]; kernel_rfl) | (rw [if_neg (by decide +kernel)]; exact ⟨rfl, rfl⟩))
    (fun os started H enc _ => lifted os started H enc)
end Go.Proofs.YtccnnfllgdplhaaDoor.Pg
