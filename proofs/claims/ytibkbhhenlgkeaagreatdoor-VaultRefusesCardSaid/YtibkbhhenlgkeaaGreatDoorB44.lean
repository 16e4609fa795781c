/-
  'coffer/cofferlaw.VaultRefuses' returns true at every input, and each argument reads behind the call as it read before: the row's statement 'Rows.VaultRefusesSaid', under its own condition alone (the two listed variables read as listed when the call begins).
-/
import Derived.Test.YtibkbhhenlgkeaaGreatDoorB43
import Derived.Test.YtibkbhhenlgkeaaGreatDoorRows
import Derived.ProofKit
import Derived.Lib.SmallJoins
import Derived.OpenShut
import Derived.LaidLaws
import Derived.LaidHandle
import Derived.Stop.Joined
import Derived.Stop.LaidErr
import Derived.Lib.LaidTab
import Derived.MakeChecks
import Derived.Lay
import Derived.WideKeyElems2
namespace Go.Proofs.YtibkbhhenlgkeaaGreatDoor.Vt
open Go.ChangeShapes Go.WideShapes Go.ChangeAt Go.ChangeMaps Go.RowKit
theorem own : ownKnob Tryz.prog.godebug = none := by kernel_rfl
theorem laidOut : laidOutB Tryz.prog = true := by kernel_rfl
theorem cells9 : Tryz.prog.cellsOf 9 = 1 := by kernel_rfl
theorem g_et : Tryz.prog.globalNamed "errors.errorType" = some 0 := by kernel_rfl
theorem one_row : ((List.range 271).filter fun t => Tryz.prog.rowNamed t [101, 114, 114, 111, 114]) = [39] := by kernel_rfl
theorem n_types : Tryz.prog.types.size = 271 := by kernel_rfl
theorem tK : (Tryz.prog.globals[2]?).map (·.type) = some 72 := by kernel_rfl
theorem c32 : Tryz.prog.cellsOf 72 = 64 := by kernel_rfl
theorem c30 : Tryz.prog.cellsOf 70 = 1 := by kernel_rfl
def laidP : List (String × DataW Unit) := Rows.vaultRefusesRow.laid
def laidE : List (String × DataW Unit) := [("errors.errorType", Rows.laid_errors_errorType)]
def laidK : List (String × DataW Unit) := [("coffer/sum.roundNumbers", Rows.laid_coffer_sum_roundNumbers)]
theorem eK : (Rows.laid_coffer_sum_roundNumbers : DataW Unit) = Lib.tabData .u32 (Sm.kList.map Int.ofNat) := by kernel_rfl
theorem kList_I : ∀ i : Fin 64, (Sm.kList.map Int.ofNat).getD i.1 0 = I (Sm.kF i.1) := by decide +kernel
/-- What the row's condition gives the walk: the two variables that a run reads. -/
theorem of_laid {W : World} (h : laidMetH Tryz.prog laidP W) : EB W ∧ Sm.KB W := by
  have h' : laidMet Tryz.prog laidK W ∧ handlesMet Tryz.prog laidE W := h
  obtain ⟨hk, hh⟩ := h'
  constructor
  · obtain ⟨name, u, ty, e1, e2, e3, e4, e5⟩ := hh _ (List.mem_singleton.2 rfl)
    have en : name = [101, 114, 114, 111, 114] := (Option.some.inj e1).symm
    subst en
    obtain rfl : 216 = u := Option.some.inj (Eq.trans (Eq.symm (by kernel_rfl)) e2)
    have hm : ty ∈ (List.range 271).filter fun t => Tryz.prog.rowNamed t [101, 114, 114, 111, 114] := List.mem_filter.2 ⟨List.mem_range.2 (by rw [← n_types]; exact e3), e4⟩
    rw [one_row] at hm
    obtain rfl := List.mem_singleton.1 hm
    have hh : typeHandle Tryz.prog 39 = hnd 39 := by kernel_rfl
    rw [hh] at e5
    simpa [EB] using World.var?_cell g_et e5 0
  · unfold laidK at hk
    rw [eK] at hk
    have b := fun i (hi : i < 64) => (Lib.tabIs_of_head (g := 2) (by kernel_rfl) tK Tryz.underlying72 Tryz.underlying70 c30 c32 hk).cell (g := 2) (by kernel_rfl) i (by simpa [Sm.kList] using hi)
    refine ⟨World.block_lt_of_cell? W _ (b 0 (by decide)), fun i hi => ?_⟩
    rw [b i hi]; exact congrArg (fun z => some (Value.int .u32 z)) (kList_I ⟨i, hi⟩)
/-- The entries' texts. -/
def asS : Value → Option ByteArray
  | .string s => some s
  | _ => none
theorem map_open {H : Type} {enc : TypeId × Value → H} {w : World} {base : Nat} {sp : Nat → Bool} {held : Bool} {fuel : Nat} {a : Option Nat} {x : DataW H × List MemPlace} (h : DataW.trod enc Tryz.prog w base sp held fuel 45 [.map a] = some x) :
    ∃ n g, MapV Tryz.prog w (.map a) n (sv g) ∧ ∀ i s, g i = some s → kOk i := by
  rcases WideElems.open_map Tryz.underlying45 h with ⟨hcs, _⟩ | ⟨b, es, clock, m, _, hcs, hb, _, F, _⟩
  · have ha : a = none := by simpa using hcs
    subst ha
    exact ⟨0, fun _ => none, Or.inl ⟨rfl, fun _ => rfl⟩, fun i s h => by cases h⟩
  · have ha : a = some b := by simpa using hcs
    subst ha
    obtain ⟨f, hf, hv⟩ := MapF.of_fit (P := Tryz.prog) und3 hb F
    have hs : ∀ i v, f i = some v → ∃ s, v = .string s := fun i v hi => by
      obtain ⟨y, hy, rfl⟩ := hv i v hi
      obtain ⟨z, hz⟩ := F.reads y hy
      obtain ⟨u, hu, _⟩ := WideElems.rd_val hz
      obtain ⟨s, hs, _⟩ := WideElems.elemAt_string Tryz.underlying9 hu
      exact ⟨s, hs⟩
    refine ⟨es.size, fun i => if kOk i then (f i).bind asS else none, Or.inr ⟨b, rfl, hf.congr fun i hi => ?_⟩, fun i s h => ?_⟩
    · show ((if kOk i then (f i).bind asS else none).map Value.string) = f i
      rw [if_pos hi]
      cases hfi : f i with
      | none => rfl
      | some v => obtain ⟨s, rfl⟩ := hs i v hfi; rfl
    · dsimp only at h
      by_cases hi : kOk i
      · exact hi
      · rw [if_neg hi] at h; cases h
/-- A world in which both variables lie as listed. -/
noncomputable def wit (os : Os) : World := ((World.holding Tryz.prog os ⟨#[], #[], []⟩).setCell ⟨0, 0, none⟩ (.iface 216 (.agg #[hnd 39]))).layVars Tryz.prog laidK
theorem wit_os (os : Os) : (wit os).os = os := (World.layVars_os _ _ _).trans rfl
set_option maxRecDepth 100000 in
theorem lifted (os : Os) (started : os.Started) (H : Type) (enc : TypeId × Value → H) :
    ReturnsInHanded {} Tryz.checked os 4 .any (fun w args => (Rows.vaultRefusesSpec.pre enc Tryz.prog Tryz.f4 [] false w args ∧ laidMetH Tryz.prog laidP w) ∧ sizedMet enc Tryz.prog Tryz.f4 (OpenSpec.ofChange Rows.vaultRefusesSpec) false w args)
      (Rows.vaultRefusesSpec.post enc Tryz.prog Tryz.f4 false true false false) := by
  refine returnsInHanded_of_change_and (C := Tryz.checked) (X := fun w _ => laidMetH Tryz.prog laidP w) (fun _ _ _ hh h => h.of_heap hh) own started (by kernel_rfl) Tryz.func4
    (ChangeSpec.witness_shaped (enc := enc) (C := Tryz.checked) (os := os) (X := fun w _ => laidMetH Tryz.prog laidP w) false (wit os) #[.map none, .int .i64 0] 8 (wit_os os)
      (World.shaped_of_ZipB (by kernel_rfl) (by kernel_rfl)) (by kernel_rfl) (by kernel_rfl) (by kernel_rfl)
      (laidMetH_of_parts (laidMet_of_run' 8 (by kernel_rfl) (by kernel_rfl)) (by kernel_rfl))) ?_
  intro W base args ds gs before hval0 hW _ _ hL _
  have hval : ∀ (j : Nat) t v, Tryz.f4.params[j]? = some t → args[j]? = some v → Value.okWide Tryz.prog W .any base t v := hval0
  have hW' := hW
  obtain ⟨p, q, hA0, hV, rfl, _, _⟩ := hW
  have hA : DataW.TrodAll enc Tryz.prog W 0 (fun _ => true) true Tryz.f4.params.toList args.toList ds p := hA0
  rw [Tryz.params4] at hA hval
  obtain ⟨v0, v1, d0, d1, p0, p1, rfl, rfl, rfl, h0, h1⟩ := trodAll_two hA
  obtain ⟨rfl, rfl⟩ := trodVars_none hV
  obtain ⟨n1, rfl, rfl, rfl, w1⟩ := open_int Tryz.underlying3 (hval 1 3 v1 rfl rfl) h1
  obtain ⟨a0, rfl⟩ := okWide_map Tryz.underlying45 (hval 0 45 v0 rfl rfl)
  clear hA0 hval0
  have h0k := h0
  obtain ⟨fu0, hf0⟩ := h0
  obtain ⟨nm, g, hM, hko⟩ := map_open hf0
  have hlt : ∀ x, x ∈ p0 → x.block < W.heap.size := fun x hx => hW'.lt x (by simp [hx])
  obtain ⟨hE, hK⟩ := of_laid hL
  refine (law_any (.map a0) nm g n1 W hM hko hK hE).mono fun e' W' ⟨he, hb⟩ => ?_
  subst he
  simp only [List.append_nil] at hW'
  refine ⟨_, rfl, _, _, _, [], p0 ++ [], [], hW', trodAll_mk1 (shut_bool Tryz.underlying4 _), ?_, rfl, hb.frame _, fun h => by cases h⟩
  exact trodAll_mk2 (Below.trod laidOut (by kernel_rfl) (of_decide_eq_true (by kernel_rfl)) h0k hb hlt) (shut_int Tryz.underlying3 w1)
theorem vaultRefuses_holds : Rows.VaultRefusesSaid :=
  OpenClaim.holds_of_wide 4 Tryz.f4 rfl rfl rfl rfl rfl rfl rfl ⟨rfl, rfl, rfl, rfl, rfl⟩ rfl rfl rfl rfl rfl (by kernel_rfl) Tryz.func4 (by kernel_rfl)
    (of_decide_eq_true (by kernel_rfl)) (by unfold Func.isWrapper; first | (rw [if_pos (by decide +kernel)]; kernel_rfl) | (rw [if_neg (by decide +kernel)]; exact ⟨rfl, rfl⟩))
    (fun os started H enc _ => lifted os started H enc)
end Go.Proofs.YtibkbhhenlgkeaaGreatDoor.Vt
