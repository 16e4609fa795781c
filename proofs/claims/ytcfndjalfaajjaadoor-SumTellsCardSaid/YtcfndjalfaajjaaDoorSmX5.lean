/-
  'coffer/cofferlaw.SumTells' returns true at every input, and each argument reads behind the call as it read before: the row's statement 'Rows.SumTellsSaid', under its own condition alone (the four listed tables read as listed when the call begins).
-/
import Derived.Test.YtcfndjalfaajjaaDoorSmX4
import Derived.Test.YtcfndjalfaajjaaDoorRows
import Derived.ProofKit
import Derived.SliceStrings
import Derived.OpenShut
import Derived.Stop.Joined
import Derived.Stop.LaidErr
import Derived.Lib.LaidTab
import Derived.MakeChecks
import Derived.Lay
namespace Go.Proofs.YtcfndjalfaajjaaDoor.Sm
open Go.ChangeShapes Go.WideShapes Go.ChangeAt Go.ChangeMaps Go.RowKit
theorem own : ownKnob Tryd.prog.godebug = none := by kernel_rfl
theorem laidOut : laidOutB Tryd.prog = true := by kernel_rfl
theorem cells9 : Tryd.prog.cellsOf 9 = 1 := by kernel_rfl
theorem cells5 : Tryd.prog.cellsOf 5 = 1 := by kernel_rfl
theorem t64 : (Tryd.prog.globals[5]?).map (·.type) = some 71 := by kernel_rfl
theorem tK : (Tryd.prog.globals[0]?).map (·.type) = some 43 := by kernel_rfl
theorem u88 : Tryd.prog.underlying 71 = some (.array 64 5) := by kernel_rfl
theorem c88 : Tryd.prog.cellsOf 71 = 64 := by kernel_rfl
theorem c32 : Tryd.prog.cellsOf 43 = 64 := by kernel_rfl
theorem c30 : Tryd.prog.cellsOf 41 = 1 := by kernel_rfl
def z64 : List Int := [0, 1, 56, 2, 57, 49, 28, 3, 61, 58, 42, 50, 38, 29, 17, 4, 62, 47, 59, 36, 45, 43, 51, 22, 53, 39, 33, 30, 24, 18, 12, 5, 63, 55, 48, 27, 60, 41, 37, 16, 46, 35, 44, 21, 52, 32, 23, 11, 54, 26, 40, 15, 34, 20, 31, 10, 25, 14, 19, 9, 13, 8, 7, 6]
def laidL : List (String × DataW Unit) := Rows.sumTellsRow.laid
theorem e64 : (Rows.laid_math_bits_deBruijn64tab : DataW Unit) = Lib.tabData .u8 z64 := by kernel_rfl
theorem eK : (Rows.laid_coffer_sum_roundNumbers : DataW Unit) = Lib.tabData .u32 (kList.map Int.ofNat) := by kernel_rfl
theorem kList_I : ∀ i : Fin 64, (kList.map Int.ofNat).getD i.1 0 = I (kF i.1) := by decide +kernel
/-- What the row's condition gives the walk: the two tables that a run reads. -/
theorem of_laid {W : World} (h : laidMetH Tryd.prog laidL W) : KB W ∧ DB W := by
  rw [MakeChecks.laidMetH_plain _ _ _ (by kernel_rfl)] at h
  have h1 := laidMet.tail h
  have h3 := laidMet.tail (laidMet.tail h1)
  rw [e64] at h1
  rw [eK] at h3
  have a := (Lib.tabIs_of_head (g := 5) (by kernel_rfl) t64 Tryd.underlying71 Tryd.underlying5 cells5 c88 h1).cell (g := 5) (by kernel_rfl) 15 (by decide)
  have b := fun i (hi : i < 64) => (Lib.tabIs_of_head (g := 0) (by kernel_rfl) tK Tryd.underlying43 Tryd.underlying41 c30 c32 h3).cell (g := 0) (by kernel_rfl) i (by simpa [kList] using hi)
  refine ⟨⟨World.block_lt_of_cell? W _ (b 0 (by decide)), fun i hi => ?_⟩, World.block_lt_of_cell? W _ a, ?_⟩
  · rw [b i hi]; exact congrArg (fun z => some (Value.int .u32 z)) (kList_I ⟨i, hi⟩)
  · exact a
set_option maxRecDepth 100000 in
theorem lifted (os : Os) (started : os.Started) (H : Type) (enc : TypeId × Value → H) :
    ReturnsInHanded {} Tryd.checked os 3 .any (fun w args => (Rows.sumTellsSpec.pre enc Tryd.prog Tryd.f3 [] false w args ∧ laidMetH Tryd.prog laidL w) ∧ sizedMet enc Tryd.prog Tryd.f3 (OpenSpec.ofChange Rows.sumTellsSpec) false w args)
      (Rows.sumTellsSpec.post enc Tryd.prog Tryd.f3 false true false false) := by
  refine returnsInHanded_of_change_and (C := Tryd.checked) (X := fun w _ => laidMetH Tryd.prog laidL w) (fun _ _ _ hh h => h.of_heap hh) own started (by kernel_rfl) Tryd.func3
    (ChangeSpec.witness_shaped (enc := enc) (C := Tryd.checked) (os := os) (X := fun w _ => laidMetH Tryd.prog laidL w) false (World.laidAll Tryd.prog os laidL) #[.string ByteArray.empty, .int .i64 0, .int .u8 0, .slice none 0 0] 8 (World.laidAll_os _ _ _)
      (World.shaped_of_ZipB (by kernel_rfl) (by kernel_rfl)) (by kernel_rfl) (by kernel_rfl) (by kernel_rfl)
      (by rw [MakeChecks.laidMetH_plain _ _ _ (by kernel_rfl)]; exact laidMet_laidAll _ (by kernel_rfl) (by kernel_rfl))) ?_
  intro W base args ds gs before hval0 hW _ _ hL _
  have hval : ∀ (j : Nat) t v, Tryd.f3.params[j]? = some t → args[j]? = some v → Value.okWide Tryd.prog W .any base t v := hval0
  have hW' := hW
  obtain ⟨p, q, hA0, hV, rfl, _, _⟩ := hW
  have hA : DataW.TrodAll enc Tryd.prog W 0 (fun _ => true) true Tryd.f3.params.toList args.toList ds p := hA0
  rw [Tryd.params3] at hA hval
  obtain ⟨v0, v1, v2, v3, d0, d1, d2, d3, p0, p1, p2, p3, rfl, rfl, rfl, h0, h1, h2, h3⟩ := trodAll_four hA
  obtain ⟨rfl, rfl⟩ := trodVars_none hV
  obtain ⟨s, rfl, rfl, rfl, ws⟩ := open_string Tryd.underlying9 (hval 0 9 v0 rfl rfl) h0
  obtain ⟨n, rfl, rfl, rfl, wn⟩ := open_int Tryd.underlying3 (hval 1 3 v1 rfl rfl) h1
  obtain ⟨k, rfl, rfl, rfl, wk⟩ := open_int Tryd.underlying5 (hval 2 5 v2 rfl rfl) h2
  obtain ⟨a0, len, cap, rfl⟩ := okWide_slice Tryd.underlying22 (hval 3 22 v3 rfl rfl)
  obtain ⟨kb, rfl⟩ : ∃ kb : UInt8, k = (kb.toNat : Int) := by
    have hk : 0 ≤ k ∧ k ≤ 255 := by simpa [Lit.wf, IntKind.min, IntKind.max, IntKind.signed, IntKind.bits] using wk
    refine ⟨UInt8.ofNat k.toNat, ?_⟩
    rw [UInt8.toNat_ofNat', Nat.mod_eq_of_lt (by omega)]
    omega
  obtain ⟨hK, hD⟩ := of_laid hL
  have h3k := h3
  obtain ⟨fuel, hf⟩ := h3
  clear hA0 hval0
  simp only [List.append_nil, List.nil_append] at hW'
  have hlt : ∀ x ∈ p3, x.block < W.heap.size := fun x hx => by simpa using hW'.lt x hx
  have fin : ∀ e W', (e = Ending.returned (.bool true) ∧ Below W.heap.size W W') →
      ∃ v, e = Ending.returned v ∧ Rows.sumTellsSpec.post enc Tryd.checked.prog Tryd.f3 false true false false W #[.string s, .int .i64 n, .int .u8 (kb.toNat : Int), .slice a0 len cap] v W' := by
    intro e W' ⟨he, hb⟩
    subst he
    refine ⟨_, rfl, _, _, _, [], [] ++ ([] ++ ([] ++ p3)), [], hW', trodAll_mk1 (shut_bool Tryd.underlying4 _), ?_, rfl, hb.frame _, fun h => by cases h⟩
    exact trodAll_mk4 (shut_string Tryd.underlying9 ws) (shut_int Tryd.underlying3 wn) (shut_int Tryd.underlying5 wk) (Below.trod laidOut (by kernel_rfl) (of_decide_eq_true (by kernel_rfl)) h3k hb hlt)
  rcases open_strings Tryd.underlying22 Tryd.underlying9 cells9 hf with ⟨hcs, hx⟩ | ⟨a, len', cap', ss, hcs, _, hl, hm, hz, hx, hcell, hws⟩
  · simp [Value.cells] at hcs
    obtain ⟨rfl, rfl, rfl⟩ := hcs
    exact (law_any s n kb none 0 0 [] W ws (Nat.zero_le _) ⟨rfl, fun j hj => absurd hj (Nat.not_lt_zero _)⟩ (fun _ h => by cases h) hK hD).mono fin
  · simp [Value.cells] at hcs
    obtain ⟨rfl, rfl, rfl⟩ := hcs
    simp only [if_true] at hz
    refine (law_any s n kb (some a) len cap (ss.take len) W ws (Nat.le_trans hl hm) ⟨by simp; omega, fun j hj => ?_⟩ (fun q hq => hws q (List.mem_of_mem_take hq)) hK hD).mono fin
    have hc := hcell j (by omega)
    obtain ⟨b, off, spot⟩ := a
    have hspot : spot = none := by simpa [Addr.add] using World.cell?_spot (hcell 0 (by omega))
    subst hspot
    rw [add_plain] at hc
    refine ⟨b, off, ss.getD j ByteArray.empty, rfl, World.block_lt_of_cell? W _ hc, hc, ?_⟩
    unfold Hid
    rw [List.getElem?_take_of_lt hj, List.getD, List.getElem?_eq_getElem (by omega)]
    rfl
theorem sumTells_holds : Rows.SumTellsSaid :=
  OpenClaim.holds_of_wide 3 Tryd.f3 rfl rfl rfl rfl rfl rfl rfl ⟨rfl, rfl, rfl, rfl, rfl⟩ rfl rfl rfl rfl rfl (by kernel_rfl) Tryd.func3 (by kernel_rfl)
    (of_decide_eq_true (by kernel_rfl)) (by unfold Func.isWrapper; first | (rw [if_pos (by decide +kernel)]; kernel_rfl) | (rw [if_neg (by decide +kernel)]; exact ⟨rfl, rfl⟩))
    (fun os started H enc _ => lifted os started H enc)
end Go.Proofs.YtcfndjalfaajjaaDoor.Sm
