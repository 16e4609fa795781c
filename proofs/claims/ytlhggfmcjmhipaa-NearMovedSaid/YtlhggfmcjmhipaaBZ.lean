/-
  'coffer/cofferkeep.NearMoved' returns true at every input, and each argument reads behind the call as it read before: the row's statement 'Rows.NearMovedSaid'. No condition.
-/
import Derived.Test.YtlhggfmcjmhipaaB09
import Derived.Test.YtlhggfmcjmhipaaRows
namespace Go.Proofs.Ytlhggfmcjmhipaa.Nr
open Go.ChangeShapes Go.WideShapes Go.ChangeAt Go.ChangeMaps Go.RowKit
open It
set_option maxRecDepth 100000 in
theorem moved_all (a : Option Addr) (c : Nat) (ds : List ItD) (b : Option Addr) (d : Nat) (ys : List Int) (k p q : Int) (w : World) (h : Its w a ds) (hl : ds.length ≤ maxLen) (hy : Ints w b ys) :
    Calls Try.prog 4 #[.slice a ds.length c, .slice b ys.length d, .int .i64 k, .int .i64 p, .int .i64 q] w fun e w' => e = .returned (.bool true) ∧ Below w.heap.size w w' := by
  have g0 : Below w.heap.size w ((w.alloc (.cells #[.int .i64 p] 3)).alloc (.cells #[.int .i64 q] 3)) := (below_alloc w _).trans ((below_alloc _ _).mono (by simp))
  have h0 := h.below g0
  have HH : Hid _ := held_any a c ds _ h0 hl
  cases hheld : heldB (xsOf ds) with
  | false =>
    rw [hheld] at HH
    go_enter Try.func4, Try.ntmps4
    go_wp2_with fail
    refine Calls.mono HH.out ?_
    rintro e w1 ⟨rfl, g1⟩
    have b1 := g0.trans (g1.mono g0.size)
    go_wp2_with fail
    go_ret
    exact ⟨rfl, b1⟩
  | true =>
    have hl65 : ds.length ≤ 65 := by
      have h0 := hheld
      unfold heldB at h0
      rw [Bool.and_eq_true, decide_eq_true_eq] at h0
      have h1 : (xsOf ds).length = ds.length := by simp [xsOf]
      omega
    by_cases h12 : ys.length ≤ 12
    · exact moved_main a c ds b d ys k p q w h hl65 hheld hy h12
    · have h12' : (12 : Int) < (ys.length : Int) := by omega
      rw [hheld] at HH
      go_enter Try.func4, Try.ntmps4
      go_wp2_with fail
      refine Calls.mono HH.out ?_
      rintro e w1 ⟨rfl, g1⟩
      have b1 := g0.trans (g1.mono g0.size)
      go_wp2_with fail
      go_ret
      exact ⟨rfl, b1⟩
set_option maxRecDepth 100000 in
theorem moved_lifted (os : Os) (started : os.Started) (H : Type) (enc : TypeId × Value → H) :
    ReturnsInHanded {} Try.checked os 4 .any (Rows.nearMovedSpec.pre6 enc Try.prog Try.f4 Rows.nearMovedRow.domain false) (Rows.nearMovedSpec.post enc Try.prog Try.f4 false true false false) := by
  refine returnsInHanded_of_change (C := Try.checked) own started (by kernel_rfl) Try.func4
    (ChangeSpec.witness6 (enc := enc) (C := Try.checked) false ⟨#[], #[.slice none 0 0, .slice none 0 0, .int .i64 0, .int .i64 0, .int .i64 0], []⟩ 8 (by kernel_rfl) (by kernel_rfl) (by kernel_rfl) (by kernel_rfl)) ?_
  intro W base args ds gs before hval0 hW _ _
  have hval : ∀ (j : Nat) t v, Try.f4.params[j]? = some t → args[j]? = some v → Value.okWide Try.prog W .any base t v := hval0
  have hW' := hW
  obtain ⟨p, q, hA0, hV, rfl, _, _⟩ := hW
  have hA : DataW.TrodAll enc Try.prog W 0 (fun _ => true) true Try.f4.params.toList args.toList ds p := hA0
  rw [Try.params4] at hA hval
  obtain ⟨v0, vs0, d0, ds0, p0, q0, hargs, rfl, rfl, h0, r0⟩ := trodAll_cons hA
  obtain ⟨v1, vs1, d1, ds1, p1, q1, rfl, rfl, rfl, h1, r1⟩ := trodAll_cons r0
  obtain ⟨v2, vs2, d2, ds2, p2, q2, rfl, rfl, rfl, h2, r2⟩ := trodAll_cons r1
  obtain ⟨v3, vs3, d3, ds3, p3, q3, rfl, rfl, rfl, h3, r3⟩ := trodAll_cons r2
  obtain ⟨v4, vs4, d4, ds4, p4, q4, rfl, rfl, rfl, h4, r4⟩ := trodAll_cons r3
  obtain ⟨rfl, rfl, rfl⟩ := trodAll_nil r4
  obtain rfl : args = #[v0, v1, v2, v3, v4] := by cases args; simp_all
  obtain ⟨rfl, rfl⟩ := trodVars_none hV
  obtain ⟨a0, len, cap, rfl⟩ := okWide_slice Try.underlying22 (hval 0 22 v0 rfl rfl)
  obtain ⟨a1, len1, cap1, rfl⟩ := okWide_slice Try.underlying23 (hval 1 23 v1 rfl rfl)
  obtain ⟨a2, rfl, rfl, rfl, w2⟩ := open_int Try.underlying3 (hval 2 3 v2 rfl rfl) h2
  obtain ⟨a3, rfl, rfl, rfl, w3⟩ := open_int Try.underlying3 (hval 3 3 v3 rfl rfl) h3
  obtain ⟨a4, rfl, rfl, rfl, w4⟩ := open_int Try.underlying3 (hval 4 3 v4 rfl rfl) h4
  clear hA0 hval0
  have h0k := h0
  have h1k := h1
  obtain ⟨fu0, hf0⟩ := h0
  obtain ⟨fu1, hf1⟩ := h1
  have hlt : ∀ x, x ∈ p0 ∨ x ∈ p1 → x.block < W.heap.size := fun x hx => by
    refine hW'.lt x ?_
    rcases hx with h | h <;> simp [h]
  obtain ⟨L, rfl, hm, _, hIts⟩ := items_open (w := W) (by simpa [Value.cells] using hf0)
  obtain ⟨ys, rfl, _, _, hInts⟩ := ints_open (w := W) (by simpa [Value.cells] using hf1)
  simp only [List.append_nil] at hW'
  refine (moved_all a0 cap L a1 cap1 ys a2 a3 a4 W hIts hm hInts).mono fun e W' ⟨he, hb⟩ => ?_
  subst he
  refine ⟨_, rfl, _, _, _, [], p0 ++ (p1 ++ ([] ++ ([] ++ ([] ++ [])))), [], hW', trodAll_mk1 (shut_bool Try.underlying4 _), ?_, rfl, hb.frame _, fun h => by cases h⟩
  exact trodAll_cons_mk (Below.trod laidOut (by kernel_rfl) (of_decide_eq_true (by kernel_rfl)) h0k hb (fun x hx => hlt x (Or.inl hx))) (trodAll_cons_mk (Below.trod laidOut (by kernel_rfl) (of_decide_eq_true (by kernel_rfl)) h1k hb (fun x hx => hlt x (Or.inr hx))) (trodAll_cons_mk (shut_int Try.underlying3 w2) (trodAll_cons_mk (shut_int Try.underlying3 w3) (trodAll_cons_mk (shut_int Try.underlying3 w4) trodAll_mk0))))
theorem nearMoved_is : Rows.NearMovedSaid :=
  OpenClaim.holds_of_wide 4 Try.f4 rfl rfl rfl rfl rfl rfl rfl ⟨rfl, rfl, rfl, rfl, rfl⟩ rfl rfl rfl rfl rfl (by kernel_rfl) Try.func4 (by kernel_rfl)
    (of_decide_eq_true (by kernel_rfl)) (by unfold Func.isWrapper; first | (rw [if_pos (by decide +kernel)]; kernel_rfl) | (rw [if_neg (by decide +kernel)]; exact ⟨rfl, rfl⟩))
    (fun os started H enc _ => moved_lifted os started H enc)
end Go.Proofs.Ytlhggfmcjmhipaa.Nr
namespace Go.Proofs.Ytlhggfmcjmhipaa
theorem nearMoved_holds : Rows.NearMovedSaid := Nr.nearMoved_is
#print axioms nearMoved_holds
end Go.Proofs.Ytlhggfmcjmhipaa
