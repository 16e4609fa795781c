/-
  'coffer/cofferlaw.DeviceKeeps' returns true at every input, and each argument reads behind the call as it read before: the row's statement 'Rows.DeviceKeepsSaid', under its own condition alone (the one listed variable reads as listed when the call begins).
-/
import Derived.Test.YtccnnfllgdplhaaDoorG8
import Derived.Lib.SmallJoins
namespace Go.Proofs.YtccnnfllgdplhaaDoor
open Go.ChangeShapes Go.WideShapes Go.ChangeAt Go.ChangeMaps Go.RowKit
theorem cellsOp : Tryd.prog.cellsOf 56 = 4 := by kernel_rfl
theorem cellsB : Tryd.prog.cellsOf 54 = 1 := by kernel_rfl
theorem list4 {α : Type} {l : List α} (h : l.length = 4) : ∃ a b c d, l = [a, b, c, d] := by
  match l, h with
  | [a, b, c, d], _ => exact ⟨a, b, c, d, rfl⟩
section
variable {H : Type} {enc : TypeId × Value → H} {w : World} {base : Nat} {sp : Nat → Bool} {held : Bool} {fuel : Nat} {a0 : Option Addr} {len cap : Nat} {x : DataW H × List MemPlace}
theorem slice_nil {P : Program} {t e : TypeId} (ht : P.underlying t = some (.slice e)) (h : DataW.trod enc P w base sp held fuel t [.slice a0 len cap] = some x) : a0 = none → cap = 0 := by
  intro e0
  subst e0
  rcases DataW.trod_slice ht h with ⟨h0, _⟩ | ⟨a, len', cap', elems, rest, n, _, hcs, _⟩
  · simp at h0; exact h0.2
  · simp at hcs
theorem op_open {fuel : Nat} {cs : List Value} {x : DataW H × List MemPlace} {a : Addr} (hs : a.spot = none) (hc : w.cells? base a 4 = some cs) (h : DataW.trod enc Tryd.prog w base sp held fuel 56 cs = some x) : ∃ d : OpD, OpIs w a.block a.off d := by
  obtain ⟨y0, y1, y2, y3, n, _, hl, h0, h1, h2, h3⟩ := Go.Joins.trod_struct4 Tryd.underlying56 h
  obtain ⟨_, hl4, hcell⟩ := World.cells?_some hc
  obtain ⟨v0, v1, v2, v3, rfl⟩ : ∃ v0 v1 v2 v3, cs = [v0, v1, v2, v3] := list4 hl4
  obtain ⟨b, off, spot⟩ := a
  obtain rfl : spot = none := hs
  have k0 := hcell 0 (by decide)
  have k1 := hcell 1 (by decide)
  have k2 := hcell 2 (by decide)
  have k3 := hcell 3 (by decide)
  simp only [cells3, cells9, cellsB, List.drop_succ_cons, List.drop_zero, List.take_succ_cons, List.take_zero] at h0 h1 h2 h3
  obtain ⟨m0, e0, _, w0⟩ := DataW.trod_int Tryd.underlying3 h0
  obtain ⟨m1, e1, _, w1⟩ := DataW.trod_int Tryd.underlying3 h1
  obtain ⟨s, e2, _, hsz⟩ := DataW.trod_string Tryd.underlying9 h2
  injection e0 with e0
  injection e1 with e1
  injection e2 with e2
  subst e0 e1 e2
  obtain ⟨a3, l3, c3, rfl⟩ : ∃ a3 l3 c3, v3 = .slice a3 l3 c3 := by
    rcases DataW.trod_slice Tryd.underlying54 h3 with ⟨e, _⟩ | ⟨a, len', cap', _, _, _, _, e, _⟩
    · injection e with e; exact ⟨_, _, _, e⟩
    · injection e with e; exact ⟨_, _, _, e⟩
  obtain ⟨ks, rfl, mk, tk⟩ := bools_open h3
  have hw1 : -9223372036854775808 ≤ m1 ∧ m1 ≤ 9223372036854775807 := by simpa [Lit.wf, IntKind.min, IntKind.max, IntKind.signed, IntKind.bits] using w1
  exact ⟨⟨m0, m1, s, a3, ks, c3⟩, World.block_lt_of_cell? w _ k0, k0, k1, k2, k3, tk, hw1.2, hsz, mk⟩
theorem ops_open (h : DataW.trod enc Tryd.prog w base sp held fuel 49 [.slice a0 len cap] = some x) : ∃ l : List OpD, l.length = len ∧ len ≤ maxLen ∧ OpsAt w a0 l := by
  obtain ⟨hl, hc⟩ := slice_open Tryd.underlying49 (by rw [cellsOp]; decide) h
  obtain ⟨l, h1, h2⟩ := list_of (fun i (d : OpD) => ∃ g o, a0 = some ⟨g, o, none⟩ ∧ OpIs w g (o + i * 4) d) len (fun i hi => by
    obtain ⟨a, cs, n, y, rfl, hsp, h3, h4⟩ := hc i hi
    rw [cellsOp] at h3
    obtain ⟨b, off, spot⟩ := a
    obtain rfl : spot = none := hsp
    rw [addr_addO] at h3
    obtain ⟨d, hd⟩ := op_open (a := ⟨b, off + i * 4, none⟩) rfl h3 h4
    exact ⟨d, b, off, rfl, hd⟩)
  exact ⟨l, h1, hl, h2⟩
end
set_option maxRecDepth 100000 in
theorem dk_lifted (os : Os) (started : os.Started) (H : Type) (enc : TypeId × Value → H) :
    ReturnsInHanded {} Tryd.checked os 6 .any (fun w args => (Rows.deviceKeepsSpec.pre enc Tryd.prog Tryd.f6 [] false w args ∧ laidMetH Tryd.prog laidB w) ∧ sizedMet enc Tryd.prog Tryd.f6 (OpenSpec.ofChange Rows.deviceKeepsSpec) false w args)
      (Rows.deviceKeepsSpec.post enc Tryd.prog Tryd.f6 false true false false) := by
  refine returnsInHanded_of_change_and (C := Tryd.checked) (X := fun w _ => laidMetH Tryd.prog laidB w) (fun _ _ _ hh h => h.of_heap hh) own started (by kernel_rfl) Tryd.func6
    (ChangeSpec.witness_at (enc := enc) (C := Tryd.checked) (os := os) (X := fun w _ => laidMetH Tryd.prog laidB w) false ((World.holding Tryd.prog os ⟨#[], #[], []⟩).setCell ⟨0, 0, none⟩ (.iface 183 (.agg #[hnd 34]))) #[.slice none 0 0, .slice none 0 0] 8 rfl
      (by kernel_rfl) (by kernel_rfl) (by kernel_rfl) (by kernel_rfl) (by kernel_rfl) (laidMetH_of_parts (laidMet_nil _ _) (by kernel_rfl))) ?_
  intro W base args ds gs before hval0 hW _ _ hL _
  have hval : ∀ (j : Nat) t v, Tryd.f6.params[j]? = some t → args[j]? = some v → Value.okWide Tryd.prog W .any base t v := hval0
  have hW' := hW
  obtain ⟨p, q, hA0, hV, rfl, _, _⟩ := hW
  have hA : DataW.TrodAll enc Tryd.prog W 0 (fun _ => true) true Tryd.f6.params.toList args.toList ds p := hA0
  rw [Tryd.params6] at hA hval
  obtain ⟨v0, v1, d0, d1, p0, p1, rfl, rfl, rfl, h0, h1⟩ := trodAll_two hA
  obtain ⟨rfl, rfl⟩ := trodVars_none hV
  obtain ⟨a0, n0, c0, rfl⟩ := okWide_slice Tryd.underlying49 (hval 0 49 v0 rfl rfl)
  obtain ⟨a1, n1, c1, rfl⟩ := okWide_slice Tryd.underlying22 (hval 1 22 v1 rfl rfl)
  have h0k := h0
  have h1k := h1
  obtain ⟨fu0, hf0⟩ := h0
  obtain ⟨fu1, hf1⟩ := h1
  clear hA0 hval0
  simp only [List.append_nil] at hW'
  have hlt : ∀ x, x ∈ p0 ∨ x ∈ p1 → x.block < W.heap.size := fun x hx => by
    refine hW'.lt x ?_
    rcases hx with h | h <;> simp [h]
  obtain ⟨l, rfl, m0, t0⟩ := ops_open (w := W) (by simpa [Value.cells] using hf0)
  have hnil := slice_nil (w := W) Tryd.underlying22 (by simpa [Value.cells] using hf1)
  obtain ⟨ls, rfl, m1, t1, s1⟩ := texts_open (w := W) (by simpa [Value.cells] using hf1)
  refine (dk_law a0 a1 c0 c1 l ls W t0 t1 m0 m1 s1 hnil (of_laid hL)).mono fun e W' ⟨he, hb⟩ => ?_
  subst he
  refine ⟨_, rfl, _, _, _, [], p0 ++ p1, [], hW', trodAll_mk1 (shut_bool Tryd.underlying4 _), ?_, rfl, hb.frame _, fun h => by cases h⟩
  exact trodAll_mk2 (Below.trod laidOut (by kernel_rfl) (of_decide_eq_true (by kernel_rfl)) h0k hb (fun x hx => hlt x (Or.inl hx))) (Below.trod laidOut (by kernel_rfl) (of_decide_eq_true (by kernel_rfl)) h1k hb (fun x hx => hlt x (Or.inr hx)))
theorem deviceKeeps_holds : Rows.DeviceKeepsSaid :=
  OpenClaim.holds_of_wide 6 Tryd.f6 rfl rfl rfl rfl rfl rfl rfl ⟨rfl, rfl, rfl, rfl, rfl⟩ rfl rfl rfl rfl rfl (by kernel_rfl) Tryd.func6 (by kernel_rfl)
    (of_decide_eq_true (by kernel_rfl)) (by unfold Func.isWrapper; first | (rw [if_pos (by decide +kernel)]; kernel_rfl) | (rw [if_neg (by decide +kernel)]; exact ⟨rfl, rfl⟩))
    (fun os started H enc _ => dk_lifted os started H enc)
end Go.Proofs.YtccnnfllgdplhaaDoor
