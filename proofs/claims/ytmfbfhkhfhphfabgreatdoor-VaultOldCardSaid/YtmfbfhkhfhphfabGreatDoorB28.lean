/-
  Part of the proof: a range over a method's value: the iterator has its receiver first, and yields so many things, in their order; the loop's body goes on, or returns.
-/
import Derived.RangeFuncNested
import Derived.RangeFuncLeaves
import Derived.Shelf.Abstract
import Derived.WalkKit
import Derived.OwnWalkIn
import Derived.TacticsInMore
import Derived.LoopNIn
import Derived.LoopIn
import Derived.Test.YtmfbfhkhfhphfabGreatDoorB24
namespace Go.Proofs.YtmfbfhkhfhphfabGreatDoor.Dv
open Go.RowKit Go.Shelf
theorem below_putObj {B l : Nat} (W : World) (o : Obj) (h : B ≤ l) : Below B W (W.putObj l o) :=
  ⟨rfl, rfl, rfl, by simp [World.putObj], fun k hk => World.putObj_heap_other (by omega)⟩
/-- What an iterator of N things owes, whatever a round does: J i: so many rounds went on; Jx: one said that no more are wanted. -/
def Gives (F : Fence) (n : Nat) (P : Program) (gf : Nat) (rv : Value) (enc : Nat → Array Value) (N : Nat) (I : Nat → World → Prop) : Prop :=
  ∀ (l : Nat) (J : Nat → World → Prop) (Jx : World → Prop) (W : World), (∀ i W, J i W → I i W) →
    (∀ i W1, i < N → J i W1 → YieldAt F (n - 1) P l (enc i) W1 fun e W' => (e = .returned (.bool true) ∧ J (i + 1) W') ∨ (e = .returned (.bool false) ∧ Jx W')) → J 0 W →
    CallsIn F n P gf #[rv, .func (.yield l) #[] #[]] W fun e W' => (∃ v, e = .returned v) ∧ (J N W' ∨ Jx W')
/-- How a round may end. -/
def roundPost (B : Nat) (I : World → Prop) (Ix : World → Prop) (W : World) : Exit → Act → World → Prop
  | .normal, _, W' => KeepsFrom B W W' ∧ I W'
  | .ret, _, W' => KeepsFrom B W W' ∧ Ix W'
  | _, _, _ => False
set_option maxHeartbeats 400000 in
theorem range_bound {F : Fence} {n : Nat} {P : Program} {g : Operand} {ps : Array Tmp} {assign body : Code} {Q : Exit → Act → World → Prop} {a : Act} {w : World} (hro : F.round = none) (h1 : 1 ≤ n) (gf : Nat) (rv : Value)
    (hg : a.eval g = .func (.func gf) #[rv] #[]) (hF : F.fn gf) (eg : ∀ args w, (callFunc gf args).run P w = .ok (.enter gf args) w) (enc : Nat → Array Value) (N : Nat) (hps : ∀ i, (enc i).size = ps.size)
    (I : Nat → World → Prop) (Ix : World → Prop) (hI : ∀ i W W', Below w.heap.size W W' → I i W → I i W') (hIx : ∀ W W', Below w.heap.size W W' → Ix W → Ix W') (h0 : I 0 w) (hit : Gives F (n - 1) P gf rv enc N I)
    (Ax : Nat → Act → World → Prop) (hAx : ∀ i a' W o, W.heap[w.heap.size + 1]? = some (.loop o) → ∀ o', Ax i a' W → Ax i a' (W.putObj (w.heap.size + 1) (.loop o')))
    (hassign : ∀ (i : Nat) (W : World) (K : Act → World → Prop), i < N → I i W → (∀ a' W', Below W.heap.size W W' → Ax i a' W' → K a' W') →
      assign.wpIn (F.inRound (w.heap.size + 1)) (n - 1 - 1) P (Exit.then K (fun _ _ _ => False)) { tmps := (ps.zip (enc i)).foldl (fun t (p, v) => t.setIfInBounds p v) a.tmps, defers := [] } W)
    (hbody : ∀ (i : Nat) (a' : Act) (W : World), i < N → I i W → Ax i a' W → body.wpIn (F.inRound (w.heap.size + 1)) (n - 1 - 1) P (roundPost w.heap.size (I (i + 1)) Ix W) a' W)
    (hdone : ∀ (D : Nat) (W : World), w.heap.size ≤ D → I N W → W.heap[D]? = some (.deferred (some [])) → Q .normal { a with defers := { target := .collected D, args := #[] } :: a.defers } W)
    (hstop : ∀ (D : Nat) (W : World), w.heap.size ≤ D → Ix W → W.heap[D]? = some (.deferred (some [])) → Code.ret.wpIn F n P Q { a with defers := { target := .collected D, args := #[] } :: a.defers } W) :
    (Code.rangeFunc g ps assign body).wpIn F n P Q a w := by
  refine wpIn_rangeFunc fun fn hfn => ?_
  rw [hro]
  generalize hB : w.heap.size = B at *
  obtain ⟨lp, hlp⟩ : ∃ lp : LoopState → Option Code → Loop, lp = fun st pe => { state := st, pending := pe, fn, tmps := a.tmps, params := ps, assign, body, defers := B } := ⟨_, rfl⟩
  have hin := run_enterLoop_outer (P := P) (w := w) fn a.tmps ps assign body
  rw [hB, show ({ state := .ready, pending := none, fn, tmps := a.tmps, params := ps, assign, body, defers := B } : Loop) = lp .ready none from by rw [hlp]] at hin
  obtain ⟨W1, hW1⟩ : ∃ W1, W1 = (w.alloc (.deferred (some []))).alloc (.loop (lp .ready none)) := ⟨_, rfl⟩
  rw [← hW1] at hin
  have hb1 : Below B w W1 := by rw [hW1, ← hB]; exact ((Below.refl _ w).alloc (Nat.le_refl _) _).alloc (by simp) _
  have hl1 : W1.heap[B + 1]? = some (.loop (lp .ready none)) := by
    rw [hW1]; have := World.alloc_heap_new (w.alloc (.deferred (some []))) (.loop (lp .ready none)); rwa [World.size_alloc, hB] at this
  have hk1 : W1.heap[B]? = some (.deferred (some [])) := by
    rw [hW1]; refine (Below.heap_alloc _ _ _ (by simp [hB])).trans ?_; have := World.alloc_heap_new w (.deferred (some [])); rwa [hB] at this
  refine ⟨B + 1, _, W1, { target := .fn (.func gf) #[], args := #[rv, .func (.yield (B + 1)) #[] #[]] }, W1, gf, #[rv, .func (.yield (B + 1)) #[] #[]], W1, hin, ?_, ?_, ?_, fun _ => h1, ?_⟩
  · simp only [resolve, hg]
    simp [go_sem]
  · intro f' hf'; simp [Target.leads] at hf'; subst hf'; exact hF
  · simp [invoke, go_sem, eg]
  refine (hit (B + 1) (fun i W => I i W ∧ W.heap[B + 1]? = some (.loop (lp .ready none)) ∧ W.heap[B]? = some (.deferred (some [])))
    (fun W => Ix W ∧ W.heap[B + 1]? = some (.loop (lp .done (some .ret))) ∧ W.heap[B]? = some (.deferred (some []))) W1 (fun _ _ h => h.1) ?_ ⟨hI 0 _ _ hb1 h0, hl1, hk1⟩).mono ?_
  · rintro i W hi ⟨hiI, hl, hk⟩
    have hy := run_yield (P := P) (args := enc i) hl (by rw [hlp]; exact hps i)
    rw [hlp] at hy
    refine ⟨fn, _, assign, body, hy, roundIn_of_wpIn hfn (hassign i W _ hi hiI ?_)⟩
    intro a' Wa hba hax
    have hlW := (Array.getElem?_eq_some_iff.1 hl).1
    have hla := (hba.block (B + 1) hlW).trans hl
    have hka := (hba.block B (by omega)).trans hk
    have hza : B + 1 < Wa.heap.size := (Array.getElem?_eq_some_iff.1 hla).1
    refine ⟨_, run_beginRound hla (by rw [hlp]), ?_⟩
    obtain ⟨busy, hbusy⟩ : ∃ busy, busy = ({ lp .ready none with state := .busy } : Loop) := ⟨_, rfl⟩
    rw [← hbusy]
    have hl2 : (Wa.putObj (B + 1) (.loop busy)).heap[B + 1]? = some (.loop busy) := World.putObj_heap_same hza
    have hk2 : (Wa.putObj (B + 1) (.loop busy)).heap[B]? = some (.deferred (some [])) := (World.putObj_heap_other (by omega)).trans hka
    refine wpIn_mono (hbody i a' _ hi (hI _ _ _ ((hba.mono (by omega)).trans (below_putObj Wa (.loop busy) (by omega))) hiI) (hAx i a' Wa _ hla _ hax)) ?_
    have fin : ∀ (j : Option Code) (W3 : World), KeepsFrom B (Wa.putObj (B + 1) (.loop busy)) W3 → (Instr.endRound (B + 1) j).run P W3 = .ok (.bool j.isNone) (W3.putObj (B + 1) (.loop (lp (if j.isNone then .ready else .done) j))) ∧
        (W3.putObj (B + 1) (.loop (lp (if j.isNone then .ready else .done) j))).heap[B + 1]? = some (.loop (lp (if j.isNone then .ready else .done) j)) ∧ (W3.putObj (B + 1) (.loop (lp (if j.isNone then .ready else .done) j))).heap[B]? = some (.deferred (some [])) := by
      intro j W3 hk3
      have hl3 := hk3.same _ _ (by omega) hl2 rfl
      have hr := run_endRound (P := P) j hl3
      rw [hbusy, hlp] at hr
      refine ⟨by rw [hlp]; exact hr, World.putObj_heap_same (Array.getElem?_eq_some_iff.1 hl3).1, (World.putObj_heap_other (by omega)).trans (hk3.same _ _ (Nat.le_refl _) hk2 rfl)⟩
    rintro e a3 W3 hp
    cases e with
    | normal =>
      obtain ⟨hr, hl4, hk4⟩ := fin none W3 hp.1
      exact ⟨_, _, hr, .inl ⟨rfl, hI _ _ _ (below_putObj W3 _ (by omega)) hp.2, hl4, hk4⟩⟩
    | ret =>
      obtain ⟨hr, hl4, hk4⟩ := fin (some .ret) W3 hp.1
      exact ⟨_, _, hr, .inr ⟨rfl, hIx _ _ (below_putObj W3 _ (by omega)) hp.2, hl4, hk4⟩⟩
    | exit id => exact hp.elim
    | goto t => exact hp.elim
    | panic ch => exact hp.elim
    | outgrown => exact hp.elim
  · rintro e W2 ⟨⟨v, rfl⟩, (⟨hi, hl, hk⟩ | ⟨hi, hl, hk⟩)⟩
    · have hr := run_endLoop (P := P) hl (by rw [hlp]; simp)
      rw [show (lp .ready none).pending = none from by rw [hlp]] at hr
      exact ⟨none, _, hr, hdone B _ (Nat.le_refl _) (hI _ _ _ (below_putObj W2 _ (by omega)) hi) ((World.putObj_heap_other (by omega)).trans hk)⟩
    · have hr := run_endLoop (P := P) hl (by rw [hlp]; simp)
      rw [show (lp .done (some .ret)).pending = some .ret from by rw [hlp]] at hr
      exact ⟨some .ret, _, hr, hstop B _ (Nat.le_refl _) (hIx _ _ (below_putObj W2 _ (by omega)) hi) ((World.putObj_heap_other (by omega)).trans hk)⟩
section
variable {n : Nat} {F : Fence} {P : Program} {ops : Array Oper} {Q : Exit → Act → World → Prop} {a : Act} {w : World} {rest : List Oper} {o : Oper}
theorem wplIn_run (hF : ∀ f, F.fn f) (hg : o.guard = none) (hnd : ∀ c, o.op ≠ .defer c) (v : Value) (w' : World) (hr : (execOp a.eval o).run P w = .ok (.value v) w') (h : wpListIn F n P ops Q rest (a.put o.dst v) w') : wpListIn F n P ops Q (o :: rest) a w := by
  refine wpListIn_plain hg fun K hK => ⟨fun f _ => hF f, ?_⟩
  rw [Oper.semAt_plain F a.eval o hnd, hr]
  exact hK _ _ h
theorem wplIn_skip (hF : ∀ f, F.fn f) (hg : o.guard = none) (hnd : ∀ c, o.op ≠ .defer c) (hd : o.dst = none) (w' : World) (hr : (execOp a.eval o).run P w = .ok .skip w') (h : wpListIn F n P ops Q rest a w') : wpListIn F n P ops Q (o :: rest) a w := by
  refine wpListIn_plain hg fun K hK => ⟨fun f _ => hF f, ?_⟩
  rw [Oper.semAt_plain F a.eval o hnd, hr, Oper.uponIn_skip, hd]
  exact hK _ _ h
end
end Go.Proofs.YtmfbfhkhfhphfabGreatDoor.Dv
