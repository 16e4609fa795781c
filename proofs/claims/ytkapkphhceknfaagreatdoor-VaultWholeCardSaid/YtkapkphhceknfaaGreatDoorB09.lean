/-
  Part of the proof of TreeBinds: regions that draw their order within a round, or ahead of a call of yield; a range over a closure that yields so many things.
  Part of the proof of TreeBinds: the code's bind, isPlace, areMarks and pairs are walked.
  Part of the proof of TreeBinds: a row is gone through by two and two; the row above it.
-/
import Derived.RangeFuncNested
import Derived.RangeFuncCalls
import Derived.RangeFuncLeaves
import Derived.Shelf.Abstract
import Derived.WalkKit
import Derived.OwnWalkIn
import Derived.OrdersIn
import Derived.TacticsInMore
import Derived.LoopNIn
import Derived.LoopIn
import Derived.Test.YtkapkphhceknfaaGreatDoorB06
import Derived.Test.YtkapkphhceknfaaGreatDoorB02
import Derived.Test.YtkapkphhceknfaaGreatDoorB08
namespace Go.Proofs.YtkapkphhceknfaaGreatDoor.Tr
open Go.RowKit Go.Shelf
/-- The wide fence, or a round within it. -/
structure Wide (F : Fence) : Prop where
  fn : ∀ f, F.fn f
  depth : F.depth = none
  calls : ∀ {n : Nat} {P : Program} {f : FuncId} {args : Array Value} {w : World} {R : Ending → World → Prop}, Calls P f args w R → CallsIn F n P f args w R
  rows : ∀ {n : Nat} {P : Program} {row : String} {args : Array Value} {w : World} {R : Value → World → Prop}, Rows P row args w R → RowsIn F n P row args w R
theorem rows_wide {n : Nat} {P : Program} {row : String} {args : Array Value} {w : World} {R : Value → World → Prop} (h : Rows P row args w R) : RowsIn Fence.wide n P row args w R := fun c cs _ => by
  obtain ⟨v, w', r, s⟩ := h c cs
  exact ⟨v, w', r, stepsIn_wide.2 s⟩
theorem wide_none : Wide Fence.wide := ⟨fun _ => trivial, rfl, fun h => callsIn_wide.2 h, rows_wide⟩
theorem wide_round (l : Nat) : Wide (Fence.wide.inRound l) := ⟨fun _ => trivial, rfl, fun h => CallsIn.inRound l (callsIn_wide.2 h), fun h => rows_wide h⟩
section
variable {F : Fence} {n : Nat} {P : Program} {Q : Exit → Act → World → Prop}
theorem wpIn_of_wp {o : Oper} {a : Act} {w : World} {K : Act → World → Prop} (hF : Wide F) (hnd : ∀ c, o.op ≠ .defer c) (h : o.wp P a w K (fun _ _ _ => False)) : o.wpIn F n P a w K Q := by
  refine ⟨fun f _ => hF.fn f, ?_⟩
  rw [Oper.semAt_plain F a.eval o hnd]
  have hd : F.depth.isSome = true → 1 ≤ n := fun e => by rw [hF.depth] at e; cases e
  unfold Oper.wp at h
  generalize (execOp a.eval o).run P w = r at h ⊢
  cases r with
  | ok x w' =>
    cases x <;> simp only [Oper.upon] at h <;> simp only [Oper.uponIn]
    case value => exact h
    case skip => exact h
    case defer => exact h
    case enter =>
      refine ⟨hd, (hF.calls h).mono fun e w'' he => ?_⟩
      cases e with
      | returned v => exact he
      | panicked c => exact he.elim
      | outgrown => obtain ⟨_, _, hx⟩ := he; exact hx.elim
    case row => exact ⟨hd, hF.rows h⟩
  | halt x w' => cases x <;> simp only [Oper.upon] at h
theorem wpOpIn_of_wpOp {ops : Array Oper} {i : Nat} {a : Act} {w : World} {K : Act → World → Prop} (hF : Wide F) (hnd : ∀ o ∈ ops, ∀ c, o.op ≠ .defer c) (h : wpOp P ops (fun _ _ _ => False) i K a w) : wpOpIn F n P ops Q i K a w := by
  unfold wpOp at h
  unfold wpOpIn
  split
  · rename_i ho; simpa [ho] using h
  · rename_i o ho
    simp only [ho] at h
    split
    · rename_i hw
      simp only [hw, if_true] at h
      rcases h with h | ⟨_, _, _, hx⟩
      · exact wpIn_of_wp hF (hnd o (Array.mem_of_getElem? ho)) h
      · exact hx.elim
    · rename_i hw
      simp only [hw] at h
      exact ⟨fun f _ => hF.fn f, by simpa using h⟩
/-- Only the normal way out. -/
def Only (Q : Exit → Act → World → Prop) : Exit → Act → World → Prop
  | .normal, a, w => Q .normal a w
  | _, _, _ => False
theorem wpAnyIn_of_wpAny {ops : Array Oper} (hF : Wide F) (hnd : ∀ o ∈ ops, ∀ c, o.op ≠ .defer c) : ∀ (fuel : Nat) (listed : Array Bool) (a : Act) (w : World),
    wpAny P .any ops (Only Q) fuel listed a w → wpAnyIn F n P .any ops Q fuel listed a w := by
  intro fuel
  induction fuel with
  | zero => intro listed a w h; exact h
  | succ fuel ih =>
    intro listed a w h
    refine ⟨h.1, fun i hi => ?_⟩
    have h2 := h.2 i hi
    have h3 : wpOp P ops (fun _ _ _ => False) i (wpAnyIn F n P .any ops Q fuel (listed.setIfInBounds i true)) a w := by
      unfold wpOp at h2 ⊢
      split
      · rename_i ho; simp only [ho] at h2; exact ih _ _ _ h2
      · rename_i o ho
        simp only [ho] at h2
        split
        · rename_i hw
          simp only [hw, if_true] at h2
          rcases h2 with h2 | ⟨_, _, _, hx⟩
          · refine Or.inl ?_
            unfold Oper.wp at h2 ⊢
            generalize (execOp a.eval o).run P w = r at h2 ⊢
            cases r with
            | ok x w' =>
              cases x <;> simp only [Oper.upon] at h2 ⊢
              case value => exact ih _ _ _ h2
              case skip => exact ih _ _ _ h2
              case defer => exact ih _ _ _ h2
              case enter =>
                refine h2.mono fun e w'' he => ?_
                cases e with
                | returned v => exact ih _ _ _ he
                | panicked c => exact he
                | outgrown => obtain ⟨_, _, hx⟩ := he; exact hx.elim
              case row => exact h2.mono fun _ _ he => ih _ _ _ he
            | halt x w' =>
              cases x <;> simp only [Oper.upon] at h2 ⊢
              all_goals exact h2
          · exact hx.elim
        · rename_i hw
          simp only [hw] at h2
          exact ih _ _ _ (by simpa using h2)
    exact wpOpIn_of_wpOp hF hnd h3
def noDefer (l : List Oper) : Bool := l.all fun o => match o.op with | .defer _ => false | _ => true
theorem noDefer_spec {l : List Oper} (h : noDefer l = true) : ∀ o ∈ l.toArray, ∀ c, o.op ≠ .defer c := fun o ho c e => by
  have := List.all_eq_true.1 h o (by simpa using ho)
  rw [e] at this; cases this
/-- A region that draws its order, within a round: as anywhere. -/
theorem regIn {id : Nat} {l : List Oper} {a : Act} {w : World} (hF : Wide F) (hm : P.follows .mixedOrders = true) (hnd : noDefer l = true) (k : Nat) (hk : l.length = k)
    (h : wpAny P .any l.toArray (Only Q) k (Array.replicate k false) a w.drew) : (Code.region id l.toArray true).wpIn F n P Q a w := by
  refine wpIn_region_any hm (wpAnyIn_of_wpAny hF (noDefer_spec hnd) _ _ _ _ ?_)
  rw [List.size_toArray, hk]
  exact h
theorem anyIn_of_headQ {ops : Array Oper} {C : World → Prop} {m g : Nat} {L : Array Bool → Act → Prop} (hF : Wide F) (hnd : ∀ o ∈ ops, ∀ c, o.op ≠ .defer c) (hL : ∀ listed a w, C w → L listed a → wpAnyIn F n P .any ops Q g listed a w) (f : Nat) :
    ∀ (listed : Array Bool) (a : Act) (w : World), C w → headQ P ops C m L f listed a → wpAnyIn F n P .any ops Q (f + g) listed a w := by
  induction f with
  | zero => intro listed a w hw h; rw [Nat.zero_add]; exact hL _ _ _ hw h
  | succ f ih =>
    intro listed a w hw h
    rw [Nat.succ_add]
    exact ⟨fun h0 => absurd h0 h.1, fun i hi => wpOpIn_of_wpOp hF hnd (wpOp_of_qOp hw (fun a' w' hw' h' => ih _ a' w' hw' h') (h.2 i hi).2)⟩
/-- While one of the first k operations is to come, none of the others may. -/
def Waits (ops : Array Oper) (k : Nat) : Prop := ∀ listed : Array Bool, HeadInv .any ops k listed → ∀ i, i < k → listed.getD i true = false → ∀ t, k ≤ t → t ∉ Region.ready .any ops listed
theorem waits_of {ops : Array Oper} {k : Nat} (hs : sinkH ops 0 (k + 1) = true) (hc : chainH ops (k + 1) = true) (hk : k < ops.size) : Waits ops k := by
  intro listed inv
  have hun : listed.getD k true = false := inv.tail k (Nat.le_refl _) hk
  have no : ∀ t i, Region.waitsFor .any ops t i = true → listed.getD i true = false → t ∉ Region.ready .any ops listed := by
    intro t i h1 h2 hr
    obtain ⟨_, ot, hot, hall⟩ := mem_ready.1 hr
    obtain ⟨o', ho', e, he, hb, hon⟩ := Region.waitsFor_spec h1
    have : o' = ot := Option.some.inj (ho'.symm.trans hot)
    subst this
    have h3 := hall e he hb
    rw [hon, getD_both h2] at h3
    cases h3
  have key : ∀ (d i : Nat), k - i = d → i < k → listed.getD i true = false → k ∉ Region.ready .any ops listed := by
    intro d
    induction d using Nat.strongRecOn with
    | _ d ih =>
      intro i hd hi hu
      have h1 := List.all_eq_true.1 hs i (List.mem_range.2 (by omega))
      simp only [Bool.or_eq_true, decide_eq_true_eq] at h1
      rcases h1 with h1 | h1
      · omega
      · obtain ⟨j, hj, hj2⟩ := List.any_eq_true.1 h1
        simp only [Bool.and_eq_true, decide_eq_true_eq] at hj2
        have hjk : j < k + 1 := List.mem_range.1 hj
        by_cases e : j = k
        · subst e; exact no _ _ hj2.2 hu
        · obtain ⟨oj, hoj, e', he, hb, hon⟩ := Region.waitsFor_spec hj2.2
          cases hl : listed.getD j false with
          | true =>
            have h2 := inv.closed j oj hoj hl e' he hb
            rw [hon, getD_both hu] at h2
            cases h2
          | false => exact ih (k - j) (by omega) j rfl (by omega) (getD_in (by rw [inv.size]; omega) hl)
  intro i hi hu t ht hr
  by_cases e : t = k
  · subst e; exact key _ i rfl hi hu hr
  · have htlt : t < ops.size := by
      obtain ⟨_, ot, hot, _⟩ := mem_ready.1 hr
      exact (Array.getElem?_eq_some_iff.1 hot).1
    have h1 := List.all_eq_true.1 hc t (List.mem_range.2 htlt)
    simp only [Bool.or_eq_true, decide_eq_true_eq] at h1
    rcases h1 with h1 | h1
    · omega
    · exact no _ _ h1 hun hr
theorem headW_first {ops : Array Oper} {C : World → Prop} {k i : Nat} {oi : Oper} {v : Value} {L : Array Bool → Act → Prop} (hi : ops[i]? = some oi) (hsel : ∀ (j : Nat) (o : Oper) cs b, ops[j]? = some o → o.op ≠ .select cs b)
    (hW : Waits ops k) (hin : i < k) (hdone : ∀ listed a, L listed a → ∀ j ∈ Region.ready .any ops listed, k ≤ j) (f : Nat) :
    ∀ (listed : Array Bool) (a : Act), HeadInv .any ops k listed →
      (∀ j oj, ops[j]? = some oj → j ≠ i → listed.getD j true = false → (∀ e ∈ oj.after, Region.binds .any e = true → e.on ≠ i) → oi.apart ops oj = true) →
      i ∈ Region.ready .any ops listed → YieldsIn P ops C oi v a → headQ P ops C k L f (listed.setIfInBounds i true) (a.put oi.dst v) → headQ P ops C k L (f + 1) listed a := by
  induction f with
  | zero =>
    intro listed a inv _ hr hy H
    refine ⟨List.ne_nil_of_mem hr, fun j hj => ?_⟩
    have hjn : j < k := Nat.lt_of_not_le fun hge => hW listed inv i hin (mem_ready.1 hr).1 j hge hj
    by_cases e : j = i
    · subst e; exact ⟨hjn, hy.qOp hi H⟩
    · exact absurd (hdone _ _ H j (ready_mono hj e)) (by omega)
  | succ f ih =>
    intro listed a inv hfree hr hy H
    have hun := (mem_ready.1 hr).1
    refine ⟨List.ne_nil_of_mem hr, fun j hj => ?_⟩
    have hjn : j < k := Nat.lt_of_not_le fun hge => hW listed inv i hin hun j hge hj
    by_cases e : j = i
    · subst e; exact ⟨hjn, hy.qOp hi H⟩
    · obtain ⟨hjun, oj, hoj, hall⟩ := mem_ready.1 hj
      have hap : oi.apart ops oj = true := hfree j oj hoj e hjun fun x hx hb hxi => by
        have := hall x hx hb; rw [hxi, getD_both hun] at this; cases this
      have h2 := qOp_put hoj hap (fun cs b => hsel i oi cs b hi) (fun cs b => hsel j oj cs b hoj) hy (H.2 j (ready_mono hj e)).2
      refine ⟨hjn, qOp_mono (fun a' h3 => ih _ a' (inv.set hj hjn) (fun q oq hq hqi hqu hno => hfree q oq hq hqi ?_ hno) (ready_mono hr (Ne.symm e)) h3.1 ?_) h2⟩
      · by_cases ejk : j = q
        · subst ejk; exact hjun
        · rw [getD_set_ne true ejk] at hqu; exact hqu
      · rw [Array.setIfInBounds_comm _ _ e]; exact h3.2
theorem headW_lex {ops : Array Oper} {C : World → Prop} {k : Nat} {Lq : Act → Prop} {fin : Array Bool} (hsel : Region.noSelect ops = true) (hW : Waits ops k) (hfin : ∀ j ∈ Region.ready .any ops fin, k ≤ j) (l : List Oper) :
    ∀ (q : Nat) (listed : Array Bool) (a : Act), (∀ j, j < l.length → l[j]? = ops[q + j]?) → q + l.length = k → HeadInv .any ops k listed → after listed q l.length = fin →
    lexH ops l.length q listed = true → wpQuiet P ops C Lq l a → headQ P ops C k (fun listed' a' => listed' = fin ∧ Lq a') l.length listed a := by
  induction l with
  | nil => intro q listed a _ _ _ hf _ h; exact ⟨hf, h⟩
  | cons o l ih =>
    intro q listed a hl hk inv hf hB h
    rw [List.length_cons] at hk
    have h0 : ops[q]? = some o := by simpa using (hl 0 (by simp)).symm
    simp only [List.length_cons, lexH, Bool.and_eq_true] at hB
    have hr : q ∈ Region.ready .any ops listed := by simpa using hB.1.1
    have hst : qOp P ops C q (wpQuiet P ops C Lq l) a := by unfold qOp; simp only [h0]; exact h
    obtain ⟨v, hy, hK⟩ := yieldsIn_of_qOp h0 hst
    refine headW_first (L := fun listed' a' => listed' = fin ∧ Lq a') h0 (Region.noSelect_spec hsel) hW (by omega) (fun _ _ hL j hj => hfin j (by rw [← hL.1]; exact hj)) l.length listed a inv (Region.free_spec h0 hB.1.2) hr hy ?_
    exact ih (q + 1) _ _ (fun j hj => by have := hl (j + 1) (by simp; omega); rw [List.getElem?_cons_succ] at this; rw [this]; congr 1; omega) (by omega) (inv.set hr (by omega)) hf hB.2 hK
def checkR (ops : Array Oper) (k : Nat) : Bool :=
  Region.noSelect ops && decide (k < ops.size) && lexH ops k 0 (Array.replicate ops.size false) && sinkH ops 0 (k + 1) && chainH ops (k + 1) && (Region.ready .any ops (after (Array.replicate ops.size false) 0 k)).all (fun j => decide (k ≤ j))
/-- A region that draws its order, whose first k operations only look: they come first; what follows, operation by operation. -/
theorem regIn_head {id : Nat} {l : List Oper} {a : Act} {w : World} (k m : Nat) (C : World → Prop) (hF : Wide F) (hm : P.follows .mixedOrders = true) (hl : l.length = m) (hnd : noDefer l = true) (hB : checkR l.toArray k = true) (hC : C w.drew)
    (h : wpQuiet P l.toArray C (fun a' => ∀ w', C w' → wpAnyIn F n P .any l.toArray Q (m - k) (after (Array.replicate m false) 0 k) a' w') (l.take k) a) : (Code.region id l.toArray true).wpIn F n P Q a w := by
  subst hl
  simp only [checkR, Bool.and_eq_true, decide_eq_true_eq] at hB
  obtain ⟨⟨⟨⟨⟨hsel, hk⟩, b1⟩, b2⟩, b3⟩, b4⟩ := hB
  have hsz : l.toArray.size = l.length := by simp
  have t1 : (l.take k).length = k := by rw [List.length_take]; omega
  have H := headW_lex (P := P) (C := C) (fin := after (Array.replicate l.toArray.size false) 0 k) hsel (waits_of b2 b3 hk) (fun j hj => by simpa using List.all_eq_true.1 b4 j hj) (l.take k) 0 (Array.replicate l.toArray.size false) a
    (fun j hj => by rw [t1] at hj; rw [List.getElem?_take, if_pos hj, Nat.zero_add, List.getElem?_toArray]) (by rw [t1]; omega)
    ⟨Array.size_replicate, fun j oj _ hl => (by rw [getD_replicate_false] at hl; cases hl), fun t _ htl => getD_in (by rw [Array.size_replicate]; exact htl) (getD_replicate_false _ _)⟩ (by rw [t1]) (by rw [t1]; exact b1) h
  refine wpIn_region_any hm ?_
  have HL : ∀ (listed : Array Bool) (a' : Act) (w' : World), C w' → (listed = after (Array.replicate l.toArray.size false) 0 k ∧ ∀ w', C w' → wpAnyIn F n P .any l.toArray Q (l.length - k) (after (Array.replicate l.length false) 0 k) a' w') → wpAnyIn F n P .any l.toArray Q (l.length - k) listed a' w' := by
    rintro listed a' w' hw' ⟨rfl, h2⟩
    rw [hsz]; exact h2 w' hw'
  have := anyIn_of_headQ (C := C) (F := F) (n := n) (Q := Q) (g := l.length - k) hF (noDefer_spec hnd) HL _ _ _ w.drew hC H
  rw [t1, show k + (l.length - k) = l.toArray.size from by omega] at this
  exact this
/-- One operation alone may come up. -/
theorem regIn_one {l : List Oper} {fuel : Nat} {listed : Array Bool} {a : Act} {w : World} (i : Nat) {o : Oper} (hi : l[i]? = some o) (hr : (Region.ready .any l.toArray listed == [i]) = true) (hw : Region.wanted o (yielded l.toArray a.tmps) = true)
    (h : ∀ K : Act → World → Prop, (∀ a' w', wpAnyIn F n P .any l.toArray Q fuel (listed.setIfInBounds i true) a' w' → K a' w') → o.wpIn F n P a w K Q) : wpAnyIn F n P .any l.toArray Q (fuel + 1) listed a w := by
  rw [beq_iff_eq] at hr
  refine ⟨fun h0 => (by rw [hr] at h0; cases h0), fun j hj => ?_⟩
  rw [hr] at hj
  obtain rfl := List.mem_singleton.1 hj
  have hi' : l.toArray[j]? = some o := by rw [List.getElem?_toArray]; exact hi
  unfold wpOpIn
  simp only [hi', hw, if_true]
  exact h _ fun _ _ h => h
theorem regIn_end {l : List Oper} {fuel : Nat} {listed : Array Bool} {a : Act} {w : World} (hr : (Region.ready .any l.toArray listed == []) = true) (h : Q .normal a w) : wpAnyIn F n P .any l.toArray Q fuel listed a w :=
  wpAnyIn_done (by rwa [beq_iff_eq] at hr) h fuel
theorem opIn_value {o : Oper} {a : Act} {w : World} {K : Act → World → Prop} (hF : Wide F) (hnd : ∀ c, o.op ≠ .defer c) (d : Tmp) (hd : o.dst = some d) (v : Value) (hr : (execOp a.eval o).run P w = .ok (.value v) w) (h : K (a.put (some d) v) w) : o.wpIn F n P a w K Q := by
  refine ⟨fun f _ => hF.fn f, ?_⟩
  rw [Oper.semAt_plain F a.eval o hnd, hr, Oper.uponIn_value, hd]
  exact h
/-- An operation that enters a round. -/
theorem opIn_round {o : Oper} {a : Act} {w : World} {K : Act → World → Prop} (hF : Wide F) (hnd : ∀ c, o.op ≠ .defer c) (d : Tmp) (hd : o.dst = some d) (l : Nat) (fn : FuncId) (tmps : Array Value) (assign body : Code) (hr : (execOp a.eval o).run P w = .ok (.round l fn tmps assign body) w) {R : Ending → World → Prop}
    (hR : RoundIn F (n - 1) P l fn tmps assign body w R) (h : ∀ e w', R e w' → ∃ v, e = .returned v ∧ K (a.put (some d) v) w') : o.wpIn F n P a w K Q := by
  refine ⟨fun f _ => hF.fn f, ?_⟩
  rw [Oper.semAt_plain F a.eval o hnd, hr]
  refine ⟨fun e => (by rw [hF.depth] at e; cases e), hR.mono fun e w' he => ?_⟩
  obtain ⟨v, rfl, hK⟩ := h e w' he
  rw [hd]; exact hK
end
theorem below_putObj {B l : Nat} (W : World) (o : Obj) (h : B ≤ l) : Below B W (W.putObj l o) :=
  ⟨rfl, rfl, rfl, by simp [World.putObj], fun k hk => World.putObj_heap_other (by omega)⟩
/-- What an iterator of N things owes, whatever a round does: J i: so many rounds went on. -/
def Gives (F : Fence) (n : Nat) (P : Program) (gf : Nat) (lb : Array Value) (enc : Nat → Array Value) (N : Nat) (I : Nat → World → Prop) : Prop :=
  ∀ (l : Nat) (J : Nat → World → Prop) (W : World), (∀ i W, J i W → I i W) → (∀ i W, J i W → J i W.drew) →
    (∀ i W1, i < N → J i W1 → YieldAt F (n - 1) P l (enc i) W1 fun e W' => e = .returned (.bool true) ∧ J (i + 1) W') → J 0 W →
    CallsIn F n P gf (#[.func (.yield l) #[] #[]] ++ lb) W fun e W' => (∃ v, e = .returned v) ∧ J N W'
/-- How a round may end. -/
def roundPost (B : Nat) (I : World → Prop) (W : World) : Exit → Act → World → Prop
  | .normal, _, W' => KeepsFrom B W W' ∧ I W'
  | _, _, _ => False
set_option maxHeartbeats 400000 in
theorem range_clos {F : Fence} {n : Nat} {P : Program} {g : Operand} {ps : Array Tmp} {assign body : Code} {Q : Exit → Act → World → Prop} {a : Act} {w : World} (hro : F.round = none) (h1 : 1 ≤ n) (gf : Nat) (lb : Array Value)
    (hg : a.eval g = .func (.func gf) #[] lb) (hF : F.fn gf) (eg : ∀ args w, (callFunc gf args).run P w = .ok (.enter gf args) w) (enc : Nat → Array Value) (N : Nat) (hps : ∀ i, (enc i).size = ps.size)
    (I : Nat → World → Prop) (hI : ∀ i W W', Below w.heap.size W W' → I i W → I i W') (h0 : I 0 w) (hit : Gives F (n - 1) P gf lb enc N I)
    (Ax : Nat → Act) (hassign : ∀ (i : Nat) (W : World) (K : Act → World → Prop), i < N → I i W → K (Ax i) W →
      assign.wpIn (F.inRound (w.heap.size + 1)) (n - 1 - 1) P (Exit.then K (fun _ _ _ => False)) { tmps := (ps.zip (enc i)).foldl (fun t (p, v) => t.setIfInBounds p v) a.tmps, defers := [] } W)
    (hbody : ∀ (i : Nat) (W : World), i < N → I i W → w.heap.size + 2 ≤ W.heap.size → body.wpIn (F.inRound (w.heap.size + 1)) (n - 1 - 1) P (roundPost w.heap.size (I (i + 1)) W) (Ax i) W)
    (hdone : ∀ (D : Nat) (W : World), w.heap.size ≤ D → I N W → W.heap[D]? = some (.deferred (some [])) → Q .normal { a with defers := { target := .collected D, args := #[] } :: a.defers } W) :
    (Code.rangeFunc g ps assign body).wpIn F n P Q a w := by
  refine wpIn_rangeFunc fun fn hfn => ?_
  rw [hro]
  generalize hB : w.heap.size = B at *
  obtain ⟨lp, hlp⟩ : ∃ lp : LoopState → Option Code → Loop, lp = fun st pe => { state := st, pending := pe, fn, tmps := a.tmps, params := ps, assign, body, defers := B } := ⟨_, rfl⟩
  have hin := run_enterLoop_outer (P := P) (w := w) fn a.tmps ps assign body
  rw [hB, show ({ state := .ready, pending := none, fn, tmps := a.tmps, params := ps, assign, body, defers := B } : Loop) = lp .ready none from by rw [hlp]] at hin
  obtain ⟨W1, hW1⟩ : ∃ W1, W1 = (w.alloc (.deferred (some []))).alloc (.loop (lp .ready none)) := ⟨_, rfl⟩
  rw [← hW1] at hin
  have hb1 : Below B w W1 := by rw [hW1, ← hB]; exact ((Below.refl _ w).alloc (Nat.le_refl _) _).alloc (by simp) _
  have hl1 : W1.heap[B + 1]? = some (.loop (lp .ready none)) := by
    rw [hW1]; have := World.alloc_heap_new (w.alloc (.deferred (some []))) (.loop (lp .ready none)); rwa [World.size_alloc, hB] at this
  have hk1 : W1.heap[B]? = some (.deferred (some [])) := by
    rw [hW1]; refine (Below.heap_alloc _ _ _ (by simp [hB])).trans ?_; have := World.alloc_heap_new w (.deferred (some [])); rwa [hB] at this
  refine ⟨B + 1, _, W1, { target := .fn (.func gf) lb, args := #[.func (.yield (B + 1)) #[] #[]] }, W1, gf, #[.func (.yield (B + 1)) #[] #[]] ++ lb, W1, hin, ?_, ?_, ?_, fun _ => h1, ?_⟩
  · simp only [resolve, hg]
    simp [go_sem]
  · intro f' hf'; simp [Target.leads] at hf'; subst hf'; exact hF
  · simp [invoke, go_sem, eg]
  refine (hit (B + 1) (fun i W => I i W ∧ W.heap[B + 1]? = some (.loop (lp .ready none)) ∧ W.heap[B]? = some (.deferred (some []))) W1 (fun _ _ h => h.1) (fun i W h => ⟨hI i W _ ((Below.refl _ W).drew) h.1, h.2.1, h.2.2⟩) ?_ ⟨hI 0 _ _ hb1 h0, hl1, hk1⟩).mono ?_
  · rintro i W hi ⟨hiI, hl, hk⟩
    have hy := run_yield (P := P) (args := enc i) hl (by rw [hlp]; exact hps i)
    rw [hlp] at hy
    refine ⟨fn, _, assign, body, hy, roundIn_of_wpIn hfn (hassign i W _ hi hiI ?_)⟩
    have hlW := (Array.getElem?_eq_some_iff.1 hl).1
    refine ⟨_, run_beginRound hl (by rw [hlp]), ?_⟩
    obtain ⟨busy, hbusy⟩ : ∃ busy, busy = ({ lp .ready none with state := .busy } : Loop) := ⟨_, rfl⟩
    rw [← hbusy]
    have hl2 : (W.putObj (B + 1) (.loop busy)).heap[B + 1]? = some (.loop busy) := World.putObj_heap_same hlW
    have hk2 : (W.putObj (B + 1) (.loop busy)).heap[B]? = some (.deferred (some [])) := (World.putObj_heap_other (by omega)).trans hk
    refine wpIn_mono (hbody i _ hi (hI _ _ _ (below_putObj W (.loop busy) (by omega)) hiI) (by have := (Array.getElem?_eq_some_iff.1 hl2).1; omega)) ?_
    rintro e a3 W3 hp
    cases e with
    | normal =>
      have hl3 := hp.1.same _ _ (by omega) hl2 rfl
      have hr := run_endRound (P := P) none hl3
      rw [hbusy, hlp] at hr
      refine ⟨_, _, hr, rfl, hI _ _ _ (below_putObj W3 _ (by omega)) hp.2, ?_, (World.putObj_heap_other (by omega)).trans (hp.1.same _ _ (Nat.le_refl _) hk2 rfl)⟩
      rw [hlp]; exact World.putObj_heap_same (Array.getElem?_eq_some_iff.1 hl3).1
    | ret => exact hp.elim
    | exit id => exact hp.elim
    | goto t => exact hp.elim
    | panic ch => exact hp.elim
    | outgrown => exact hp.elim
  · rintro e W2 ⟨⟨v, rfl⟩, hi, hl, hk⟩
    have hr := run_endLoop (P := P) hl (by rw [hlp]; simp)
    rw [show (lp .ready none).pending = none from by rw [hlp]] at hr
    exact ⟨none, _, hr, hdone B _ (Nat.le_refl _) (hI _ _ _ (below_putObj W2 _ (by omega)) hi) ((World.putObj_heap_other (by omega)).trans hk)⟩
end Go.Proofs.YtkapkphhceknfaaGreatDoor.Tr
namespace Go.Proofs.YtkapkphhceknfaaGreatDoor.Tr
open Go.RowKit Go.Shelf
theorem mixed : Tryz.prog.follows .mixedOrders = true := by kernel_rfl
/-- A slice of texts reads as the first n of f. -/
def Tx (w : World) (a : Option Addr) (f : Nat → ByteArray) (n : Nat) : Prop :=
  ∀ i, i < n → ∃ g o, a = some ⟨g, o, none⟩ ∧ g < w.heap.size ∧ w.cell? ⟨g, o + i, none⟩ = some (.string (f i))
theorem Tx.below {w w' : World} {a : Option Addr} {f : Nat → ByteArray} {n : Nat} (h : Tx w a f n) (hb : Below w.heap.size w w') : Tx w' a f n := fun i hi => by
  obtain ⟨g, o, h1, h2, h3⟩ := h i hi
  exact ⟨g, o, h1, Nat.lt_of_lt_of_le h2 hb.size, by rw [hb.cell h2]; exact h3⟩
theorem Tx.drew {w : World} {a : Option Addr} {f : Nat → ByteArray} {n : Nat} (h : Tx w a f n) : Tx w.drew a f n := h
theorem Tx.drewN {w : World} {a : Option Addr} {f : Nat → ByteArray} {n : Nat} (h : Tx w a f n) (k : Nat) : Tx (w.drewN k) a f n := h
theorem Tx.congr {w : World} {a : Option Addr} {f g : Nat → ByteArray} {n : Nat} (h : Tx w a f n) (e : ∀ i, i < n → f i = g i) : Tx w a g n := fun i hi => by
  rw [← e i hi]; exact h i hi
theorem parts2 {w : World} {b : Nat} {T : TypeId} {x y : ByteArray} (h : Blk w b #[.string x, .string y] T) : Sm.Parts w (some ⟨b, 0, none⟩) 2 [x, y] := by
  refine ⟨rfl, fun j hj => ?_⟩
  have hc := h.cell j
  match j, hj with
  | 0, _ => exact ⟨b, 0, x, rfl, h.lt, hc, rfl⟩
  | 1, _ => exact ⟨b, 0, y, rfl, h.lt, hc, rfl⟩
theorem all2 {x y : ByteArray} (hx : x.size ≤ 300) (hy : y.size ≤ 300) : ∀ p ∈ [x, y], p.size ≤ 300 := by
  intro p hp
  simp only [List.mem_cons, List.not_mem_nil, or_false] at hp
  rcases hp with rfl | rfl <;> assumption
theorem mark2 {k : Int} (hk : k = 117) {b : Nat} {T : TypeId} {x y : ByteArray} {w : World} (h : Blk w b #[.string x, .string y] T) (hx : x.size ≤ 300) (hy : y.size ≤ 300) (hK : Sm.KB w) :
    Calls Tryz.prog 56 #[.int .u8 k, .slice (some ⟨b, 0, none⟩) 2 2] w fun e w' => e = .returned (.string (mk2 x y)) ∧ Below w.heap.size w w' := by
  subst hk; exact Sm.mark_any 117 _ 2 2 _ w (parts2 h) (by decide) (all2 hx hy) hK
theorem below_alloc (w : World) (o : Obj) : Below w.heap.size w (w.alloc o) := (Below.refl _ _).alloc (Nat.le_refl _) o
set_option maxRecDepth 100000 in
set_option maxHeartbeats 400000 in
theorem bind_any (x y : ByteArray) (w : World) (hx : x.size ≤ 300) (hy : y.size ≤ 300) (hK : Sm.KB w) :
    Calls Tryz.prog 107 #[.string x, .string y] w fun e w' => e = .returned (.string (mk2 x y)) ∧ Below w.heap.size w w' := by
  go_enter Tryz.func107, Tryz.ntmps107
  go_wp2_with fail
  have g := below_alloc w (.cells #[.string x, .string y] 9)
  refine (mark2 rfl (Blk.new w _ 9) hx hy (hK.below g)).mono ?_
  rintro e w2 ⟨rfl, g2⟩
  go_wp2
  go_ret
  exact ⟨rfl, g.trans (g2.mono g.size)⟩
/-- Each of them is a mark. -/
def marksB (f : Nat → ByteArray) (n : Nat) : Bool := (List.range n).all fun i => decide ((f i).size = 16)
theorem marksB_spec {f : Nat → ByteArray} {n : Nat} : marksB f n = true ↔ ∀ i, i < n → (f i).size = 16 := by
  unfold marksB; simp
theorem marksB_not {f : Nat → ByteArray} {n i : Nat} (hi : i < n) (h : ¬ (f i).size = 16) : marksB f n = false := by
  cases e : marksB f n with
  | false => rfl
  | true => exact absurd (marksB_spec.1 e i hi) h
theorem are1_any (s : ByteArray) (w : World) (_hs : s.size ≤ 60) : Calls Tryz.prog 105 #[.string s] w fun e w' => e = .returned (.bool (decide (s.size ≠ 16))) ∧ w' = w := by
  go_enter Tryz.func105, Tryz.ntmps105
  go_wp2
  go_ret
  refine ⟨?_, rfl⟩
  congr 2
  by_cases h : s.size = 16
  · simp [h]
  · simp [h]; omega
set_option maxHeartbeats 400000 in
theorem indexFunc_any (a : Option Addr) (n cap : Nat) (f : Nat → ByteArray) (w : World) (h : Tx w a f n) (hl : n ≤ 40) (hs : ∀ i, i < n → (f i).size ≤ 60) :
    Calls Tryz.prog 34 #[.slice a n cap, .func (.func 105) #[] #[]] w fun e w' => (∃ j : Int, e = .returned (.int .i64 j) ∧ decide (0 ≤ j) = !marksB f n) ∧ w' = w := by
  go_enter Tryz.func34, Tryz.ntmps34
  go_wp2_with fail
  go_loop [8] (fun i => ∃ k : Nat, k ≤ n ∧ i = .int .i64 k ∧ ∀ j, j < k → (f j).size = 16) (fun i => n - (intOf i).toNat)
  case atStart => exact ⟨0, by omega, rfl, fun j hj => absurd hj (Nat.not_lt_zero _)⟩
  case round =>
    obtain ⟨k, hk, rfl, hp⟩ := hrel
    by_cases hlt : k < n
    · obtain ⟨g, o, rfl, hg, hc⟩ := h k hlt
      have hsz := hs k hlt
      have hlt' : (k : Int) < (n : Int) := by omega
      by_cases hx : (f k).size = 16
      · have dx : decide ((f k).size ≠ 16) = false := by simp [hx]
        have hp' : ∀ j, j < k + 1 → (f j).size = 16 := fun j hj => by
          by_cases e : j = k
          · rw [e]; exact hx
          · exact hp j (by omega)
        have HP : Hid (∀ j, j < k + 1 → (f j).size = 16) := hp'
        clear hp hp' hx
        generalize f k = x at *
        go_wp2_with (go_at_call 105; refine (are1_any _ _ hsz).mono ?_; rintro e w' ⟨rfl, rfl⟩; rw [dx])
        go_round
        case rel => exact ⟨k + 1, by omega, by go_num, HP.out⟩
        case measure => simp [intOf]; omega
      · have dx : decide ((f k).size ≠ 16) = true := by simp [hx]
        have hm : Hid (marksB f n = false) := marksB_not hlt hx
        clear hp hx
        generalize f k = x at *
        go_wp2_with (go_at_call 105; refine (are1_any _ _ hsz).mono ?_; rintro e w' ⟨rfl, rfl⟩; rw [dx])
        go_ret
        refine ⟨⟨k, rfl, ?_⟩, rfl⟩
        rw [hm.out]; simp
    · have hk' : k = n := by omega
      subst hk'
      have hm : Hid (marksB f k = true) := marksB_spec.2 hp
      clear hp
      go_wp2_with fail
      go_ret
      refine ⟨⟨-1, rfl, ?_⟩, rfl⟩
      rw [hm.out]; decide
theorem containsFunc_any (a : Option Addr) (n cap : Nat) (f : Nat → ByteArray) (w : World) (h : Tx w a f n) (hl : n ≤ 40) (hs : ∀ i, i < n → (f i).size ≤ 60) :
    Calls Tryz.prog 22 #[.slice a n cap, .func (.func 105) #[] #[]] w fun e w' => e = .returned (.bool (!marksB f n)) ∧ w' = w := by
  go_enter Tryz.func22, Tryz.ntmps22
  go_wp2_with (go_at_call 34; refine (indexFunc_any _ _ _ _ _ h hl hs).mono ?_; rintro e w' ⟨⟨j, rfl, hj⟩, rfl⟩)
  go_ret
  refine ⟨?_, rfl⟩
  rw [← hj]; rfl
theorem are_any (a : Option Addr) (n cap : Nat) (f : Nat → ByteArray) (c : Nat) (w : World) (h : Tx w a f n) (hl : n ≤ 40) (hs : ∀ i, i < n → (f i).size ≤ 60) (hc : c ≤ 40) :
    Calls Tryz.prog 90 #[.slice a n cap, .int .i64 (c : Int)] w fun e w' => e = .returned (.bool (decide (n = c) && marksB f n)) ∧ w' = w := by
  by_cases hn : n = c
  · subst hn
    go_enter Tryz.func90, Tryz.ntmps90
    go_wp2_with (go_at_call 22; refine (containsFunc_any _ _ _ _ _ h hl hs).mono ?_; rintro e w' ⟨rfl, rfl⟩)
    go_ret
    refine ⟨?_, rfl⟩
    simp
  · have d : ((n : Int) == (c : Int)) = false := by simp; omega
    go_enter Tryz.func90, Tryz.ntmps90
    go_wp2
    go_ret
    refine ⟨?_, rfl⟩
    simp [hn]
theorem pairs_any (v : Value) (w : World) (hv : v.oneCell' = true) : Calls Tryz.prog 106 #[v] w fun e w' => e = .returned (.func (.func 119) #[] #[.pointer (some ⟨w.heap.size, 0, none⟩)]) ∧ w' = w.alloc (.cells #[v] 23) := by
  go_enter Tryz.func106, Tryz.ntmps106
  go_wp2
  go_ret
  exact ⟨rfl, rfl⟩
end Go.Proofs.YtkapkphhceknfaaGreatDoor.Tr
namespace Go.Proofs.YtkapkphhceknfaaGreatDoor.Tr
open Go.RowKit Go.Shelf
attribute [local go_sem] Oper.semAt_some
theorem drewN_ind (J : World → Prop) (h : ∀ W, J W → J W.drew) (W : World) (h0 : J W) (k : Nat) : J (W.drewN k) := by
  induction k with
  | zero => exact h0
  | succ k ih => exact h _ ih
set_option maxRecDepth 100000 in
set_option maxHeartbeats 1000000 in
theorem pairs_gives (n Bp : Nat) (_hn : 1 ≤ n) (a : Option Addr) (M c N : Nat) (hM : Hid (M = 2 * N)) (f : Nat → ByteArray) (hN : N ≤ 16) (I : Nat → World → Prop) (hI : ∀ i W, I i W → W.cell? ⟨Bp, 0, none⟩ = some (.slice a M c) ∧ Tx W a f M) :
    Gives Fence.wide n Tryz.prog 119 #[.pointer (some ⟨Bp, 0, none⟩)] (fun i => #[.string (f (2 * i)), .string (f (2 * i + 1))]) N I := by
  intro l J W hJI hJd hY h0
  refine callsIn_of_wp Tryz.func119 rfl trivial ?_ rfl
  simp only [Tryz.ntmps119, List.size_toArray, List.length_cons, List.length_nil, Nat.reduceAdd, Nat.reduceSub, Array.replicate_succ, Array.replicate_zero, List.push_toArray, List.append_toArray, List.nil_append, List.cons_append]
  gi_wp2
  gi_loopw [3] (fun p wr => ∃ i : Nat, i ≤ N ∧ p = .int .i64 (2 * (i : Int) + 1) ∧ J i wr) (fun p _ => (2 * (N : Int) + 1 - intOf p).toNat)
  case atStart => exact ⟨0, by omega, by simp, h0⟩
  case round =>
    obtain ⟨i, hi, rfl, hJ⟩ := hrel
    obtain ⟨c0, hT⟩ := hI i wr (hJI i wr hJ)
    by_cases hlt : i < N
    · obtain ⟨u, hu⟩ : ∃ u : Nat, u = 2 * i := ⟨_, rfl⟩
      obtain ⟨t, ht⟩ : ∃ t : Nat, t = 2 * i + 1 := ⟨_, rfl⟩
      have hMo := hM.out
      have e1 : 2 * (i : Int) + 1 = (t : Int) := by omega
      have htu : (t : Int) - 1 = (u : Int) := by omega
      have htM : (t : Int) < (M : Int) := by omega
      have huM : (u : Int) < (M : Int) := by omega
      have hM32 : M ≤ 32 := by omega
      have e2 : Hid ((t : Int) + 2 = 2 * ((i + 1 : Nat) : Int) + 1) := by unfold Hid; omega
      have e3 : Hid (t ≤ 2 * N) := by unfold Hid; omega
      obtain ⟨g, o, rfl, hg, cu⟩ := hT u (by omega)
      obtain ⟨g', o', hgo, _, ct⟩ := hT t (by omega)
      obtain ⟨rfl, rfl⟩ : g = g' ∧ o = o' := by injection hgo with h; injection h with h1 h2; exact ⟨h1, h2⟩
      have hY' := fun k => hY i (wr.drewN k) hlt (drewN_ind (J i) (hJd i) wr hJ k)
      have ht' : t = u + 1 := by omega
      simp only [← hu, ← ht'] at hY'
      rw [e1]
      generalize f u = x at *
      generalize f t = y at *
      clear hT hY hgo hg hI hJI h0 e1
      have hu0 : (0 : Int) ≤ (u : Int) := by omega
      have ht0 : (0 : Int) ≤ (t : Int) := by omega
      clear hu ht hMo ht'
      gi_wp2
      refine regIn_head 10 12 (fun w' => ∃ n, w' = wr.drewN n) wide_none mixed rfl (by kernel_rfl) (by kernel_rfl) ⟨1, rfl⟩ ?_
      simp only [List.take_succ_cons, List.take_zero]
      repeat (go_big_quiet_step (fail))
      refine wpQuiet_nil ?_
      rintro w' ⟨k, rfl⟩
      obtain ⟨fn, tmps, assign, body, hy, hR⟩ := hY' k
      refine regIn_one 10 rfl (by kernel_rfl) (by kernel_rfl) fun K hK => ?_
      refine opIn_round wide_none (fun c => by simp) 20 rfl l fn tmps assign body (by go_simp) hR ?_
      rintro e w' ⟨rfl, hJ3⟩
      refine ⟨_, rfl, hK _ _ ?_⟩
      clear hK K
      refine regIn_one 11 rfl (by kernel_rfl) (by kernel_rfl) fun K hK => ?_
      refine opIn_value wide_none (fun c => by simp) 21 rfl (.bool false) (by go_simp) (hK _ _ ?_)
      clear hK K
      refine regIn_end (by kernel_rfl) ?_
      simp only [Act.put, List.setIfInBounds_toArray, List.set_cons_succ, List.set_cons_zero]
      gi_wp2
      go_light
      exact ⟨⟨i + 1, by omega, congrArg (Value.int .i64) e2.out, hJ3⟩, by have := e3.out; simp [intOf]; omega⟩
    · obtain rfl : i = N := by omega
      have hMo := hM.out
      have d : decide (2 * (i : Int) + 1 < (M : Int)) = false := decide_eq_false (by omega)
      clear hMo
      gi_wp2
      go_end0
      exact ⟨⟨_, rfl⟩, hJ⟩
end Go.Proofs.YtkapkphhceknfaaGreatDoor.Tr
