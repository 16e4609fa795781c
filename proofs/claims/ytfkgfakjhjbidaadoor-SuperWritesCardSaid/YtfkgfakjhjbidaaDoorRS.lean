/-
  Part of the proof: a region that draws its order, operation by operation, while a condition on the memory is kept: what yields the same wherever it holds is taken first; else what may come up is looked at.
-/
import Derived.Test.YtfkgfakjhjbidaaDoorQS
import Derived.Test.YtfkgfakjhjbidaaDoorRT
namespace Go.Proofs.YtfkgfakjhjbidaaDoor
open Go.RowKit
section
variable {P : Program} {l : List Oper} {Q : Exit → Act → World → Prop} {S : World → Prop} {fuel : Nat} {listed : Array Bool} {a : Act} {w : World}
/-- Whatever order is picked from here on; S holds behind each operation. -/
def wpS (P : Program) (l : List Oper) (Q : Exit → Act → World → Prop) (S : World → Prop) : Nat → Array Bool → Act → World → Prop := wpAnyS P l.toArray Q (fun _ => true) S
theorem regS_in {id : Nat} (n : Nat) (S : World → Prop) (hm : P.follows .mixedOrders = true) (hn : l.length = n) (h : wpS P l Q S n (Array.replicate n false) a w.drew) : (Code.region id l.toArray true).wp P Q a w := by
  refine wp_region_any hm ?_
  rw [List.size_toArray, hn]
  exact wpAny_of_S _ _ _ _ h
theorem clo_of {ops : Array Oper} {listed : Array Bool} (h1 : closedB ops listed = true) : Clo ops listed := by
  intro j oj hj hl e he hb
  have := List.all_eq_true.1 h1 j (List.mem_range.2 (Array.getElem?_eq_some_iff.1 hj).1)
  simp only [hl, hj, Bool.not_true, Bool.false_or] at this
  have := Array.all_eq_true_iff_forall_mem.1 this e he
  simpa [hb] using this
theorem regS_first (i : Nat) (d : Tmp) (v : Value) {o : Oper} (hi : l[i]? = some o) (hd : o.dst = some d) (hB : (Region.noSelect l.toArray && Region.free .any l.toArray listed i && (Region.ready .any l.toArray listed).contains i && closedB l.toArray listed) = true)
    (hQ : ∀ c a w, Q (.panic c) (a.put (some d) v) w → Q (.panic c) a w) (hy : YieldsIf P l.toArray S o v a) (hS : S w)
    (h : wpS P l Q S fuel (listed.setIfInBounds i true) (a.put (some d) v) w) : wpS P l Q S (fuel + 1) listed a w := by
  simp only [Bool.and_eq_true] at hB
  have hi' : l.toArray[i]? = some o := by rw [List.getElem?_toArray]; exact hi
  have hr : i ∈ Region.ready .any l.toArray listed := by simpa using hB.1.2
  refine wpAnyS_first (v := v) (S' := S) hi' (Region.noSelect_spec hB.1.1.1) (by rw [hd]; exact hQ) (fun _ _ _ _ _ _ _ h0 hk => hk rfl h0) fuel listed a w (clo_of hB.2) (Region.free_spec hi' hB.1.1.2) hr hy hS ?_
  rw [hd]; exact h
/-- What yields the same wherever S holds is taken first. -/
theorem regS_take (i : Nat) (d : Tmp) (v : Value) {o : Oper} (hi : l[i]? = some o) (hd : o.dst = some d) (hB : (Region.noSelect l.toArray && Region.free .any l.toArray listed i && (Region.ready .any l.toArray listed).contains i && closedB l.toArray listed) = true)
    (hQ : ∀ c a w, Q (.panic c) (a.put (some d) v) w → Q (.panic c) a w) (hw : Region.wanted o (yielded l.toArray a.tmps) = true) (hv : ∀ w, S w → (execOp a.eval o).run P w = .ok (.value v) w) (hS : S w)
    (h : wpS P l Q S fuel (listed.setIfInBounds i true) (a.put (some d) v) w) : wpS P l Q S (fuel + 1) listed a w :=
  regS_first i d v hi hd hB hQ (Or.inl ⟨hw, hv⟩) hS h
/-- What its guard leaves out. -/
theorem regS_skip (i : Nat) (d : Tmp) {o : Oper} (hi : l[i]? = some o) (hd : o.dst = some d) (hB : (Region.noSelect l.toArray && Region.free .any l.toArray listed i && (Region.ready .any l.toArray listed).contains i && closedB l.toArray listed) = true)
    (hQ : ∀ c a w, Q (.panic c) (a.put (some d) undef) w → Q (.panic c) a w) (hw : Region.wanted o (yielded l.toArray a.tmps) = false) (hS : S w)
    (h : wpS P l Q S fuel (listed.setIfInBounds i true) (a.put (some d) undef) w) : wpS P l Q S (fuel + 1) listed a w :=
  regS_first i d undef hi hd hB hQ (Or.inr ⟨hw, rfl⟩) hS h
theorem regS_op (i : Nat) {o : Oper} (hi : l[i]? = some o) (hw : Region.wanted o (yielded l.toArray a.tmps) = true) {K0 : Act → World → Prop} (h : ∀ K : Act → World → Prop, (∀ a' w', S w' → K0 a' w' → K a' w') → o.wp P a w K Q) : wpOp P l.toArray Q i (fun a' w' => (true = true → S w → S w') ∧ K0 a' w') a w := by
  have hi' : l.toArray[i]? = some o := by rw [List.getElem?_toArray]; exact hi
  unfold wpOp
  simp only [hi', hw, if_true]
  exact Or.inl (h _ fun _ _ hS hk => ⟨fun _ _ => hS, hk⟩)
/-- One operation alone may come up. -/
theorem regS_one (i : Nat) {o : Oper} (hi : l[i]? = some o) (hr : (Region.ready .any l.toArray listed == [i]) = true) (hw : Region.wanted o (yielded l.toArray a.tmps) = true)
    (h : ∀ K : Act → World → Prop, (∀ a' w', S w' → wpS P l Q S fuel (listed.setIfInBounds i true) a' w' → K a' w') → o.wp P a w K Q) : wpS P l Q S (fuel + 1) listed a w := by
  rw [beq_iff_eq] at hr
  refine ⟨fun h0 => (by rw [hr] at h0; cases h0), fun j hj => ?_⟩
  rw [hr] at hj
  obtain rfl := List.mem_singleton.1 hj
  exact regS_op _ hi hw h
theorem regS_two (i j : Nat) {o o' : Oper} (hi : l[i]? = some o) (hj : l[j]? = some o') (hr : (Region.ready .any l.toArray listed == [i, j]) = true) (hw : Region.wanted o (yielded l.toArray a.tmps) = true) (hw' : Region.wanted o' (yielded l.toArray a.tmps) = true)
    (h : ∀ K : Act → World → Prop, (∀ a' w', S w' → wpS P l Q S fuel (listed.setIfInBounds i true) a' w' → K a' w') → o.wp P a w K Q)
    (h' : ∀ K : Act → World → Prop, (∀ a' w', S w' → wpS P l Q S fuel (listed.setIfInBounds j true) a' w' → K a' w') → o'.wp P a w K Q) : wpS P l Q S (fuel + 1) listed a w := by
  rw [beq_iff_eq] at hr
  refine ⟨fun h0 => (by rw [hr] at h0; cases h0), fun k hk => ?_⟩
  rw [hr] at hk
  rcases List.mem_cons.1 hk with rfl | hk
  · exact regS_op _ hi hw h
  · obtain rfl := List.mem_singleton.1 hk
    exact regS_op _ hj hw' h'
theorem regS_end (hr : (Region.ready .any l.toArray listed == []) = true) (h : Q .normal a w) : wpS P l Q S fuel listed a w := by
  rw [beq_iff_eq] at hr
  cases fuel with
  | zero => exact ⟨hr, h⟩
  | succ n => exact ⟨fun _ => h, fun i hi => by rw [hr] at hi; cases hi⟩
/-- The last operation. -/
theorem regS_last (i : Nat) {o : Oper} (hi : l[i]? = some o) (hB : ((Region.ready .any l.toArray listed == [i]) && (Region.ready .any l.toArray (listed.setIfInBounds i true) == [])) = true) (hw : Region.wanted o (yielded l.toArray a.tmps) = true)
    (h : ∀ K : Act → World → Prop, (∀ a' w', S w' → Q .normal a' w' → K a' w') → o.wp P a w K Q) : wpS P l Q S (fuel + 1) listed a w := by
  rw [Bool.and_eq_true] at hB
  exact regS_one i hi hB.1 hw fun K hK => h K fun a' w' hS hQ => hK a' w' hS (regS_end hB.2 hQ)
end
end Go.Proofs.YtfkgfakjhjbidaaDoor
