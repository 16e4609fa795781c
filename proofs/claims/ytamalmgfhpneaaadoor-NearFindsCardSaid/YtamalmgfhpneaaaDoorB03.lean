/-
  Part of the proof: a region that draws its order, operation by operation: what yields in whatever world is taken first; else all that may come up is looked at.
  Part of the proof: a region that draws its order, operation by operation, while a condition on the memory is kept: what yields the same wherever it holds is taken first; else what may come up is looked at.
  Part of the proof: a slice of one-cell elements that the call itself has made, and append to it.
-/
import Derived.Test.YtamalmgfhpneaaaDoorB01
import Derived.RegionTactic
import Derived.Test.YtamalmgfhpneaaaDoorB02
import Derived.Deep.AppendLies
namespace Go.Proofs.YtamalmgfhpneaaaDoor
open Go.RowKit
section
variable {P : Program} {l : List Oper} {Q : Exit → Act → World → Prop} {fuel : Nat} {listed : Array Bool} {a : Act} {w : World}
theorem reg_in {id : Nat} (n : Nat) (hm : P.follows .mixedOrders = true) (hn : l.length = n) (h : wpAny P .any l.toArray Q n (Array.replicate n false) a w.drew) : (Code.region id l.toArray true).wp P Q a w := by
  refine wp_region_any hm ?_
  rw [List.size_toArray, hn]
  exact h
/-- What yields in whatever world is taken first. -/
theorem reg_take (i : Nat) (d : Tmp) (v : Value) {o : Oper} (hi : l[i]? = some o) (hd : o.dst = some d) (hB : (Region.noSelect l.toArray && Region.free .any l.toArray listed i && (Region.ready .any l.toArray listed).contains i) = true)
    (hQ : ∀ c a w, Q (.panic c) (a.put (some d) v) w → Q (.panic c) a w) (hw : Region.wanted o (yielded l.toArray a.tmps) = true) (hv : ∀ w, (execOp a.eval o).run P w = .ok (.value v) w)
    (h : wpAny P .any l.toArray Q fuel (listed.setIfInBounds i true) (a.put (some d) v) w) : wpAny P .any l.toArray Q (fuel + 1) listed a w := by
  simp only [Bool.and_eq_true] at hB
  have hi' : l.toArray[i]? = some o := by rw [List.getElem?_toArray]; exact hi
  refine wpAny_take (v := v) hi' hB.1.1 hB.1.2 hB.2 (by rw [hd]; exact hQ) (Or.inl ⟨hw, hv⟩) ?_
  rw [hd]; exact h
/-- What its guard leaves out. -/
theorem reg_skip (i : Nat) (d : Tmp) {o : Oper} (hi : l[i]? = some o) (hd : o.dst = some d) (hB : (Region.noSelect l.toArray && Region.free .any l.toArray listed i && (Region.ready .any l.toArray listed).contains i) = true)
    (hQ : ∀ c a w, Q (.panic c) (a.put (some d) undef) w → Q (.panic c) a w) (hw : Region.wanted o (yielded l.toArray a.tmps) = false)
    (h : wpAny P .any l.toArray Q fuel (listed.setIfInBounds i true) (a.put (some d) undef) w) : wpAny P .any l.toArray Q (fuel + 1) listed a w := by
  simp only [Bool.and_eq_true] at hB
  have hi' : l.toArray[i]? = some o := by rw [List.getElem?_toArray]; exact hi
  refine wpAny_take (v := undef) hi' hB.1.1 hB.1.2 hB.2 (by rw [hd]; exact hQ) (Or.inr ⟨hw, rfl⟩) ?_
  rw [hd]; exact h
theorem reg_op (i : Nat) {o : Oper} (hi : l[i]? = some o) (hw : Region.wanted o (yielded l.toArray a.tmps) = true) {K0 : Act → World → Prop} (h : ∀ K : Act → World → Prop, (∀ a' w', K0 a' w' → K a' w') → o.wp P a w K Q) : wpOp P l.toArray Q i K0 a w := by
  have hi' : l.toArray[i]? = some o := by rw [List.getElem?_toArray]; exact hi
  unfold wpOp
  simp only [hi', hw, if_true]
  exact Or.inl (h _ fun _ _ h => h)
/-- One operation alone may come up. -/
theorem reg_one (i : Nat) {o : Oper} (hi : l[i]? = some o) (hr : (Region.ready .any l.toArray listed == [i]) = true) (hw : Region.wanted o (yielded l.toArray a.tmps) = true)
    (h : ∀ K : Act → World → Prop, (∀ a' w', wpAny P .any l.toArray Q fuel (listed.setIfInBounds i true) a' w' → K a' w') → o.wp P a w K Q) : wpAny P .any l.toArray Q (fuel + 1) listed a w := by
  rw [beq_iff_eq] at hr
  refine ⟨fun h0 => (by rw [hr] at h0; cases h0), fun j hj => ?_⟩
  rw [hr] at hj
  obtain rfl := List.mem_singleton.1 hj
  exact reg_op _ hi hw h
/-- Two may come up. -/
theorem reg_two (i j : Nat) {o o' : Oper} (hi : l[i]? = some o) (hj : l[j]? = some o') (hr : (Region.ready .any l.toArray listed == [i, j]) = true) (hw : Region.wanted o (yielded l.toArray a.tmps) = true) (hw' : Region.wanted o' (yielded l.toArray a.tmps) = true)
    (h : ∀ K : Act → World → Prop, (∀ a' w', wpAny P .any l.toArray Q fuel (listed.setIfInBounds i true) a' w' → K a' w') → o.wp P a w K Q)
    (h' : ∀ K : Act → World → Prop, (∀ a' w', wpAny P .any l.toArray Q fuel (listed.setIfInBounds j true) a' w' → K a' w') → o'.wp P a w K Q) : wpAny P .any l.toArray Q (fuel + 1) listed a w := by
  rw [beq_iff_eq] at hr
  refine ⟨fun h0 => (by rw [hr] at h0; cases h0), fun k hk => ?_⟩
  rw [hr] at hk
  rcases List.mem_cons.1 hk with rfl | hk
  · exact reg_op _ hi hw h
  · obtain rfl := List.mem_singleton.1 hk
    exact reg_op _ hj hw' h'
theorem reg_end (hr : (Region.ready .any l.toArray listed == []) = true) (h : Q .normal a w) : wpAny P .any l.toArray Q fuel listed a w :=
  wpAny_done (by rwa [beq_iff_eq] at hr) h fuel
end
end Go.Proofs.YtamalmgfhpneaaaDoor
namespace Go.Proofs.YtamalmgfhpneaaaDoor
open Go.RowKit
section
variable {P : Program} {l : List Oper} {Q : Exit → Act → World → Prop} {S : World → Prop} {fuel : Nat} {listed : Array Bool} {a : Act} {w : World}
/-- Whatever order is picked from here on; S holds behind each operation. -/
def wpS (P : Program) (l : List Oper) (Q : Exit → Act → World → Prop) (S : World → Prop) : Nat → Array Bool → Act → World → Prop := wpAnyS P l.toArray Q (fun _ => true) S
theorem regS_in {id : Nat} (n : Nat) (S : World → Prop) (hm : P.follows .mixedOrders = true) (hn : l.length = n) (h : wpS P l Q S n (Array.replicate n false) a w.drew) : (Code.region id l.toArray true).wp P Q a w := by
  refine wp_region_any hm ?_
  rw [List.size_toArray, hn]
  exact wpAny_of_S _ _ _ _ h
theorem clo_of {ops : Array Oper} {listed : Array Bool} (h1 : closedB ops listed = true) : Clo ops listed := by
  intro j oj hj hl e he hb
  have := List.all_eq_true.1 h1 j (List.mem_range.2 (Array.getElem?_eq_some_iff.1 hj).1)
  simp only [hl, hj, Bool.not_true, Bool.false_or] at this
  have := Array.all_eq_true_iff_forall_mem.1 this e he
  simpa [hb] using this
theorem regS_first (i : Nat) (d : Tmp) (v : Value) {o : Oper} (hi : l[i]? = some o) (hd : o.dst = some d) (hB : (Region.noSelect l.toArray && Region.free .any l.toArray listed i && (Region.ready .any l.toArray listed).contains i && closedB l.toArray listed) = true)
    (hQ : ∀ c a w, Q (.panic c) (a.put (some d) v) w → Q (.panic c) a w) (hy : YieldsIf P l.toArray S o v a) (hS : S w)
    (h : wpS P l Q S fuel (listed.setIfInBounds i true) (a.put (some d) v) w) : wpS P l Q S (fuel + 1) listed a w := by
  simp only [Bool.and_eq_true] at hB
  have hi' : l.toArray[i]? = some o := by rw [List.getElem?_toArray]; exact hi
  have hr : i ∈ Region.ready .any l.toArray listed := by simpa using hB.1.2
  refine wpAnyS_first (v := v) (S' := S) hi' (Region.noSelect_spec hB.1.1.1) (by rw [hd]; exact hQ) (fun _ _ _ _ _ _ _ h0 hk => hk rfl h0) fuel listed a w (clo_of hB.2) (Region.free_spec hi' hB.1.1.2) hr hy hS ?_
  rw [hd]; exact h
/-- What yields the same wherever S holds is taken first. -/
theorem regS_take (i : Nat) (d : Tmp) (v : Value) {o : Oper} (hi : l[i]? = some o) (hd : o.dst = some d) (hB : (Region.noSelect l.toArray && Region.free .any l.toArray listed i && (Region.ready .any l.toArray listed).contains i && closedB l.toArray listed) = true)
    (hQ : ∀ c a w, Q (.panic c) (a.put (some d) v) w → Q (.panic c) a w) (hw : Region.wanted o (yielded l.toArray a.tmps) = true) (hv : ∀ w, S w → (execOp a.eval o).run P w = .ok (.value v) w) (hS : S w)
    (h : wpS P l Q S fuel (listed.setIfInBounds i true) (a.put (some d) v) w) : wpS P l Q S (fuel + 1) listed a w :=
  regS_first i d v hi hd hB hQ (Or.inl ⟨hw, hv⟩) hS h
/-- What its guard leaves out. -/
theorem regS_skip (i : Nat) (d : Tmp) {o : Oper} (hi : l[i]? = some o) (hd : o.dst = some d) (hB : (Region.noSelect l.toArray && Region.free .any l.toArray listed i && (Region.ready .any l.toArray listed).contains i && closedB l.toArray listed) = true)
    (hQ : ∀ c a w, Q (.panic c) (a.put (some d) undef) w → Q (.panic c) a w) (hw : Region.wanted o (yielded l.toArray a.tmps) = false) (hS : S w)
    (h : wpS P l Q S fuel (listed.setIfInBounds i true) (a.put (some d) undef) w) : wpS P l Q S (fuel + 1) listed a w :=
  regS_first i d undef hi hd hB hQ (Or.inr ⟨hw, rfl⟩) hS h
theorem regS_op (i : Nat) {o : Oper} (hi : l[i]? = some o) (hw : Region.wanted o (yielded l.toArray a.tmps) = true) {K0 : Act → World → Prop} (h : ∀ K : Act → World → Prop, (∀ a' w', S w' → K0 a' w' → K a' w') → o.wp P a w K Q) : wpOp P l.toArray Q i (fun a' w' => (true = true → S w → S w') ∧ K0 a' w') a w := by
  have hi' : l.toArray[i]? = some o := by rw [List.getElem?_toArray]; exact hi
  unfold wpOp
  simp only [hi', hw, if_true]
  exact Or.inl (h _ fun _ _ hS hk => ⟨fun _ _ => hS, hk⟩)
/-- One operation alone may come up. -/
theorem regS_one (i : Nat) {o : Oper} (hi : l[i]? = some o) (hr : (Region.ready .any l.toArray listed == [i]) = true) (hw : Region.wanted o (yielded l.toArray a.tmps) = true)
    (h : ∀ K : Act → World → Prop, (∀ a' w', S w' → wpS P l Q S fuel (listed.setIfInBounds i true) a' w' → K a' w') → o.wp P a w K Q) : wpS P l Q S (fuel + 1) listed a w := by
  rw [beq_iff_eq] at hr
  refine ⟨fun h0 => (by rw [hr] at h0; cases h0), fun j hj => ?_⟩
  rw [hr] at hj
  obtain rfl := List.mem_singleton.1 hj
  exact regS_op _ hi hw h
theorem regS_two (i j : Nat) {o o' : Oper} (hi : l[i]? = some o) (hj : l[j]? = some o') (hr : (Region.ready .any l.toArray listed == [i, j]) = true) (hw : Region.wanted o (yielded l.toArray a.tmps) = true) (hw' : Region.wanted o' (yielded l.toArray a.tmps) = true)
    (h : ∀ K : Act → World → Prop, (∀ a' w', S w' → wpS P l Q S fuel (listed.setIfInBounds i true) a' w' → K a' w') → o.wp P a w K Q)
    (h' : ∀ K : Act → World → Prop, (∀ a' w', S w' → wpS P l Q S fuel (listed.setIfInBounds j true) a' w' → K a' w') → o'.wp P a w K Q) : wpS P l Q S (fuel + 1) listed a w := by
  rw [beq_iff_eq] at hr
  refine ⟨fun h0 => (by rw [hr] at h0; cases h0), fun k hk => ?_⟩
  rw [hr] at hk
  rcases List.mem_cons.1 hk with rfl | hk
  · exact regS_op _ hi hw h
  · obtain rfl := List.mem_singleton.1 hk
    exact regS_op _ hj hw' h'
theorem regS_end (hr : (Region.ready .any l.toArray listed == []) = true) (h : Q .normal a w) : wpS P l Q S fuel listed a w := by
  rw [beq_iff_eq] at hr
  cases fuel with
  | zero => exact ⟨hr, h⟩
  | succ n => exact ⟨fun _ => h, fun i hi => by rw [hr] at hi; cases hi⟩
/-- The last operation. -/
theorem regS_last (i : Nat) {o : Oper} (hi : l[i]? = some o) (hB : ((Region.ready .any l.toArray listed == [i]) && (Region.ready .any l.toArray (listed.setIfInBounds i true) == [])) = true) (hw : Region.wanted o (yielded l.toArray a.tmps) = true)
    (h : ∀ K : Act → World → Prop, (∀ a' w', S w' → Q .normal a' w' → K a' w') → o.wp P a w K Q) : wpS P l Q S (fuel + 1) listed a w := by
  rw [Bool.and_eq_true] at hB
  exact regS_one i hi hB.1 hw fun K hK => h K fun a' w' hS hQ => hK a' w' hS (regS_end hB.2 hQ)
end
end Go.Proofs.YtamalmgfhpneaaaDoor
namespace Go.Proofs.YtamalmgfhpneaaaDoor
open Go.RowKit
/-- A slice of one-cell elements that the call has made. -/
def Row (w : World) (B : Nat) (e : TypeId) (v : Value) (xs : List Value) : Prop := w.ownsRow B e 1 v xs.length xs
theorem Row.nil (w : World) (B : Nat) (e : TypeId) : Row w B e (.slice none 0 0) [] := ⟨rfl, Or.inl ⟨rfl, rfl⟩⟩
theorem Row.below {w w' : World} {B : Nat} {e : TypeId} {v : Value} {xs : List Value} (h : Row w B e v xs) (hb : Below w.heap.size w w') : Row w' B e v xs := by
  obtain ⟨h1, h2⟩ := h
  refine ⟨h1, ?_⟩
  rcases h2 with h2 | ⟨g, cap, cur, hv, hg, hh, r⟩
  · exact Or.inl h2
  · refine Or.inr ⟨g, cap, cur, hv, hg, ?_, r⟩
    have lt : g < w.heap.size := by
      rcases Nat.lt_or_ge g w.heap.size with h' | h'
      · exact h'
      · simp [Array.getElem?_eq_none h'] at hh
    rw [hb.block _ lt]; exact hh
theorem Row.grown {w w' : World} {B g : Nat} {e : TypeId} {n cap : Nat} {xs : List Value} {row : Option Nat} (h : Row w B e (.slice (some ⟨g, 0, none⟩) n cap) xs) (hg : w.grownBy w' row) (hne : some g ≠ row) : Row w' B e (.slice (some ⟨g, 0, none⟩) n cap) xs := by
  obtain ⟨h1, h2⟩ := h
  refine ⟨h1, ?_⟩
  rcases h2 with h2 | ⟨g', cap', cur, hv, hgB, hh, r⟩
  · exact Or.inl h2
  · refine Or.inr ⟨g', cap', cur, hv, hgB, ?_, r⟩
    have lt : g' < w.heap.size := by
      rcases Nat.lt_or_ge g' w.heap.size with h' | h'
      · exact h'
      · simp [Array.getElem?_eq_none h'] at hh
    have e : g = g' := by injection hv with a1; injection a1 with a2; injection a2
    rw [hg.block _ lt (e ▸ hne)]; exact hh
theorem Row.cell {w : World} {B g n cap : Nat} {e : TypeId} {xs : List Value} (h : Row w B e (.slice (some ⟨g, 0, none⟩) n cap) xs) (j : Nat) (u : Value) (hj : xs[j]? = some u) : w.cell? ⟨g, j, none⟩ = some u := by
  obtain ⟨h1, h2⟩ := h
  rcases h2 with ⟨h2, _⟩ | ⟨g', cap', cur, hv, hgB, hh, _, _, _, ht⟩
  · injection h2 with a1; cases a1
  · have e : g = g' := by injection hv with a1; injection a1 with a2; injection a2
    subst e
    simp only [World.cell?, hh]
    rw [← ht, List.getElem?_take] at hj
    split at hj
    · simpa using hj
    · cases hj
theorem Row.form {w : World} {B : Nat} {e : TypeId} {v : Value} {xs : List Value} (h : Row w B e v xs) : (v = .slice none 0 0 ∧ xs = []) ∨ ∃ g cap, v = .slice (some ⟨g, 0, none⟩) xs.length cap ∧ B ≤ g ∧ g < w.heap.size := by
  obtain ⟨h1, h2⟩ := h
  rcases h2 with ⟨h2, h3⟩ | ⟨g', cap', cur, hv, hgB, hh, _⟩
  · exact Or.inl ⟨h2, List.eq_nil_of_length_eq_zero h3⟩
  · refine Or.inr ⟨g', cap', hv, hgB, ?_⟩
    rcases Nat.lt_or_ge g' w.heap.size with h' | h'
    · exact h'
    · simp [Array.getElem?_eq_none h'] at hh
/-- What an append leaves of all that stands below. -/
theorem below_grown {B : Nat} {a w w' : World} {e : TypeId} {v : Value} {xs : List Value} (h : Below B a w) (hr : Row w B e v xs) (hg : w.grownBy w' v.ownBlock) (hB : B ≤ w.heap.size) : Below B a w' :=
  h.grown hg hB fun k hk => by
    rcases hr.form with ⟨e1, _⟩ | ⟨g, cap, e1, hgB, _⟩
    · rw [e1] at hk; cases hk
    · rw [e1] at hk; simp only [Value.ownBlock, Option.some.injEq] at hk; omega
section
variable {P : Program} {ops : Array Oper} {Q : Exit → Act → World → Prop} {a : Act} {w : World} {rest : List Oper} {o : Oper}
/-- One element appended to a slice that the call has made. -/
theorem wpl_push (hgd : o.guard = none) (s x : Operand) (t : TypeId) (ho : o.op = .call { callee := .builtin .append, args := #[s, x], argTypes := #[t, t] })
    (B : Nat) (e : TypeId) (z : Value) (bytes : Nat) (ht : P.underlying t = some (.slice e)) (hinfo : (P.info? e).map (fun i => (i.zero, i.size, i.bytes)) = some (some z, 1, bytes)) (hz1 : z.cells.size = 1)
    (v : Value) (xs : List Value) (hs : a.eval s = v) (hown : Row w B e v xs) (sb c : Nat) (u : Value) (hx : a.eval x = .slice (some ⟨sb, 0, none⟩) 1 c) (hu : w.cell? ⟨sb, 0, none⟩ = some u) (hu1 : u.oneCell' = true)
    (hlen : xs.length < 100000) (hby : bytes ≤ 8) (hbase : B ≤ w.heap.size)
    (h : ∀ g cap w', Row w' B e (.slice (some ⟨g, 0, none⟩) (xs.length + 1) cap) (xs ++ [u]) → w.grownBy w' v.ownBlock → (v.ownBlock = some g ∨ g = w.heap.size) → g < w'.heap.size → wpList P ops Q rest (a.put o.dst (.slice (some ⟨g, 0, none⟩) (xs.length + 1) cap)) w') :
    wpList P ops Q (o :: rest) a w := by
  obtain ⟨i, hi, hp⟩ := Option.map_eq_some_iff.1 hinfo
  simp only [Prod.mk.injEq] at hp
  obtain ⟨p1, p2, p3⟩ := hp
  refine wpList_append_lies w hgd s x t ho B e i z 1 bytes ht hi p1 p2 p3 hz1 (by decide) v xs.length xs hs hown ⟨sb, 0, none⟩ 1 c [u] hx rfl ?_ ?_ (by decide) (by unfold maxLen; omega) ?_ hbase w.heap.size rfl ?_
  · intro j u' hj
    match j with
    | 0 => simp only [List.getElem?_cons_zero, Option.some.injEq] at hj; subst hj; exact hu
    | j + 1 => simp at hj
  · intro u' hu'; simp at hu'; subst hu'; exact hu1
  · have := Nat.mul_le_mul (Nat.succ_le_of_lt hlen) hby; simp only [Nat.succ_eq_add_one] at this; omega
  · intro g cap w' h1 h2 h3 h4
    exact h g cap w' (by unfold Row; simpa using h1) h2 h3 h4
end
end Go.Proofs.YtamalmgfhpneaaaDoor
