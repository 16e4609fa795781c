/-
  Part of the proof: a map keyed by an int that may be nil, told as a function, and the laws at the operations.
-/
import Derived.Test.YtmfbfhkhfhphfabGreatDoorB31
namespace Go.Proofs.YtmfbfhkhfhphfabGreatDoor
open Go.RowKit Go.Maps
/-- A map's value tells f (of at most n entries); nil tells nothing. -/
def MapV (P : Program) (w : World) (v : Value) (n : Nat) (f : Int → Option Value) : Prop := (v = .map none ∧ ∀ i, f i = none) ∨ ∃ b, v = .map (some b) ∧ MapF P w b n f
def RngV (P : Program) (w : World) (v : Value) (r n : Nat) (f : Int → Option Value) (left : Int → Bool) (cnt : Nat) : Prop :=
  (v = .map none ∧ (∀ i, f i = none) ∧ (∃ a s c, w.heap[r]? = some (.mapIter none a s c)) ∧ (∀ i, left i = false) ∧ cnt = 0) ∨ ∃ b, v = .map (some b) ∧ RngF P w b r n f left cnt
/-- How many entries are still to come. -/
def rleft (w : World) (r : Nat) : Nat := match w.heap[r]? with
  | some (.mapIter (some b) _ _ _) => w.rangeLeft b r
  | _ => 0
section
variable {P : Program} {w w' : World} {v : Value} {r n cnt : Nat} {f : Int → Option Value} {left : Int → Bool}
theorem MapV.of {b : Nat} (h : MapF P w b n f) : MapV P w (.map (some b)) n f := Or.inr ⟨b, rfl, h⟩
theorem MapV.same (h : MapV P w v n f) (hs : ∀ b, v = .map (some b) → w'.heap[b]? = w.heap[b]?) : MapV P w' v n f := by
  rcases h with h | ⟨b, rfl, h⟩
  · exact Or.inl h
  · exact Or.inr ⟨b, rfl, h.same (hs b rfl)⟩
theorem MapV.lt {b : Nat} (h : MapV P w (.map (some b)) n f) : b < w.heap.size := by
  rcases h with ⟨h, _⟩ | ⟨b', e, h⟩
  · cases h
  · cases e; exact h.lt
theorem MapV.below (h : MapV P w v n f) (hb : Below w.heap.size w w') : MapV P w' v n f := by
  rcases h with h | ⟨b, rfl, h⟩
  · exact Or.inl h
  · exact Or.inr ⟨b, rfl, h.below hb h.lt⟩
theorem RngF.same {b : Nat} (h : RngF P w b r n f left cnt) (h1 : w'.heap[b]? = w.heap[b]?) (h2 : w'.heap[r]? = w.heap[r]?) : RngF P w' b r n f left cnt := by
  obtain ⟨D, L, ⟨es, clock, since, seen, c0, hb, F, hs, hD, hr, rest⟩, h3⟩ := h
  exact ⟨D, L, ⟨es, clock, since, seen, c0, h1.trans hb, F, hs, hD, h2.trans hr, rest⟩, h3⟩
theorem RngV.same (h : RngV P w v r n f left cnt) (hs : ∀ b, v = .map (some b) → w'.heap[b]? = w.heap[b]?) (hr : w'.heap[r]? = w.heap[r]?) : RngV P w' v r n f left cnt := by
  rcases h with ⟨h1, h2, ⟨a, s, c, h3⟩, h4⟩ | ⟨b, rfl, h⟩
  · exact Or.inl ⟨h1, h2, ⟨a, s, c, hr.trans h3⟩, h4⟩
  · exact Or.inr ⟨b, rfl, h.same (hs b rfl) hr⟩
theorem RngV.lt (h : RngV P w v r n f left cnt) : r < w.heap.size := by
  rcases h with ⟨h1, h2, ⟨a, s, c, h3⟩, h4⟩ | ⟨b, rfl, h⟩
  · exact (Array.getElem?_eq_some_iff.1 h3).1
  · exact h.lt
theorem RngV.map (h : RngV P w v r n f left cnt) : MapV P w v n f := by
  rcases h with ⟨h1, h2, _⟩ | ⟨b, rfl, h⟩
  · exact Or.inl ⟨h1, h2⟩
  · exact Or.inr ⟨b, rfl, h.map⟩
theorem RngV.ne {b : Nat} (h : RngV P w v r n f left cnt) (hv : v = .map (some b)) : r ≠ b := by
  rcases h with ⟨h1, _⟩ | ⟨b', e, h⟩
  · rw [h1] at hv; cases hv
  · rw [e] at hv; cases hv; exact h.ne
theorem RngV.below (h : RngV P w v r n f left cnt) (hb : Below w.heap.size w w') : RngV P w' v r n f left cnt := by
  have h1 := h.lt
  refine h.same (fun b hv => hb.block b ?_) (hb.block r h1)
  have := h.map
  rw [hv] at this
  exact this.lt
theorem RngV.left_eq (h : RngV P w v r n f left cnt) : rleft w r = cnt := by
  rcases h with ⟨_, _, ⟨a, s, c, h3⟩, _, rfl⟩ | ⟨b, rfl, h⟩
  · simp [rleft, h3]
  · have e := h.left_eq
    obtain ⟨D, L, ⟨es, clock, since, seen, c0, hb, F, hs, hD, hr, rest⟩, h3⟩ := h
    simp only [rleft, hr]; exact e
theorem upd_of_grown {b : Nat} (hg : w.grownBy w' (some b)) (hz : w'.heap.size = w.heap.size) : Upd w w' b := by
  refine ⟨hg.os, hg.tape, hg.output, hz, fun k hk => ?_⟩
  by_cases h : k < w.heap.size
  · exact hg.block k h (by simpa using hk)
  · rw [Array.getElem?_eq_none (by omega), Array.getElem?_eq_none (by omega)]
theorem below_of_grown (hg : w.grownBy w' none) : Below w.heap.size w w' := ⟨hg.os, hg.tape, hg.output, hg.size, fun k hk => hg.block k hk (by simp)⟩
variable {ops : Array Oper} {Q : Exit → Act → World → Prop} {a : Act} {rest : List Oper} {o : Oper}
theorem wpl_rangeV (hgd : o.guard = none) (t : TypeId) (m : Operand) (ho : o.op = .range t m) (hk : P.underlying 3 = some (.int .i64)) (e : TypeId) (ht : P.underlying t = some (.map 3 e)) (v : Value) (n : Nat) (f : Int → Option Value) (hm : a.eval m = v) (hM : MapV P w v n f)
    (h : ∀ w' cnt, RngV P w' v w.heap.size n f (fun i => (f i).isSome) cnt → cnt ≤ n → Below w.heap.size w w' → w'.heap.size = w.heap.size + 1 → wpList P ops Q rest (a.put o.dst (.pointer (some ⟨w.heap.size, 0, none⟩))) w') : wpList P ops Q (o :: rest) a w := by
  refine wpList_plain hgd fun K hK => ?_
  rcases hM with ⟨rfl, hf⟩ | ⟨b, rfl, hM⟩
  · unfold Oper.wp
    simp [execOp, ho, hm, run_range_nilMap w t 3 e ht, Result.andThen]
    refine hK _ _ (h _ 0 (Or.inl ⟨rfl, hf, ⟨_, _, _, heap_alloc_new w _⟩, fun i => by simp [hf i], rfl⟩) (Nat.zero_le _) ((Below.refl _ _).alloc (Nat.le_refl _) _) (by simp))
  · obtain ⟨w', cnt, hrun, r1, r2, r3, r4⟩ := hM.range hk ht
    unfold Oper.wp
    simp [execOp, ho, hm, hrun, Result.andThen]
    exact hK _ _ (h w' cnt (Or.inr ⟨b, rfl, r1⟩) r2 (below_of_grown r3) r4)
theorem wpl_nextV (hgd : o.guard = none) (it : Operand) (ho : o.op = .next it false) (hk : P.underlying 3 = some (.int .i64)) (v : Value) (r n : Nat) (f : Int → Option Value) (left : Int → Bool) (cnt : Nat) (hit : a.eval it = .pointer (some ⟨r, 0, none⟩)) (hR : RngV P w v r n f left cnt)
    (hDone : (∀ i, kOk i → left i = false) → wpList P ops Q rest (a.put o.dst (.tuple #[.bool false])) w)
    (hMore : ∀ i u w' cnt', kOk i → left i = true → f i = some u → RngV P w' v r n f (fun j => left j && !decide (j = i)) cnt' → cnt' < cnt → Upd w w' r → (Instr.entry (.pointer (some ⟨r, 0, none⟩))).run P w' = .ok (.tuple #[.int .i64 i, u]) w' → wpList P ops Q rest (a.put o.dst (.tuple #[.bool true, .int .i64 i, u])) w') : wpList P ops Q (o :: rest) a w := by
  refine wpList_plain hgd fun K hK => ?_
  unfold Oper.wp
  rcases hR with ⟨h1, h2, ⟨x, s, c, h3⟩, h4, _⟩ | ⟨b, rfl, hR⟩
  · have hrun : (Instr.next (.pointer (some ⟨r, 0, none⟩)) false o.type).run P w = .ok (.tuple #[.bool false]) w := by
      simp only [Instr.next, getObj, Sem.run_bind, Sem.run, h3, Result.andThen]
      rfl
    simp [execOp, ho, hit, hrun, Result.andThen]
    exact hK _ _ (hDone fun i _ => h4 i)
  · rcases hR.next hk o.type with ⟨_, hl, hrun⟩ | ⟨i, u, w', cnt', hi, hl, hf, hrun, hR', hlt, hg, hz, hen⟩
    · simp [execOp, ho, hit, hrun, Result.andThen]
      exact hK _ _ (hDone hl)
    · simp [execOp, ho, hit, hrun, Result.andThen]
      exact hK _ _ (hMore i u w' cnt' hi hl hf (Or.inr ⟨b, rfl, hR'⟩) hlt (upd_of_grown hg hz) hen)
theorem MapV.range {t e : TypeId} (hM : MapV P w v n f) (hk : P.underlying 3 = some (.int .i64)) (ht : P.underlying t = some (.map 3 e)) :
    ∃ w' cnt, (Instr.range t v).run P w = .ok (.pointer (some ⟨w.heap.size, 0, none⟩)) w' ∧ RngV P w' v w.heap.size n f (fun i => (f i).isSome) cnt ∧ cnt ≤ n ∧ Below w.heap.size w w' ∧ w'.heap.size = w.heap.size + 1 := by
  rcases hM with ⟨rfl, hf⟩ | ⟨b, rfl, hM⟩
  · exact ⟨_, 0, run_range_nilMap w t 3 e ht, Or.inl ⟨rfl, hf, ⟨_, _, _, heap_alloc_new w _⟩, fun i => by simp [hf i], rfl⟩, Nat.zero_le _, (Below.refl _ _).alloc (Nat.le_refl _) _, by simp⟩
  · obtain ⟨w', cnt, hrun, r1, r2, r3, r4⟩ := hM.range hk ht
    exact ⟨w', cnt, hrun, Or.inr ⟨b, rfl, r1⟩, r2, below_of_grown r3, r4⟩
theorem RngV.next (hR : RngV P w v r n f left cnt) (hk : P.underlying 3 = some (.int .i64)) (ty : TypeId) :
    ((∀ i, kOk i → left i = false) ∧ (Instr.next (.pointer (some ⟨r, 0, none⟩)) false ty).run P w = .ok (.tuple #[.bool false]) w) ∨
    ∃ i u w' cnt', kOk i ∧ left i = true ∧ f i = some u ∧ (Instr.next (.pointer (some ⟨r, 0, none⟩)) false ty).run P w = .ok (.tuple #[.bool true, .int .i64 i, u]) w' ∧
      RngV P w' v r n f (fun j => left j && !decide (j = i)) cnt' ∧ cnt' < cnt ∧ Upd w w' r ∧ (Instr.entry (.pointer (some ⟨r, 0, none⟩))).run P w' = .ok (.tuple #[.int .i64 i, u]) w' := by
  rcases hR with ⟨h1, h2, ⟨x, s, c, h3⟩, h4, _⟩ | ⟨b, rfl, hR⟩
  · refine Or.inl ⟨fun i _ => h4 i, ?_⟩
    simp only [Instr.next, getObj, Sem.run_bind, Sem.run, h3, Result.andThen]
    rfl
  · rcases hR.next hk ty with ⟨_, hl, hrun⟩ | ⟨i, u, w', cnt', hi, hl, hf, hrun, hR', hlt, hg, hz, hen⟩
    · exact Or.inl ⟨hl, hrun⟩
    · exact Or.inr ⟨i, u, w', cnt', hi, hl, hf, hrun, Or.inr ⟨b, rfl, hR'⟩, hlt, upd_of_grown hg hz, hen⟩
theorem run_lookV (hk : P.underlying 3 = some (.int .i64)) {t e : TypeId} (ht : P.underlying t = some (.map 3 e)) (z : Value) (hz : ∀ w, (zeroValue e).run P w = .ok z w) (hM : MapV P w v n f) {i : Int} (hi : kOk i) : (Instr.lookup t v (.int .i64 i) false).run P w = .ok ((f i).getD z) w := by
  rcases hM with ⟨rfl, hf⟩ | ⟨b, rfl, hM⟩
  · rw [hf i]
    exact Maps.look_nil false (int_keyed (P := P) hk) ht (hz w) (keyOf_int_mk hk hi)
  · exact hM.look hk ht (hz w) hi
theorem run_lookVok (hk : P.underlying 3 = some (.int .i64)) {t e : TypeId} (ht : P.underlying t = some (.map 3 e)) (z : Value) (hz : ∀ w, (zeroValue e).run P w = .ok z w) (hM : MapV P w v n f) {i : Int} (hi : kOk i) : (Instr.lookup t v (.int .i64 i) true).run P w = .ok (.tuple #[(f i).getD z, .bool (f i).isSome]) w := by
  rcases hM with ⟨rfl, hf⟩ | ⟨b, rfl, hM⟩
  · rw [hf i]
    exact Maps.look_nil true (int_keyed (P := P) hk) ht (hz w) (keyOf_int_mk hk hi)
  · exact hM.look_ok hk ht (hz w) hi
theorem wpl_lookV (hgd : o.guard = none) (t : TypeId) (m x : Operand) (ho : o.op = .lookup t m x false) (hk : P.underlying 3 = some (.int .i64)) (e : TypeId) (ht : P.underlying t = some (.map 3 e)) (z : Value) (hz : ∀ w, (zeroValue e).run P w = .ok z w) (v : Value) (n : Nat) (f : Int → Option Value) (i : Int) (hm : a.eval m = v) (hx : a.eval x = .int .i64 i) (hM : MapV P w v n f) (hi : kOk i)
    (h : wpList P ops Q rest (a.put o.dst ((f i).getD z)) w) : wpList P ops Q (o :: rest) a w := by
  refine wpList_plain hgd fun K hK => ?_
  unfold Oper.wp
  simp [execOp, ho, hm, hx, run_lookV hk ht z hz hM hi, Result.andThen]
  exact hK _ _ h
theorem wpl_lookVok (hgd : o.guard = none) (t : TypeId) (m x : Operand) (ho : o.op = .lookup t m x true) (hk : P.underlying 3 = some (.int .i64)) (e : TypeId) (ht : P.underlying t = some (.map 3 e)) (z : Value) (hz : ∀ w, (zeroValue e).run P w = .ok z w) (v : Value) (n : Nat) (f : Int → Option Value) (i : Int) (hm : a.eval m = v) (hx : a.eval x = .int .i64 i) (hM : MapV P w v n f) (hi : kOk i)
    (h : wpList P ops Q rest (a.put o.dst (.tuple #[(f i).getD z, .bool (f i).isSome])) w) : wpList P ops Q (o :: rest) a w := by
  refine wpList_plain hgd fun K hK => ?_
  unfold Oper.wp
  simp [execOp, ho, hm, hx, run_lookVok hk ht z hz hM hi, Result.andThen]
  exact hK _ _ h
theorem wpl_lenV (hgd : o.guard = none) (m : Operand) (t : TypeId) (ho : o.op = .call { callee := .builtin .len, args := #[m], argTypes := #[t] }) (e : TypeId) (ht : P.underlying t = some (.map 3 e)) (v : Value) (n : Nat) (f : Int → Option Value) (hm : a.eval m = v) (hM : MapV P w v n f)
    (h : ∀ k : Nat, k ≤ n → wpList P ops Q rest (a.put o.dst (.int .i64 (k : Int))) w) : wpList P ops Q (o :: rest) a w := by
  refine wpList_plain hgd fun K hK => ?_
  unfold Oper.wp
  rcases hM with ⟨rfl, hf⟩ | ⟨b, rfl, hM⟩
  · simp [execOp, ho, resolve, invoke, builtin, hm, Maps.len_nil ht o.type, Result.andThen]
    exact hK _ _ (h 0 (Nat.zero_le _))
  · obtain ⟨k, hkn, hrun⟩ := hM.len ht o.type
    simp [execOp, ho, resolve, invoke, builtin, hm, hrun, Result.andThen]
    exact hK _ _ (h k hkn)
theorem wpl_putF (hgd : o.guard = none) (hdn : o.dst = none) (t : TypeId) (m x y : Operand) (ho : o.op = .mapUpdate t m x y) (hk : P.underlying 3 = some (.int .i64)) (e : TypeId) (ht : P.underlying t = some (.map 3 e)) (b n : Nat) (f : Int → Option Value) (i : Int) (u : Value) (hm : a.eval m = .map (some b)) (hx : a.eval x = .int .i64 i) (hy : a.eval y = u) (hM : MapF P w b n f) (hn : n < 1000000) (hi : kOk i)
    (h : ∀ w', MapF P w' b (n + 1) (fun j => if j = i then some u else f j) → Upd w w' b → wpList P ops Q rest a w') : wpList P ops Q (o :: rest) a w := by
  refine wpList_plain hgd fun K hK => ?_
  obtain ⟨w', hrun, h1, h2, h3⟩ := hM.update hk ht (by unfold maxLen; omega) hi u
  unfold Oper.wp
  simp [execOp, ho, hm, hx, hy, hrun, Result.andThen]
  exact hK _ _ (by rw [hdn]; exact h w' h1 (upd_of_grown h2 h3))
end
end Go.Proofs.YtmfbfhkhfhphfabGreatDoor
