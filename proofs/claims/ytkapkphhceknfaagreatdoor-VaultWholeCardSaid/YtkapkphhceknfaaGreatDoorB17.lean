/-
  Part of the proof: a map keyed by an int that may be nil, told as a function, and the laws at the operations.
  Part of the proof: the vault's plain state, and its small functions are walked.
-/
import Derived.Test.YtkapkphhceknfaaGreatDoorB16
import Derived.Test.YtkapkphhceknfaaGreatDoorB08
import Derived.Test.YtkapkphhceknfaaGreatDoorB10
import Derived.Test.YtkapkphhceknfaaGreatDoorB12
namespace Go.Proofs.YtkapkphhceknfaaGreatDoor
open Go.RowKit Go.Maps
/-- A map's value tells f (of at most n entries); nil tells nothing. -/
def MapV (P : Program) (w : World) (v : Value) (n : Nat) (f : Int → Option Value) : Prop := (v = .map none ∧ ∀ i, f i = none) ∨ ∃ b, v = .map (some b) ∧ MapF P w b n f
def RngV (P : Program) (w : World) (v : Value) (r n : Nat) (f : Int → Option Value) (left : Int → Bool) (cnt : Nat) : Prop :=
  (v = .map none ∧ (∀ i, f i = none) ∧ (∃ a s c, w.heap[r]? = some (.mapIter none a s c)) ∧ (∀ i, left i = false) ∧ cnt = 0) ∨ ∃ b, v = .map (some b) ∧ RngF P w b r n f left cnt
/-- How many entries are still to come. -/
def rleft (w : World) (r : Nat) : Nat := match w.heap[r]? with
  | some (.mapIter (some b) _ _ _) => w.rangeLeft b r
  | _ => 0
section
variable {P : Program} {w w' : World} {v : Value} {r n cnt : Nat} {f : Int → Option Value} {left : Int → Bool}
theorem MapV.of {b : Nat} (h : MapF P w b n f) : MapV P w (.map (some b)) n f := Or.inr ⟨b, rfl, h⟩
theorem MapV.same (h : MapV P w v n f) (hs : ∀ b, v = .map (some b) → w'.heap[b]? = w.heap[b]?) : MapV P w' v n f := by
  rcases h with h | ⟨b, rfl, h⟩
  · exact Or.inl h
  · exact Or.inr ⟨b, rfl, h.same (hs b rfl)⟩
theorem MapV.lt {b : Nat} (h : MapV P w (.map (some b)) n f) : b < w.heap.size := by
  rcases h with ⟨h, _⟩ | ⟨b', e, h⟩
  · cases h
  · cases e; exact h.lt
theorem MapV.below (h : MapV P w v n f) (hb : Below w.heap.size w w') : MapV P w' v n f := by
  rcases h with h | ⟨b, rfl, h⟩
  · exact Or.inl h
  · exact Or.inr ⟨b, rfl, h.below hb h.lt⟩
theorem RngF.same {b : Nat} (h : RngF P w b r n f left cnt) (h1 : w'.heap[b]? = w.heap[b]?) (h2 : w'.heap[r]? = w.heap[r]?) : RngF P w' b r n f left cnt := by
  obtain ⟨D, L, ⟨es, clock, since, seen, c0, hb, F, hs, hD, hr, rest⟩, h3⟩ := h
  exact ⟨D, L, ⟨es, clock, since, seen, c0, h1.trans hb, F, hs, hD, h2.trans hr, rest⟩, h3⟩
theorem RngV.same (h : RngV P w v r n f left cnt) (hs : ∀ b, v = .map (some b) → w'.heap[b]? = w.heap[b]?) (hr : w'.heap[r]? = w.heap[r]?) : RngV P w' v r n f left cnt := by
  rcases h with ⟨h1, h2, ⟨a, s, c, h3⟩, h4⟩ | ⟨b, rfl, h⟩
  · exact Or.inl ⟨h1, h2, ⟨a, s, c, hr.trans h3⟩, h4⟩
  · exact Or.inr ⟨b, rfl, h.same (hs b rfl) hr⟩
theorem RngV.lt (h : RngV P w v r n f left cnt) : r < w.heap.size := by
  rcases h with ⟨h1, h2, ⟨a, s, c, h3⟩, h4⟩ | ⟨b, rfl, h⟩
  · exact (Array.getElem?_eq_some_iff.1 h3).1
  · exact h.lt
theorem RngV.map (h : RngV P w v r n f left cnt) : MapV P w v n f := by
  rcases h with ⟨h1, h2, _⟩ | ⟨b, rfl, h⟩
  · exact Or.inl ⟨h1, h2⟩
  · exact Or.inr ⟨b, rfl, h.map⟩
theorem RngV.ne {b : Nat} (h : RngV P w v r n f left cnt) (hv : v = .map (some b)) : r ≠ b := by
  rcases h with ⟨h1, _⟩ | ⟨b', e, h⟩
  · rw [h1] at hv; cases hv
  · rw [e] at hv; cases hv; exact h.ne
theorem RngV.below (h : RngV P w v r n f left cnt) (hb : Below w.heap.size w w') : RngV P w' v r n f left cnt := by
  have h1 := h.lt
  refine h.same (fun b hv => hb.block b ?_) (hb.block r h1)
  have := h.map
  rw [hv] at this
  exact this.lt
theorem RngV.left_eq (h : RngV P w v r n f left cnt) : rleft w r = cnt := by
  rcases h with ⟨_, _, ⟨a, s, c, h3⟩, _, rfl⟩ | ⟨b, rfl, h⟩
  · simp [rleft, h3]
  · have e := h.left_eq
    obtain ⟨D, L, ⟨es, clock, since, seen, c0, hb, F, hs, hD, hr, rest⟩, h3⟩ := h
    simp only [rleft, hr]; exact e
theorem upd_of_grown {b : Nat} (hg : w.grownBy w' (some b)) (hz : w'.heap.size = w.heap.size) : Upd w w' b := by
  refine ⟨hg.os, hg.tape, hg.output, hz, fun k hk => ?_⟩
  by_cases h : k < w.heap.size
  · exact hg.block k h (by simpa using hk)
  · rw [Array.getElem?_eq_none (by omega), Array.getElem?_eq_none (by omega)]
theorem below_of_grown (hg : w.grownBy w' none) : Below w.heap.size w w' := ⟨hg.os, hg.tape, hg.output, hg.size, fun k hk => hg.block k hk (by simp)⟩
variable {ops : Array Oper} {Q : Exit → Act → World → Prop} {a : Act} {rest : List Oper} {o : Oper}
theorem wpl_rangeV (hgd : o.guard = none) (t : TypeId) (m : Operand) (ho : o.op = .range t m) (hk : P.underlying 3 = some (.int .i64)) (e : TypeId) (ht : P.underlying t = some (.map 3 e)) (v : Value) (n : Nat) (f : Int → Option Value) (hm : a.eval m = v) (hM : MapV P w v n f)
    (h : ∀ w' cnt, RngV P w' v w.heap.size n f (fun i => (f i).isSome) cnt → cnt ≤ n → Below w.heap.size w w' → w'.heap.size = w.heap.size + 1 → wpList P ops Q rest (a.put o.dst (.pointer (some ⟨w.heap.size, 0, none⟩))) w') : wpList P ops Q (o :: rest) a w := by
  refine wpList_plain hgd fun K hK => ?_
  rcases hM with ⟨rfl, hf⟩ | ⟨b, rfl, hM⟩
  · unfold Oper.wp
    simp [execOp, ho, hm, run_range_nilMap w t 3 e ht, Result.andThen]
    refine hK _ _ (h _ 0 (Or.inl ⟨rfl, hf, ⟨_, _, _, heap_alloc_new w _⟩, fun i => by simp [hf i], rfl⟩) (Nat.zero_le _) ((Below.refl _ _).alloc (Nat.le_refl _) _) (by simp))
  · obtain ⟨w', cnt, hrun, r1, r2, r3, r4⟩ := hM.range hk ht
    unfold Oper.wp
    simp [execOp, ho, hm, hrun, Result.andThen]
    exact hK _ _ (h w' cnt (Or.inr ⟨b, rfl, r1⟩) r2 (below_of_grown r3) r4)
theorem wpl_nextV (hgd : o.guard = none) (it : Operand) (ho : o.op = .next it false) (hk : P.underlying 3 = some (.int .i64)) (v : Value) (r n : Nat) (f : Int → Option Value) (left : Int → Bool) (cnt : Nat) (hit : a.eval it = .pointer (some ⟨r, 0, none⟩)) (hR : RngV P w v r n f left cnt)
    (hDone : (∀ i, kOk i → left i = false) → wpList P ops Q rest (a.put o.dst (.tuple #[.bool false])) w)
    (hMore : ∀ i u w' cnt', kOk i → left i = true → f i = some u → RngV P w' v r n f (fun j => left j && !decide (j = i)) cnt' → cnt' < cnt → Upd w w' r → (Instr.entry (.pointer (some ⟨r, 0, none⟩))).run P w' = .ok (.tuple #[.int .i64 i, u]) w' → wpList P ops Q rest (a.put o.dst (.tuple #[.bool true, .int .i64 i, u])) w') : wpList P ops Q (o :: rest) a w := by
  refine wpList_plain hgd fun K hK => ?_
  unfold Oper.wp
  rcases hR with ⟨h1, h2, ⟨x, s, c, h3⟩, h4, _⟩ | ⟨b, rfl, hR⟩
  · have hrun : (Instr.next (.pointer (some ⟨r, 0, none⟩)) false o.type).run P w = .ok (.tuple #[.bool false]) w := by
      simp only [Instr.next, getObj, Sem.run_bind, Sem.run, h3, Result.andThen]
      rfl
    simp [execOp, ho, hit, hrun, Result.andThen]
    exact hK _ _ (hDone fun i _ => h4 i)
  · rcases hR.next hk o.type with ⟨_, hl, hrun⟩ | ⟨i, u, w', cnt', hi, hl, hf, hrun, hR', hlt, hg, hz, hen⟩
    · simp [execOp, ho, hit, hrun, Result.andThen]
      exact hK _ _ (hDone hl)
    · simp [execOp, ho, hit, hrun, Result.andThen]
      exact hK _ _ (hMore i u w' cnt' hi hl hf (Or.inr ⟨b, rfl, hR'⟩) hlt (upd_of_grown hg hz) hen)
theorem MapV.range {t e : TypeId} (hM : MapV P w v n f) (hk : P.underlying 3 = some (.int .i64)) (ht : P.underlying t = some (.map 3 e)) :
    ∃ w' cnt, (Instr.range t v).run P w = .ok (.pointer (some ⟨w.heap.size, 0, none⟩)) w' ∧ RngV P w' v w.heap.size n f (fun i => (f i).isSome) cnt ∧ cnt ≤ n ∧ Below w.heap.size w w' ∧ w'.heap.size = w.heap.size + 1 := by
  rcases hM with ⟨rfl, hf⟩ | ⟨b, rfl, hM⟩
  · exact ⟨_, 0, run_range_nilMap w t 3 e ht, Or.inl ⟨rfl, hf, ⟨_, _, _, heap_alloc_new w _⟩, fun i => by simp [hf i], rfl⟩, Nat.zero_le _, (Below.refl _ _).alloc (Nat.le_refl _) _, by simp⟩
  · obtain ⟨w', cnt, hrun, r1, r2, r3, r4⟩ := hM.range hk ht
    exact ⟨w', cnt, hrun, Or.inr ⟨b, rfl, r1⟩, r2, below_of_grown r3, r4⟩
theorem RngV.next (hR : RngV P w v r n f left cnt) (hk : P.underlying 3 = some (.int .i64)) (ty : TypeId) :
    ((∀ i, kOk i → left i = false) ∧ (Instr.next (.pointer (some ⟨r, 0, none⟩)) false ty).run P w = .ok (.tuple #[.bool false]) w) ∨
    ∃ i u w' cnt', kOk i ∧ left i = true ∧ f i = some u ∧ (Instr.next (.pointer (some ⟨r, 0, none⟩)) false ty).run P w = .ok (.tuple #[.bool true, .int .i64 i, u]) w' ∧
      RngV P w' v r n f (fun j => left j && !decide (j = i)) cnt' ∧ cnt' < cnt ∧ Upd w w' r ∧ (Instr.entry (.pointer (some ⟨r, 0, none⟩))).run P w' = .ok (.tuple #[.int .i64 i, u]) w' := by
  rcases hR with ⟨h1, h2, ⟨x, s, c, h3⟩, h4, _⟩ | ⟨b, rfl, hR⟩
  · refine Or.inl ⟨fun i _ => h4 i, ?_⟩
    simp only [Instr.next, getObj, Sem.run_bind, Sem.run, h3, Result.andThen]
    rfl
  · rcases hR.next hk ty with ⟨_, hl, hrun⟩ | ⟨i, u, w', cnt', hi, hl, hf, hrun, hR', hlt, hg, hz, hen⟩
    · exact Or.inl ⟨hl, hrun⟩
    · exact Or.inr ⟨i, u, w', cnt', hi, hl, hf, hrun, Or.inr ⟨b, rfl, hR'⟩, hlt, upd_of_grown hg hz, hen⟩
theorem run_lookV (hk : P.underlying 3 = some (.int .i64)) {t e : TypeId} (ht : P.underlying t = some (.map 3 e)) (z : Value) (hz : ∀ w, (zeroValue e).run P w = .ok z w) (hM : MapV P w v n f) {i : Int} (hi : kOk i) : (Instr.lookup t v (.int .i64 i) false).run P w = .ok ((f i).getD z) w := by
  rcases hM with ⟨rfl, hf⟩ | ⟨b, rfl, hM⟩
  · rw [hf i]
    exact Maps.look_nil false (int_keyed (P := P) hk) ht (hz w) (keyOf_int_mk hk hi)
  · exact hM.look hk ht (hz w) hi
theorem run_lookVok (hk : P.underlying 3 = some (.int .i64)) {t e : TypeId} (ht : P.underlying t = some (.map 3 e)) (z : Value) (hz : ∀ w, (zeroValue e).run P w = .ok z w) (hM : MapV P w v n f) {i : Int} (hi : kOk i) : (Instr.lookup t v (.int .i64 i) true).run P w = .ok (.tuple #[(f i).getD z, .bool (f i).isSome]) w := by
  rcases hM with ⟨rfl, hf⟩ | ⟨b, rfl, hM⟩
  · rw [hf i]
    exact Maps.look_nil true (int_keyed (P := P) hk) ht (hz w) (keyOf_int_mk hk hi)
  · exact hM.look_ok hk ht (hz w) hi
theorem wpl_lookV (hgd : o.guard = none) (t : TypeId) (m x : Operand) (ho : o.op = .lookup t m x false) (hk : P.underlying 3 = some (.int .i64)) (e : TypeId) (ht : P.underlying t = some (.map 3 e)) (z : Value) (hz : ∀ w, (zeroValue e).run P w = .ok z w) (v : Value) (n : Nat) (f : Int → Option Value) (i : Int) (hm : a.eval m = v) (hx : a.eval x = .int .i64 i) (hM : MapV P w v n f) (hi : kOk i)
    (h : wpList P ops Q rest (a.put o.dst ((f i).getD z)) w) : wpList P ops Q (o :: rest) a w := by
  refine wpList_plain hgd fun K hK => ?_
  unfold Oper.wp
  simp [execOp, ho, hm, hx, run_lookV hk ht z hz hM hi, Result.andThen]
  exact hK _ _ h
theorem wpl_lookVok (hgd : o.guard = none) (t : TypeId) (m x : Operand) (ho : o.op = .lookup t m x true) (hk : P.underlying 3 = some (.int .i64)) (e : TypeId) (ht : P.underlying t = some (.map 3 e)) (z : Value) (hz : ∀ w, (zeroValue e).run P w = .ok z w) (v : Value) (n : Nat) (f : Int → Option Value) (i : Int) (hm : a.eval m = v) (hx : a.eval x = .int .i64 i) (hM : MapV P w v n f) (hi : kOk i)
    (h : wpList P ops Q rest (a.put o.dst (.tuple #[(f i).getD z, .bool (f i).isSome])) w) : wpList P ops Q (o :: rest) a w := by
  refine wpList_plain hgd fun K hK => ?_
  unfold Oper.wp
  simp [execOp, ho, hm, hx, run_lookVok hk ht z hz hM hi, Result.andThen]
  exact hK _ _ h
theorem wpl_lenV (hgd : o.guard = none) (m : Operand) (t : TypeId) (ho : o.op = .call { callee := .builtin .len, args := #[m], argTypes := #[t] }) (e : TypeId) (ht : P.underlying t = some (.map 3 e)) (v : Value) (n : Nat) (f : Int → Option Value) (hm : a.eval m = v) (hM : MapV P w v n f)
    (h : ∀ k : Nat, k ≤ n → wpList P ops Q rest (a.put o.dst (.int .i64 (k : Int))) w) : wpList P ops Q (o :: rest) a w := by
  refine wpList_plain hgd fun K hK => ?_
  unfold Oper.wp
  rcases hM with ⟨rfl, hf⟩ | ⟨b, rfl, hM⟩
  · simp [execOp, ho, resolve, invoke, builtin, hm, Maps.len_nil ht o.type, Result.andThen]
    exact hK _ _ (h 0 (Nat.zero_le _))
  · obtain ⟨k, hkn, hrun⟩ := hM.len ht o.type
    simp [execOp, ho, resolve, invoke, builtin, hm, hrun, Result.andThen]
    exact hK _ _ (h k hkn)
theorem wpl_putF (hgd : o.guard = none) (hdn : o.dst = none) (t : TypeId) (m x y : Operand) (ho : o.op = .mapUpdate t m x y) (hk : P.underlying 3 = some (.int .i64)) (e : TypeId) (ht : P.underlying t = some (.map 3 e)) (b n : Nat) (f : Int → Option Value) (i : Int) (u : Value) (hm : a.eval m = .map (some b)) (hx : a.eval x = .int .i64 i) (hy : a.eval y = u) (hM : MapF P w b n f) (hn : n < 1000000) (hi : kOk i)
    (h : ∀ w', MapF P w' b (n + 1) (fun j => if j = i then some u else f j) → Upd w w' b → wpList P ops Q rest a w') : wpList P ops Q (o :: rest) a w := by
  refine wpList_plain hgd fun K hK => ?_
  obtain ⟨w', hrun, h1, h2, h3⟩ := hM.update hk ht (by unfold maxLen; omega) hi u
  unfold Oper.wp
  simp [execOp, ho, hm, hx, hy, hrun, Result.andThen]
  exact hK _ _ (by rw [hdn]; exact h w' h1 (upd_of_grown h2 h3))
end
end Go.Proofs.YtkapkphhceknfaaGreatDoor
namespace Go.Proofs.YtkapkphhceknfaaGreatDoor.Vt
open Go.RowKit
/-- A page's text, and the Count at which it was told. -/
def ent (x : Int × ByteArray) : Value := .agg #[.int .i64 x.1, .string x.2]
def ent0 : Int × ByteArray := (0, ⟨#[]⟩)
/-- Pages as a map's entries, and as they read. -/
def pv (p : Int → Option (Int × ByteArray)) (i : Int) : Option Value := (p i).map ent
def rd (p : Int → Option (Int × ByteArray)) (i : Int) : Int × ByteArray := (p i).getD ent0
theorem pv_get (p : Int → Option (Int × ByteArray)) (i : Int) : (pv p i).getD (ent ent0) = ent (rd p i) := by
  unfold pv rd; cases p i <;> rfl
theorem pv_some (p : Int → Option (Int × ByteArray)) (i : Int) : (pv p i).isSome = (p i).isSome := by unfold pv; cases p i <;> rfl
def sv (g : Int → Option ByteArray) (i : Int) : Option Value := (g i).map Value.string
theorem sv_get (g : Int → Option ByteArray) (i : Int) : (sv g i).getD (.string ⟨#[]⟩) = .string ((g i).getD ⟨#[]⟩) := by
  unfold sv; cases g i <;> rfl
theorem kOk_small {i : Int} (h0 : 0 ≤ i) (h1 : i < 32) : kOk i := by
  have h1 : IntKind.min .i64 = -9223372036854775808 := by decide
  have h2 : IntKind.max .i64 = 9223372036854775807 := by decide
  show (decide (IntKind.min .i64 ≤ i) && decide (i ≤ IntKind.max .i64)) = true
  rw [h1, h2, decide_eq_true (by omega), decide_eq_true (by omega)]; rfl
theorem und3 : Tryz.prog.underlying 3 = some (.int .i64) := Tryz.underlying3
theorem undE : Tryz.prog.underlying 67 = some (.map 3 69) := Tryz.underlying67
theorem undS : Tryz.prog.underlying 38 = some (.map 3 9) := Tryz.underlying38
theorem zeroE : ∀ w, (zeroValue 69).run Tryz.prog w = .ok (ent ent0) w := Tryz.zeroValue69
theorem zeroS : ∀ w, (zeroValue 9).run Tryz.prog w = .ok (.string ⟨#[]⟩) w := Tryz.zeroValue9
theorem szE : (Tryz.prog.info? 69).map (·.size) = some 2 := by kernel_rfl
theorem szSt : (Tryz.prog.info? 74).map (·.size) = some 36 := by kernel_rfl
theorem szVa : (Tryz.prog.info? 76).map (·.size) = some 40 := by kernel_rfl
/-- A state's cells: what tells of all, and the map. -/
def stA (c e : Int) (f : Nat → Bool) (r : ByteArray) (m : Value) : Array Value := Su.supA c e f r ++ #[m]
section
variable (c e : Int) (f : Nat → Bool) (r : ByteArray) (m : Value)
theorem stA_size : (stA c e f r m).size = 36 := by simp [stA, Su.supA_size]
theorem stA_lo (j : Nat) (h : j < 35) : (stA c e f r m)[j]? = (Su.supA c e f r)[j]? := by
  unfold stA; rw [Array.getElem?_append_left (by rw [Su.supA_size]; exact h)]
theorem stA_0 : (stA c e f r m)[0]? = some (.int .i64 c) := by rw [stA_lo _ _ _ _ _ _ (by decide), Su.supA_0]
theorem stA_1 : (stA c e f r m)[1]? = some (.int .i64 e) := by rw [stA_lo _ _ _ _ _ _ (by decide), Su.supA_1]
theorem stA_34 : (stA c e f r m)[34]? = some (.string r) := by rw [stA_lo _ _ _ _ _ _ (by decide), Su.supA_34]
theorem stA_side (j : Nat) (h : j < 32) : (stA c e f r m)[2 + j]? = some (.bool (f j)) := by rw [stA_lo _ _ _ _ _ _ (by omega), Su.supA_side _ _ _ _ _ h]
theorem stA_35 : (stA c e f r m)[35]? = some m := by
  unfold stA; rw [Array.getElem?_append_right (by rw [Su.supA_size]; decide), Su.supA_size]; rfl
theorem stA_sup (n : Nat) (h : 0 + 35 = n) : (stA c e f r m).extract 0 n = Su.supA c e f r := by
  subst h
  apply Array.ext_getElem?; intro j
  by_cases hj : j < 35
  · rw [Array.getElem?_extract, if_pos (by rw [stA_size]; omega), Nat.zero_add, stA_lo _ _ _ _ _ _ hj]
  · rw [Array.getElem?_eq_none (by rw [Array.size_extract, stA_size]; omega), Array.getElem?_eq_none (by rw [Su.supA_size]; omega)]
theorem stA_one (hm : m.oneCell' = true) : ∀ v ∈ (stA c e f r m).toList, v.oneCell' = true := by
  intro v hv
  simp only [stA, Array.toList_append, List.mem_append] at hv
  rcases hv with hv | hv
  · exact Su.supA_one _ _ _ _ v hv
  · simp at hv; subst hv; exact hm
theorem stA_put (k : Nat) (hk : k < 32) (v : Bool) : (stA c e f r m).setIfInBounds (2 + k) (.bool v) = stA c e (Su.putF f k v) r m := by
  unfold stA; rw [Array.setIfInBounds_append_left (by rw [Su.supA_size]; omega), Su.supA_put _ _ _ _ _ hk]
theorem stA_set0 (x : Int) : (stA c e f r m).setIfInBounds 0 (.int .i64 x) = stA x e f r m := by
  unfold stA Su.supA; rw [Array.setIfInBounds_append_left (by simp [Su.bl_size]), Array.setIfInBounds_append_left (by simp [Su.bl_size]), Array.setIfInBounds_append_left (by simp)]; rfl
theorem stA_set1 (x : Int) : (stA c e f r m).setIfInBounds 1 (.int .i64 x) = stA c x f r m := by
  unfold stA Su.supA; rw [Array.setIfInBounds_append_left (by simp [Su.bl_size]), Array.setIfInBounds_append_left (by simp [Su.bl_size]), Array.setIfInBounds_append_left (by simp)]; rfl
theorem stA_set34 (x : ByteArray) : (stA c e f r m).setIfInBounds 34 (.string x) = stA c e f x m := by
  unfold stA Su.supA; rw [Array.setIfInBounds_append_left (by simp [Su.bl_size]), Array.setIfInBounds_append_right (by simp [Su.bl_size])]; simp [Su.bl_size]
end
/-- A vault's cells. -/
def vaA (d c : Nat) (sec : ByteArray) (st : Array Value) (stuck : Bool) : Array Value := #[.pointer (some ⟨d, 0, none⟩), .pointer (some ⟨c, 0, none⟩), .string sec] ++ st ++ #[.bool stuck]
section
variable (d c : Nat) (sec : ByteArray) (st : Array Value) (stuck : Bool)
theorem vaA_size (hs : st.size = 36) : (vaA d c sec st stuck).size = 40 := by simp [vaA, hs]
theorem vaA_0 : (vaA d c sec st stuck)[0]? = some (.pointer (some ⟨d, 0, none⟩)) := by
  unfold vaA; rw [Array.getElem?_append_left (by simp; omega), Array.getElem?_append_left (by simp)]; rfl
theorem vaA_1 : (vaA d c sec st stuck)[1]? = some (.pointer (some ⟨c, 0, none⟩)) := by
  unfold vaA; rw [Array.getElem?_append_left (by simp; omega), Array.getElem?_append_left (by simp)]; rfl
theorem vaA_2 : (vaA d c sec st stuck)[2]? = some (.string sec) := by
  unfold vaA; rw [Array.getElem?_append_left (by simp; omega), Array.getElem?_append_left (by simp)]; rfl
theorem vaA_st (hs : st.size = 36) (j : Nat) (h : j < 36) : (vaA d c sec st stuck)[3 + j]? = st[j]? := by
  unfold vaA
  rw [Array.getElem?_append_left (by simp [hs]; omega), Array.getElem?_append_right (by simp)]
  simp
theorem vaA_39 (hs : st.size = 36) : (vaA d c sec st stuck)[39]? = some (.bool stuck) := by
  unfold vaA; rw [Array.getElem?_append_right (by simp [hs])]; simp [hs]
theorem vaA_now (hs : st.size = 36) : (vaA d c sec st stuck).extract 3 (3 + 36) = st := by
  apply Array.ext_getElem?; intro j
  by_cases hj : j < 36
  · rw [Array.getElem?_extract, if_pos (by rw [vaA_size _ _ _ _ _ hs]; omega), vaA_st _ _ _ _ _ hs _ hj]
  · rw [Array.getElem?_eq_none (by rw [Array.size_extract, vaA_size _ _ _ _ _ hs]; omega), Array.getElem?_eq_none (by omega)]
theorem vaA_stick (hs : st.size = 36) (x : Bool) : (vaA d c sec st stuck).setIfInBounds 39 (.bool x) = vaA d c sec st x := by
  unfold vaA; rw [Array.setIfInBounds_append_right (by simp [hs])]; simp [hs]
end
theorem isPage_any (id : Int) (w : World) : Calls Tryz.prog 35 #[.int .i64 id] w fun e w' => e = .returned (.bool (decide (0 ≤ id ∧ id < 32))) ∧ w' = w := by
  by_cases h : 0 ≤ id
  · go_enter Tryz.func35, Tryz.ntmps35
    go_wp2
    go_ret
    refine ⟨?_, rfl⟩
    simp [h]
  · have d : decide ((0 : Int) ≤ id) = false := decide_eq_false h
    go_enter Tryz.func35, Tryz.ntmps35
    go_wp2
    go_ret
    refine ⟨?_, rfl⟩
    simp
theorem superPlace_any (n : Nat) (w : World) (hn : n < 9007199254740992) : Calls Tryz.prog 41 #[.int .i64 (n : Int)] w fun e w' => e = .returned (.int .i64 ((n % 2 : Nat) : Int)) ∧ w' = w := by
  have e1 : (n : Int).tmod 2 = ((n % 2 : Nat) : Int) := by rw [Int.tmod_eq_emod_of_nonneg (by omega)]; omega
  go_enter Tryz.func41, Tryz.ntmps41
  go_wp2
  go_ret
  exact ⟨rfl, rfl⟩
theorem parts1 {w : World} {b : Nat} {T : TypeId} {x : ByteArray} (h : Blk w b #[.string x] T) : Sm.Parts w (some ⟨b, 0, none⟩) 1 [x] := by
  refine ⟨rfl, fun j hj => ?_⟩
  have hc := h.cell j
  match j, hj with
  | 0, _ => exact ⟨b, 0, x, rfl, h.lt, hc, rfl⟩
theorem mark1 {k : Int} (hk : k = 115) {b : Nat} {T : TypeId} {x : ByteArray} {w : World} (h : Blk w b #[.string x] T) (hx : x.size ≤ 300) (hK : Sm.KB w) :
    Calls Tryz.prog 56 #[.int .u8 k, .slice (some ⟨b, 0, none⟩) 1 1] w fun e w' => e = .returned (.string (Pg.mk 115 [x])) ∧ Below w.heap.size w w' := by
  subst hk; exact Sm.mark_any 115 _ 1 1 _ w (parts1 h) (by decide) (fun p hp => by simp at hp; subst hp; exact hx) hK
theorem mark2k {k : Int} (hk : k = 107) {b : Nat} {T : TypeId} {x y : ByteArray} {w : World} (h : Blk w b #[.string x, .string y] T) (hx : x.size ≤ 300) (hy : y.size ≤ 300) (hK : Sm.KB w) :
    Calls Tryz.prog 56 #[.int .u8 k, .slice (some ⟨b, 0, none⟩) 2 2] w fun e w' => e = .returned (.string (Pg.mk 107 [x, y])) ∧ Below w.heap.size w w' := by
  subst hk; exact Sm.mark_any 107 _ 2 2 _ w (Su.parts2 h) (by decide) (Su.all2 hx hy) hK
/-- The keys. -/
def supK (sec : ByteArray) : ByteArray := Sm.sumS (Pg.mk 115 [sec])
def epoK (sec : ByteArray) (n : Int) : ByteArray := Sm.sumS (Pg.mk 107 [sec, Pg.numS n])
theorem supK_size (sec : ByteArray) : (supK sec).size = 32 := Pg.sumS_size _
theorem epoK_size (sec : ByteArray) (n : Int) : (epoK sec n).size = 32 := Pg.sumS_size _
set_option maxRecDepth 100000 in
set_option maxHeartbeats 400000 in
theorem superKey_any (sec : ByteArray) (w : World) (hs : sec.size ≤ 300) (hK : Sm.KB w) : Calls Tryz.prog 39 #[.string sec] w fun e w' => e = .returned (.string (supK sec)) ∧ Below w.heap.size w w' := by
  have zm := Pg.mk_size 115 [sec]
  go_enter Tryz.func39, Tryz.ntmps39
  go_wp2_with fail
  have g := Pg.below_alloc w (.cells #[.string sec] 9)
  refine (mark1 rfl (Blk.new w _ 9) hs (hK.below g)).mono ?_
  rintro e w2 ⟨rfl, g2⟩
  have b2 := g.trans (g2.mono g.size)
  go_wp2_with fail
  refine (Sm.sum_any _ _ (by omega) (hK.below b2)).mono ?_
  rintro e w3 ⟨rfl, g3⟩
  go_wp2
  go_ret
  exact ⟨rfl, b2.trans (g3.mono b2.size)⟩
set_option maxRecDepth 100000 in
set_option maxHeartbeats 400000 in
theorem epochKey_any (sec : ByteArray) (n : Int) (w : World) (hs : sec.size ≤ 300) (hK : Sm.KB w) : Calls Tryz.prog 50 #[.string sec, .int .i64 n] w fun e w' => e = .returned (.string (epoK sec n)) ∧ Below w.heap.size w w' := by
  have zm := Pg.mk_size 107 [sec, Pg.numS n]
  have zn := Pg.numS_size n
  go_enter Tryz.func50, Tryz.ntmps50
  go_wp2_with fail
  refine (Pg.num_s n _).mono ?_
  rintro e w1 ⟨rfl, g1⟩
  go_wp2_with fail
  have g := Pg.below_alloc w1 (.cells #[.string sec, .string (Pg.numS n)] 9)
  have b1 := g1.trans (g.mono g1.size)
  refine (mark2k rfl (Blk.new w1 _ 9) hs (by omega) (hK.below b1)).mono ?_
  rintro e w2 ⟨rfl, g2⟩
  have b2 := b1.trans (g2.mono b1.size)
  go_wp2_with fail
  refine (Sm.sum_any _ _ (by omega) (hK.below b2)).mono ?_
  rintro e w3 ⟨rfl, g3⟩
  go_wp2
  go_ret
  exact ⟨rfl, b2.trans (g3.mono b2.size)⟩
/-- The block in which a page stands. -/
def plc (f : Nat → Bool) (id : Nat) : Nat := 2 + 2 * id + if f id then 1 else 0
theorem plc_lt (f : Nat → Bool) (id : Nat) (h : id < 32) : plc f id < 66 := by unfold plc; split <;> omega
theorem plc_ge (f : Nat → Bool) (id : Nat) : 2 ≤ plc f id := by unfold plc; omega
set_option maxRecDepth 100000 in
set_option maxHeartbeats 400000 in
theorem place_any (c e : Int) (f : Nat → Bool) (r : ByteArray) (m : Value) (id : Nat) (w : World) (h : id < 32) :
    Calls Tryz.prog 52 #[.agg (stA c e f r m), .int .i64 (id : Int)] w fun e' w' => e' = .returned (.int .i64 (plc f id : Int)) ∧ Below w.heap.size w w' := by
  have hs := stA_size c e f r m
  have hc := stA_side c e f r m id h
  obtain ⟨V, hV⟩ : ∃ V, Hid (stA c e f r m = V) := ⟨_, rfl⟩
  rw [hV.out] at hs hc
  rw [hV.out]
  have j0 := Blk.new w V 74
  have c0 : (w.alloc (.cells V 74)).cell? ⟨w.heap.size, 2 + id, none⟩ = some (.bool (f id)) := by rw [j0.cell, hc]
  have g0 := Pg.below_alloc w (.cells V 74)
  have h' : (id : Int) < 32 := by omega
  cases hf : f id with
  | false =>
    have ep : ((plc f id : Nat) : Int) = 2 + 2 * (id : Int) := by unfold plc; rw [hf]; simp
    rw [hf] at c0
    rw [ep]
    go_enter Tryz.func52, Tryz.ntmps52
    go_wp2
    go_ret
    exact ⟨rfl, g0⟩
  | true =>
    have ep : ((plc f id : Nat) : Int) = 2 + 2 * (id : Int) + 1 := by unfold plc; rw [hf]; simp
    rw [hf] at c0
    rw [ep]
    go_enter Tryz.func52, Tryz.ntmps52
    go_wp2
    go_ret
    exact ⟨rfl, g0⟩
end Go.Proofs.YtkapkphhceknfaaGreatDoor.Vt
