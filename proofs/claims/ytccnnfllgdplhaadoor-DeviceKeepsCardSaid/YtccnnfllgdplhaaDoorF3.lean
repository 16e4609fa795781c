/-
  Part of the proof: what DeviceSure has in memory, and what its lists tell.
-/
import Derived.Test.YtccnnfllgdplhaaDoorF2
import Derived.Test.YtccnnfllgdplhaaDoorE3
namespace Go.Proofs.YtccnnfllgdplhaaDoor
open Go.RowKit
/-- All that DeviceSure has in memory. -/
structure Sv (w0 w : World) (O P : Nat → Prop) (b Bm : Nat) (vs : Nat → Value) (M : Nat → List ByteArray) (S : Nat → Nat → UInt8) (W : List (Nat × (Nat → UInt8))) (F : Int) (v : Value) (lf : Int) : Prop where
  dev : Dev w O b S W F v lf
  may : May w P Bm vs M
  low : Below w0.heap.size w0 w
  bo : Bd w0.heap.size O w
  bp : Bd w0.heap.size P w
  dis : ∀ k, O k → ¬ P k
section
variable {w0 w w' : World} {O P : Nat → Prop} {b Bm : Nat} {vs vs' : Nat → Value} {M M' : Nat → List ByteArray} {S S' : Nat → Nat → UInt8} {W W' : List (Nat × (Nat → UInt8))} {F F' : Int} {v v' : Value} {lf lf' : Int}
theorem Sv.grow (h : Sv w0 w O P b Bm vs M S W F v lf) (hc : Chg w w' O) (hD : Dev w' (gro O w w') b S' W' F' v' lf') : Sv w0 w' (gro O w w') P b Bm vs M S' W' F' v' lf' :=
  ⟨hD, h.may.chg hc (fun k hp ho => h.dis k ho hp), hc.low h.low h.low.size h.bo, h.bo.gro h.low.size hc.size, h.bp.mono hc.size, fun k hk hp => hk.elim (fun ho => h.dis k ho hp) (fun hn => by have := (h.bp k hp).2; omega)⟩
theorem Sv.same (h : Sv w0 w O P b Bm vs M S W F v lf) (hc : Chg w w' O) (hD : Dev w' O b S' W' F' v' lf') : Sv w0 w' O P b Bm vs M S' W' F' v' lf' :=
  ⟨hD, h.may.chg hc (fun k hp ho => h.dis k ho hp), hc.low h.low h.low.size h.bo, h.bo.mono hc.size, h.bp.mono hc.size, h.dis⟩
theorem Sv.below (h : Sv w0 w O P b Bm vs M S W F v lf) (hb : Below w.heap.size w w') : Sv w0 w' O P b Bm vs M S W F v lf := h.same (Chg.of hb O) (h.dev.below hb)
theorem Sv.tell (h : Sv w0 w O P b Bm vs M S W F v lf) (hc : Chg w w' P) (hM : May w' (gro P w w') Bm vs' M') : Sv w0 w' O (gro P w w') b Bm vs' M' S W F v lf :=
  ⟨h.dev.chg hc (fun k ho hp => h.dis k ho hp), hM, hc.low h.low h.low.size h.bp, h.bo.mono hc.size, h.bp.gro h.low.size hc.size, fun k ho hk => hk.elim (fun hp => h.dis k ho hp) (fun hn => by have := (h.bo k ho).2; omega)⟩
theorem Sv.drewN (h : Sv w0 w O P b Bm vs M S W F v lf) (n : Nat) : Sv w0 (w.drewN n) O P b Bm vs M S W F v lf := ⟨h.dev.drewN n, h.may.drewN n, below_drewN h.low n, h.bo, h.bp, h.dis⟩
end
/-- Ahead of the Sync: a list is what was written last, or there is none. -/
def R1 (M : Nat → List ByteArray) (S : Nat → Nat → UInt8) (W : List (Nat × (Nat → UInt8))) : Prop := ∀ k, k < 66 → (M k = [] ∧ readF S W k = fun _ => 0) ∨ M k = [sb 256 (readF S W k)]
/-- Behind it: all that a block may be. -/
def R2 (M : Nat → List ByteArray) (S : Nat → Nat → UInt8) (W : List (Nat × (Nat → UInt8))) (n : Nat) : Prop :=
  ∀ k, k < 66 → (M k).length ≤ n ∧ ((M k = [] ∧ S k = (fun _ => 0) ∧ ∀ p ∈ W, p.1 ≠ k) ∨ (sb 256 (S k) ∈ M k ∧ ∀ p ∈ W, p.1 = k → sb 256 p.2 ∈ M k))
theorem R1.put {M : Nat → List ByteArray} {S : Nat → Nat → UInt8} {W : List (Nat × (Nat → UInt8))} (h : R1 M S W) (j : Nat) (g : Nat → UInt8) : R1 (upd M j [sb 256 g]) S (W ++ [(j, g)]) := by
  intro k hk
  rw [readF_snoc]
  by_cases e : k = j
  · subst e; right; rw [upd_same, if_pos rfl]
  · rw [upd_ne _ _ _ _ e, if_neg (fun h => e h.symm)]; exact h k hk
theorem loseS_all (S : Nat → Nat → UInt8) (W : List (Nat × (Nat → UInt8))) : ∀ i k, i ≤ W.length → loseS S W (fun _ => true) i k = readF S (W.take i) k := by
  intro i
  induction i with
  | zero => intro k _; simp [loseS, readF]
  | succ i ih =>
    intro k hi
    have hp : W[i]? = some W[i] := List.getElem?_eq_getElem (by omega)
    rw [loseS_yes hp rfl, List.take_add_one, hp]
    simp only [Option.toList_some]
    rw [readF_snoc]
    unfold putS
    by_cases e : k = W[i].1
    · rw [if_pos e, if_pos e.symm]
    · rw [if_neg e, if_neg (fun h => e h.symm)]; exact ih k (by omega)
theorem R1.sync {M : Nat → List ByteArray} {S : Nat → Nat → UInt8} {W : List (Nat × (Nat → UInt8))} (h : R1 M S W) : R2 M (loseS S W (fun _ => true) W.length) [] 1 := by
  intro k hk
  have e := loseS_all S W W.length k (Nat.le_refl _)
  rw [List.take_length] at e
  rcases h k hk with ⟨h1, h2⟩ | h1
  · exact ⟨by rw [h1]; simp, Or.inl ⟨h1, by rw [e, h2], fun p hp => by cases hp⟩⟩
  · exact ⟨by rw [h1]; simp, Or.inr ⟨by rw [h1, e]; simp, fun p hp => by cases hp⟩⟩
theorem R2.put {M : Nat → List ByteArray} {S : Nat → Nat → UInt8} {W : List (Nat × (Nat → UInt8))} {n : Nat} (h : R2 M S W n) (j : Nat) (hj : j < 66) (g : Nat → UInt8) (L : List ByteArray) (hL : (M j = [] ∧ L = [sb 256 (bAt ByteArray.empty)]) ∨ (M j ≠ [] ∧ L = M j)) : R2 (upd M j (L ++ [sb 256 g])) S (W ++ [(j, g)]) (n + 2) := by
  intro k hk
  by_cases e : k = j
  · subst e
    rw [upd_same]
    obtain ⟨hn, hh⟩ := h k hk
    rcases hL with ⟨h1, rfl⟩ | ⟨h1, rfl⟩
    · refine ⟨by simp, Or.inr ?_⟩
      rcases hh with ⟨_, h2, h3⟩ | ⟨h2, _⟩
      · refine ⟨by rw [h2, bAt_empty]; simp, fun p hp hpk => ?_⟩
        rcases List.mem_append.1 hp with h4 | h4
        · exact absurd hpk (h3 p h4)
        · simp at h4; subst h4; simp
      · rw [h1] at h2; cases h2
    · refine ⟨by simp; omega, Or.inr ?_⟩
      rcases hh with ⟨h2, _⟩ | ⟨h2, h3⟩
      · exact absurd h2 h1
      · refine ⟨by simp [h2], fun p hp hpk => ?_⟩
        rcases List.mem_append.1 hp with h4 | h4
        · simp [h3 p h4 hpk]
        · simp at h4; subst h4; simp
  · rw [upd_ne _ _ _ _ e]
    obtain ⟨hn, hh⟩ := h k hk
    refine ⟨by omega, hh.imp (fun ⟨a, b, c⟩ => ⟨a, b, fun p hp => ?_⟩) (fun ⟨a, b⟩ => ⟨a, fun p hp hpk => ?_⟩)⟩
    · rcases List.mem_append.1 hp with h4 | h4
      · exact c p h4
      · simp at h4; subst h4; exact fun h => e h.symm
    · rcases List.mem_append.1 hp with h4 | h4
      · exact b p h4 hpk
      · simp at h4; subst h4; exact absurd hpk.symm e
theorem loseS_mem (S : Nat → Nat → UInt8) (W : List (Nat × (Nat → UInt8))) (kp : Nat → Bool) (k : Nat) : ∀ i, loseS S W kp i k = S k ∨ ∃ p ∈ W, p.1 = k ∧ loseS S W kp i k = p.2 := by
  intro i
  induction i with
  | zero => exact Or.inl rfl
  | succ i ih =>
    cases hp : W[i]? with
    | none => simp only [loseS, hp]; exact ih
    | some p =>
      cases hk : kp i with
      | false => rw [loseS_no hk]; exact ih
      | true =>
        rw [loseS_yes hp hk]
        unfold putS
        by_cases e : k = p.1
        · right; exact ⟨p, List.mem_of_getElem? hp, e.symm, by rw [if_pos e]⟩
        · rw [if_neg e]; exact ih
/-- What a block may be, it is. -/
theorem R2.read {M : Nat → List ByteArray} {S : Nat → Nat → UInt8} {W : List (Nat × (Nat → UInt8))} {n : Nat} (h : R2 M S W n) (kp : Nat → Bool) (i k : Nat) (hk : k < 66) : (M k = [] ∧ sb 256 (loseS S W kp i k) = sb 256 (bAt ByteArray.empty)) ∨ sb 256 (loseS S W kp i k) ∈ M k := by
  obtain ⟨_, hh⟩ := h k hk
  rcases hh with ⟨h1, h2, h3⟩ | ⟨h1, h2⟩
  · left
    rcases loseS_mem S W kp k i with h4 | ⟨p, hp, hpk, _⟩
    · exact ⟨h1, by rw [h4, h2, bAt_empty]⟩
    · exact absurd hpk (h3 p hp)
  · right
    rcases loseS_mem S W kp k i with h4 | ⟨p, hp, hpk, h4⟩
    · rw [h4]; exact h1
    · rw [h4]; exact h2 p hp hpk
section
variable {w0 w : World} {O P : Nat → Prop} {b Bm : Nat} {vs : Nat → Value} {M : Nat → List ByteArray} {S : Nat → Nat → UInt8} {W : List (Nat × (Nat → UInt8))} {F : Int} {v : Value} {lf : Int}
/-- A list of one text is laid in a place. -/
theorem Sv.put1 (h : Sv w0 w O P b Bm vs M S W F v lf) (j : Nat) (hj : j < 66) (X : ByteArray) :
    Sv w0 ((w.alloc (.cells #[.string X] 9)).setCell ⟨Bm, j, none⟩ (.slice (some ⟨w.heap.size, 0, none⟩) 1 1)) O (gro P w ((w.alloc (.cells #[.string X] 9)).setCell ⟨Bm, j, none⟩ (.slice (some ⟨w.heap.size, 0, none⟩) 1 1))) b Bm (upd vs j (.slice (some ⟨w.heap.size, 0, none⟩) 1 1)) (upd M j [X]) S W F v lf := by
  have lB := h.may.blk.lt
  have hz : ((w.alloc (.cells #[.string X] 9)).setCell ⟨Bm, j, none⟩ (.slice (some ⟨w.heap.size, 0, none⟩) 1 1)).heap.size = w.heap.size + 1 := by simp [World.setCell]
  refine h.tell (((Chg.refl w P).alloc _).setCell (Or.inl h.may.own) _) ?_
  refine h.may.put j hj w.heap.size 1 [X] ?_ ⟨rfl, Or.inr ⟨w.heap.size, 1, #[.string X], rfl, Nat.zero_le _, ?_, by simp, by unfold maxLen; simp, rfl, rfl⟩⟩ ?_ (fun q hq => Or.inl hq) (Or.inr ⟨Nat.le_refl _, by rw [hz]; omega⟩) (by omega) ?_
  · have := (h.may.blk.alloc (.cells #[.string X] 9)).set j (.slice (some ⟨w.heap.size, 0, none⟩) 1 1)
    rw [vA_set] at this; exact this
  · rw [Below.heap_setCell _ _ _ _ (by simp; omega)]; exact heap_alloc_new w _
  · intro i hi _ q hq
    have hl := (ownsRow_lt (h.may.rows i hi) q hq).2
    rw [Below.heap_setCell _ _ _ _ (h.may.rown i hi q hq).2, Below.heap_alloc _ _ _ hl]
  · intro i hi _ e
    have := (ownsRow_lt (h.may.rows i hi) _ e).2; omega
/-- A text is appended to a list. -/
theorem Sv.app (h : Sv w0 w O P b Bm vs M S W F v lf) (j : Nat) (hj : j < 66) (X : ByteArray) (w5 w6 : World) (h5 : Below w.heap.size w w5) (g cap : Nat) (hown : w6.ownsRow 0 9 1 (.slice (some ⟨g, 0, none⟩) ((M j).length + 1) cap) ((M j).length + 1) ((M j).map Value.string ++ [.string X]))
    (hg : w5.grownBy w6 (vs j).ownBlock) (hat : (vs j).ownBlock = some g ∨ g = w5.heap.size) (hlt : g < w6.heap.size) :
    Sv w0 (w6.setCell ⟨Bm, j, none⟩ (.slice (some ⟨g, 0, none⟩) ((M j).length + 1) cap)) O (gro P w (w6.setCell ⟨Bm, j, none⟩ (.slice (some ⟨g, 0, none⟩) ((M j).length + 1) cap))) b Bm (upd vs j (.slice (some ⟨g, 0, none⟩) ((M j).length + 1) cap)) (upd M j (M j ++ [X])) S W F v lf := by
  have lB := h.may.blk.lt
  have z5 := h5.size
  have z6 := hg.size
  have hz : (w6.setCell ⟨Bm, j, none⟩ (.slice (some ⟨g, 0, none⟩) ((M j).length + 1) cap)).heap.size = w6.heap.size := by simp [World.setCell]
  have gB : g ≠ Bm := by
    rcases hat with e | e
    · exact (h.may.rown j hj g e).2
    · omega
  refine h.tell (((Chg.of h5 P).grown hg (fun q hq => Or.inl (h.may.rown j hj q hq).1)).setCell (Or.inl h.may.own) _) ?_
  have hlen : (M j ++ [X]).length = (M j).length + 1 := by simp
  have key := h.may.put (w' := w6.setCell ⟨Bm, j, none⟩ (.slice (some ⟨g, 0, none⟩) ((M j).length + 1) cap)) (P' := gro P w (w6.setCell ⟨Bm, j, none⟩ (.slice (some ⟨g, 0, none⟩) ((M j).length + 1) cap))) j hj g cap (M j ++ [X])
  rw [hlen] at key
  refine key ?_ ?_ ?_ (fun q hq => Or.inl hq) ?_ gB ?_
  · have hb6 : Blk w6 Bm (vA 66 vs) 22 := (h.may.blk.below h5 lB).grown hg (fun e => (h.may.rown j hj Bm e.symm).2 rfl)
    have := hb6.set j (.slice (some ⟨g, 0, none⟩) ((M j).length + 1) cap)
    rw [vA_set] at this; exact this
  · refine ownsRow_same (w := w6) (by rw [List.map_append]; exact hown) (fun q hq => ?_)
    simp only [Value.ownBlock, Option.some.injEq] at hq
    subst hq
    exact Below.heap_setCell _ _ _ _ (by exact gB)
  · intro i hi hij q hq
    have hl := (ownsRow_lt (h.may.rows i hi) q hq).2
    rw [Below.heap_setCell _ _ _ _ (h.may.rown i hi q hq).2, hg.block q (by omega) (fun e => h.may.dist i j hi hj hij q hq e.symm), h5.block q hl]
  · rcases hat with e | e
    · exact Or.inl (h.may.rown j hj g e).1
    · exact Or.inr ⟨by omega, by rw [hz]; exact hlt⟩
  · intro i hi hij e
    rcases hat with e2 | e2
    · exact h.may.dist i j hi hj hij g e e2
    · have := (ownsRow_lt (h.may.rows i hi) _ e).2; omega
end
end Go.Proofs.YtccnnfllgdplhaaDoor
