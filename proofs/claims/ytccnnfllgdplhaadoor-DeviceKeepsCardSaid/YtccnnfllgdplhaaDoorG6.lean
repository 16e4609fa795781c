/-
  Part of the proof: all that DeviceKeeps has in memory, and what each step makes of it.
-/
import Derived.Test.YtccnnfllgdplhaaDoorG5
namespace Go.Proofs.YtccnnfllgdplhaaDoor
open Go.RowKit
/-- One operation of the list, as it lies in memory. -/
structure OpD where
  what : Int
  at' : Int
  s : ByteArray
  ka : Option Addr
  ks : List Bool
  kc : Nat
def OpD.cells (x : OpD) : Array Value := #[.int .i64 x.what, .int .i64 x.at', .string x.s, .slice x.ka x.ks.length x.kc]
structure OpIs (w : World) (g o : Nat) (x : OpD) : Prop where
  lt : g < w.heap.size
  c0 : w.cell? ⟨g, o, none⟩ = some (.int .i64 x.what)
  c1 : w.cell? ⟨g, o + 1, none⟩ = some (.int .i64 x.at')
  c2 : w.cell? ⟨g, o + 2, none⟩ = some (.string x.s)
  c3 : w.cell? ⟨g, o + 3, none⟩ = some (.slice x.ka x.ks.length x.kc)
  keeps : Bools w x.ka x.ks
  atT : x.at' ≤ 9223372036854775807
  sl : x.s.size ≤ maxLen
  kl : x.ks.length ≤ maxLen
def OpsAt (w : World) (a : Option Addr) (l : List OpD) : Prop := ∀ i x, l[i]? = some x → ∃ g o, a = some ⟨g, o, none⟩ ∧ OpIs w g (o + i * 4) x
/-- All that DeviceKeeps has in memory: both devices, the counter, and the operation that is looked at. -/
structure Kp (w0 w : World) (O P : Nat → Prop) (b r c : Nat) (X : List (Nat × Array Value)) (S : Nat → Nat → UInt8) (W : List (Nat × (Nat → UInt8))) (F : Int) (S' : Nat → Nat → UInt8) (W' : List (Nat × (Nat → UInt8))) (F' : Int) (N : Int) : Prop where
  dev : ∃ v lf, Dev w O b S W F v lf
  ref : ∃ a' b' c', RDev w P r S' W' F' a' b' c'
  cnt : Cnt w c N
  no : ¬ O c ∧ ¬ P c
  low : Below w0.heap.size w0 w
  bo : Bd w0.heap.size O w
  bp : Bd w0.heap.size P w
  bc : w0.heap.size ≤ c
  dis : ∀ k, O k → ¬ P k
  xs : ∀ x ∈ X, Blk w x.1 x.2 56 ∧ ¬ O x.1 ∧ ¬ P x.1 ∧ x.1 ≠ c
section
variable {w0 w w' : World} {O P Q : Nat → Prop} {b r c : Nat} {X : List (Nat × Array Value)} {S S' S1 : Nat → Nat → UInt8} {W W' W1 : List (Nat × (Nat → UInt8))} {F F' F1 N N' : Int}
theorem Kp.dstep (h : Kp w0 w O P b r c X S W F S' W' F' N) (hc : Chg w w' O) (hD : ∃ v lf, Dev w' Q b S1 W1 F1 v lf) (hQ : ∀ k, Q k → gro O w w' k) : Kp w0 w' Q P b r c X S1 W1 F1 S' W' F' N := by
  obtain ⟨a', b', c', hR⟩ := h.ref
  have bq : Bd w0.heap.size Q w' := fun k hk => h.bo.gro h.low.size hc.size k (hQ k hk)
  refine ⟨hD, ⟨a', b', c', hR.chg hc (fun k hp ho => h.dis k ho hp)⟩, h.cnt.chg hc h.no.1, ⟨not_gro h.cnt.lt h.no.1 hQ, h.no.2⟩, hc.low h.low h.low.size h.bo, bq, h.bp.mono hc.size, h.bc, fun k hk hp => (hQ k hk).elim (fun ho => h.dis k ho hp) (fun hn => by have := (h.bp k hp).2; omega), fun x hx => ?_⟩
  obtain ⟨h1, h2, h3, h4⟩ := h.xs x hx
  exact ⟨h1.chg hc h2, not_gro h1.lt h2 hQ, h3, h4⟩
theorem Kp.rstep (h : Kp w0 w O P b r c X S W F S' W' F' N) (hc : Chg w w' P) (hD : ∃ a' b' c', RDev w' Q r S1 W1 F1 a' b' c') (hQ : ∀ k, Q k → gro P w w' k) : Kp w0 w' O Q b r c X S W F S1 W1 F1 N := by
  obtain ⟨v, lf, hR⟩ := h.dev
  have bq : Bd w0.heap.size Q w' := fun k hk => h.bp.gro h.low.size hc.size k (hQ k hk)
  refine ⟨⟨v, lf, hR.chg hc (fun k ho hp => h.dis k ho hp)⟩, hD, h.cnt.chg hc h.no.2, ⟨h.no.1, not_gro h.cnt.lt h.no.2 hQ⟩, hc.low h.low h.low.size h.bp, h.bo.mono hc.size, bq, h.bc, fun k ho hk => (hQ k hk).elim (fun hp => h.dis k ho hp) (fun hn => by have := (h.bo k ho).2; omega), fun x hx => ?_⟩
  obtain ⟨h1, h2, h3, h4⟩ := h.xs x hx
  exact ⟨h1.chg hc h3, h2, not_gro h1.lt h3 hQ, h4⟩
theorem Kp.dsame (h : Kp w0 w O P b r c X S W F S' W' F' N) (hc : Chg w w' O) (hD : ∃ v lf, Dev w' O b S1 W1 F1 v lf) : Kp w0 w' O P b r c X S1 W1 F1 S' W' F' N := h.dstep hc hD (fun _ hk => Or.inl hk)
theorem Kp.rsame (h : Kp w0 w O P b r c X S W F S' W' F' N) (hc : Chg w w' P) (hD : ∃ a' b' c', RDev w' P r S1 W1 F1 a' b' c') : Kp w0 w' O P b r c X S W F S1 W1 F1 N := h.rstep hc hD (fun _ hk => Or.inl hk)
theorem Kp.below (h : Kp w0 w O P b r c X S W F S' W' F' N) (hb : Below w.heap.size w w') : Kp w0 w' O P b r c X S W F S' W' F' N := by
  obtain ⟨v, lf, hD⟩ := h.dev
  exact h.dsame (Chg.of hb O) ⟨v, lf, hD.below hb⟩
theorem Kp.drewN (h : Kp w0 w O P b r c X S W F S' W' F' N) (n : Nat) : Kp w0 (w.drewN n) O P b r c X S W F S' W' F' N := h.below (below_drewN (Below.refl _ _) n)
theorem Kp.dupd (h : Kp w0 w O P b r c X S W F S' W' F' N) (hu : Upd w w' b) (hD : ∃ v lf, Dev w' O b S1 W1 F1 v lf) : Kp w0 w' O P b r c X S1 W1 F1 S' W' F' N := by
  obtain ⟨v, lf, hD0⟩ := h.dev
  exact h.dsame ((Chg.refl w O).upd hu (Or.inl hD0.own)) hD
theorem Kp.rupd (h : Kp w0 w O P b r c X S W F S' W' F' N) (hu : Upd w w' r) (hD : ∃ a' b' c', RDev w' P r S1 W1 F1 a' b' c') : Kp w0 w' O P b r c X S W F S1 W1 F1 N := by
  obtain ⟨a', b', c', hD0⟩ := h.ref
  exact h.rsame ((Chg.refl w P).upd hu (Or.inl hD0.own)) hD
theorem Kp.cstep (h : Kp w0 w O P b r c X S W F S' W' F' N) (hu : Upd w w' c) (hC : Cnt w' c N') : Kp w0 w' O P b r c X S W F S' W' F' N' := by
  obtain ⟨v, lf, hD⟩ := h.dev
  obtain ⟨a', b', c', hR⟩ := h.ref
  have hc : Chg w w' (fun k => k = c) := (Chg.refl w _).upd hu (Or.inl rfl)
  refine ⟨⟨v, lf, hD.chg hc (fun k ho e => h.no.1 (by rw [← show k = c from e]; exact ho))⟩, ⟨a', b', c', hR.chg hc (fun k ho e => h.no.2 (by rw [← show k = c from e]; exact ho))⟩, hC, h.no, hc.to h.low h.low.size (fun k e => by rw [show k = c from e]; exact h.bc), h.bo.mono hc.size, h.bp.mono hc.size, h.bc, h.dis, fun x hx => ?_⟩
  obtain ⟨h1, h2, h3, h4⟩ := h.xs x hx
  exact ⟨h1.chg hc h4, h2, h3, h4⟩
theorem Kp.less (h : Kp w0 w O P b r c X S W F S' W' F' N) : Kp w0 w O P b r c [] S W F S' W' F' N := ⟨h.dev, h.ref, h.cnt, h.no, h.low, h.bo, h.bp, h.bc, h.dis, fun x hx => by cases hx⟩
/-- The operation is laid into a variable of its own. -/
theorem Kp.more (h : Kp w0 w O P b r c [] S W F S' W' F' N) (arr : Array Value) : Kp w0 (w.alloc (.cells arr 56)) O P b r c [(w.heap.size, arr)] S W F S' W' F' N := by
  have g := (Below.refl w.heap.size w).alloc (Nat.le_refl _) (.cells arr 56)
  have k := h.below g
  refine ⟨k.dev, k.ref, k.cnt, k.no, k.low, k.bo, k.bp, k.bc, k.dis, fun x hx => ?_⟩
  rw [List.mem_singleton.1 hx]
  have := h.cnt.lt
  exact ⟨Blk.new _ _ _, fun ho => by have := (h.bo _ ho).2; omega, fun ho => by have := (h.bp _ ho).2; omega, by simp only [ne_eq]; omega⟩
theorem Kp.x {Bx : Nat} {arr : Array Value} (h : Kp w0 w O P b r c [(Bx, arr)] S W F S' W' F' N) : Blk w Bx arr 56 := (h.xs _ (List.mem_singleton.2 rfl)).1
end
end Go.Proofs.YtccnnfllgdplhaaDoor
