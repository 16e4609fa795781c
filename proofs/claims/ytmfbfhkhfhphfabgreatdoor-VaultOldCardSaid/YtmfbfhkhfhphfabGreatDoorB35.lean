/-
  Part of the proof: maps.Clone, and the state of one Count more, are walked.
-/
import Derived.Test.YtmfbfhkhfhphfabGreatDoorB34
import Derived.Test.YtmfbfhkhfhphfabGreatDoorB21
import Derived.Shelf.SlMaps.Clone
namespace Go.Proofs.YtmfbfhkhfhphfabGreatDoor.Vt
open Go.RowKit
set_option maxRecDepth 100000 in
set_option maxHeartbeats 2000000 in
theorem clone_any (b n : Nat) (g : Int → Option Value) (w : World) (hM : MapF Tryz.prog w b n g) :
    Calls Tryz.prog 95 #[.map (some b)] w fun e w' => e = .returned (.map (some w.heap.size)) ∧ MapF Tryz.prog w' w.heap.size n g ∧ Below w.heap.size w w' ∧ w'.heap.size = w.heap.size + 1 := by
  obtain ⟨D, ⟨es, clock, hb, F, hs, hD⟩, hT⟩ := hM
  have hq := fun w => run_eql_map_nil_sl (P := Tryz.prog) w 81 3 83 (some b) undE
  go_enter Tryz.func95, Tryz.ntmps95
  go_wp2
  rw [run_callFunc_extern Tryz.func131 (by kernel_rfl) (by kernel_rfl) (by kernel_rfl) (e := Extern.MapsClone.clone) (by kernel_rfl), run_maps_clone_sl w 81 hb]
  simp only [Result.andThen]
  rw [Oper.upon_value]
  go_wp2
  rw [run_typeAssert_map_sl _ 81 20 _ _ _ undE]
  simp only [Result.andThen]
  rw [Oper.upon_value]
  go_wp2
  go_ret
  refine ⟨rfl, ⟨D, ⟨es, clock, (MapKept.heap_alloc w _).1, F, hs, hD⟩, hT⟩, Pg.below_alloc w _, by simp⟩
section
variable {P : Program} {ops : Array Oper} {Q : Exit → Act → World → Prop} {a : Act} {w : World} {rest : List Oper} {o : Oper}
/-- One cell written into its block. -/
theorem wpl_put1 (hgd : o.guard = none) (hdn : o.dst = none) (t : TypeId) (x y : Operand) (ho : o.op = .store t x y) (hi0 : (P.info? t).map (·.size) = some 1)
    (b j : Nat) (arr : Array Value) (T : TypeId) (z : Value) (hz : z.oneCell' = true) (hzc : z.cells = #[z]) (hx : a.eval x = .pointer (some ⟨b, j, none⟩)) (hy : a.eval y = z) (hb : Blk w b arr T) (hj : j < arr.size)
    (h : ∀ w', Upd w w' b → Blk w' b (arr.setIfInBounds j z) T → wpList P ops Q rest a w') : wpList P ops Q (o :: rest) a w := by
  refine wpList_plain hgd fun K hK => ?_
  obtain ⟨i, hi, hsize⟩ := Option.map_eq_some_iff.1 hi0
  unfold Oper.wp execOp
  have ha : (⟨b, j, none⟩ : Addr).add 0 = ⟨b, j, none⟩ := by unfold Addr.add; simp
  have hl : (storeCells ⟨b, j, none⟩ [z] 0).run P w = .ok () (w.setCell ⟨b, j, none⟩ z) := by
    simp only [storeCells, Sem.run_bind, ha]
    rw [run_store _ _ _ _ _ hz, hb.cell, Array.getElem?_eq_getElem hj]
    simp only [hb.frozen, Bool.false_eq_true, if_false, Result.andThen_ok]
    rfl
  simp only [ho, hx, hy, Instr.storeAt, Instr.sureAddr, storeVar, sizeOf, typeInfo, hi, hsize, Sem.run_bind, Sem.run_pure, run_program, Result.andThen_ok, hzc, List.size_toArray, List.length_cons, List.length_nil, Nat.zero_add, ne_eq, not_true, if_false, hl]
  simp only [Oper.upon_skip, hdn, Act.put]
  exact hK _ _ (h _ (setCell_upd _ _ _ _) (hb.set j _))
variable {l : List Oper} {S : World → Prop} {fuel : Nat} {listed : Array Bool}
/-- What follows a region, told once for all its orders. -/
theorem wpS_fork (Facts : Nat → Nat → World → Prop) (vals : Nat → Nat → List (Nat × Value)) (hfin : ∀ x y W, Facts x y W → Q .normal ((vals x y).foldl (fun a z => a.put (some z.1) z.2) a) W)
    (h : (∀ x y W, Facts x y W → Q .normal ((vals x y).foldl (fun a z => a.put (some z.1) z.2) a) W) → wpS P l Q S fuel listed a w) : wpS P l Q S fuel listed a w := h hfin
end
/-- The pages of one Count more. -/
def nxP (p t : Int → Option (Int × ByteArray)) (i : Int) : Option (Int × ByteArray) := (t i).or (p i)
def nxF (f : Nat → Bool) (t : Int → Option (Int × ByteArray)) (j : Nat) : Bool := if (t (j : Int)).isSome then !f j else f j
def cutP (t : Int → Option (Int × ByteArray)) (left : Int → Bool) (i : Int) : Option (Int × ByteArray) := if left i then none else t i
theorem stA_congr (c e : Int) (f g : Nat → Bool) (r : ByteArray) (m : Value) (h : ∀ j, j < 32 → f j = g j) : stA c e f r m = stA c e g r m := by
  unfold stA; rw [Su.supA_congr c e f g r h]
theorem buildSt (c e : Int) (f : Nat → Bool) (r : ByteArray) (m : Option Nat) (w : World) : (Instr.build 88 #[(0, .agg (Su.supA c e f r)), (1, .map m)]).run Tryz.prog w = .ok (.agg (stA c e f r (.map m))) w := run_build w 88 _ _ (by kernel_rfl)
def st0 : Array Value := stA 0 0 (fun _ => false) ⟨#[]⟩ (.map none)
theorem zeroSt : ∀ w, (zeroValue 88).run Tryz.prog w = .ok (.agg st0) w := fun w => (Tryz.zeroValue88 w).trans (by kernel_rfl)
theorem buildSt0 (w : World) : (Instr.build 88 #[]).run Tryz.prog w = .ok (.agg st0) w := run_build w 88 _ _ (by kernel_rfl)
/-- What lies in memory while the next state is made. -/
structure Bh (W : World) (w : World) (B NB CB tm : Nat) (V Z X : Array Value) (n nt : Nat) (g : Int → Option Value) (t : Int → Option (Int × ByteArray)) : Prop where
  nb : Blk W NB X 88
  cb : MapF Tryz.prog W CB n g
  b0 : Blk W B V 88
  b1 : Blk W (B + 1) Z 88
  tt : MapF Tryz.prog W tm nt (pv t)
  lo : Below w.heap.size w W
  h1 : w.heap.size = B
  h2 : B + 2 ≤ NB
  h3 : B + 2 ≤ CB
  h4 : NB ≠ CB
  h5 : tm < B
section
variable {W W' w : World} {B NB CB tm : Nat} {V Z X : Array Value} {n nt : Nat} {g : Int → Option Value} {t : Int → Option (Int × ByteArray)}
theorem Bh.upd {x : Nat} (h : Bh W w B NB CB tm V Z X n nt g t) (hu : Upd W W' x) (h1 : NB ≠ x) (h2 : CB ≠ x) (h3 : B + 2 ≤ x) : Bh W' w B NB CB tm V Z X n nt g t :=
  ⟨h.nb.upd hu h1, h.cb.upd hu h2, h.b0.upd hu (by omega), h.b1.upd hu (by omega), h.tt.upd hu (by have := h.h5; omega), below_upd h.lo hu (by have := h.h1; omega), h.h1, h.h2, h.h3, h.h4, h.h5⟩
theorem Bh.below (h : Bh W w B NB CB tm V Z X n nt g t) (hb : Below W.heap.size W W') : Bh W' w B NB CB tm V Z X n nt g t :=
  ⟨h.nb.below hb h.nb.lt, h.cb.below hb h.cb.lt, h.b0.below hb h.b0.lt, h.b1.below hb h.b1.lt, h.tt.below hb h.tt.lt, h.lo.trans (hb.mono h.lo.size), h.h1, h.h2, h.h3, h.h4, h.h5⟩
theorem Bh.setN {X' : Array Value} (h : Bh W w B NB CB tm V Z X n nt g t) (hu : Upd W W' NB) (j : Blk W' NB X' 88) : Bh W' w B NB CB tm V Z X' n nt g t :=
  ⟨j, h.cb.upd hu h.h4.symm, h.b0.upd hu (by have := h.h2; omega), h.b1.upd hu (by have := h.h2; omega), h.tt.upd hu (by have := h.h5; have := h.h2; omega), below_upd h.lo hu (by have := h.h1; have := h.h2; omega), h.h1, h.h2, h.h3, h.h4, h.h5⟩
theorem Bh.setC {n' : Nat} {g' : Int → Option Value} (h : Bh W w B NB CB tm V Z X n nt g t) (hu : Upd W W' CB) (m : MapF Tryz.prog W' CB n' g') : Bh W' w B NB CB tm V Z X n' nt g' t :=
  ⟨h.nb.upd hu h.h4, m, h.b0.upd hu (by have := h.h3; omega), h.b1.upd hu (by have := h.h3; omega), h.tt.upd hu (by have := h.h5; have := h.h3; omega), below_upd h.lo hu (by have := h.h1; have := h.h3; omega), h.h1, h.h2, h.h3, h.h4, h.h5⟩
theorem Bh.to {X' : Array Value} {g' : Int → Option Value} (h : Bh W w B NB CB tm V Z X n nt g t) (e : X = X') (hg : ∀ i, kOk i → g' i = g i) : Bh W w B NB CB tm V Z X' n nt g' t :=
  ⟨e ▸ h.nb, h.cb.congr hg, h.b0, h.b1, h.tt, h.lo, h.h1, h.h2, h.h3, h.h4, h.h5⟩
end
end Go.Proofs.YtmfbfhkhfhphfabGreatDoor.Vt
