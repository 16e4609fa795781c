/-
  Part of the proof: Fuse, Image and Lay of the code are walked.
  Part of the proof: a range over a method's value: the iterator has its receiver first, and yields so many things, in their order; the loop's body goes on, or returns.
-/
import Derived.Test.YtkapkphhceknfaaGreatDoorB22
import Derived.RangeFuncNested
import Derived.RangeFuncLeaves
import Derived.Shelf.Abstract
import Derived.WalkKit
import Derived.OwnWalkIn
import Derived.TacticsInMore
import Derived.LoopNIn
import Derived.LoopIn
import Derived.Test.YtkapkphhceknfaaGreatDoorB21
namespace Go.Proofs.YtkapkphhceknfaaGreatDoor.Dv
open Go.RowKit
def fuseTo (n : Int) : Int := if n < 0 then -1 else n
theorem fuse_any (b : Nat) (O : Nat → Prop) (S : Nat → Nat → UInt8) (W : List (Nat × (Nat → UInt8))) (F : Int) (v : Value) (lf : Int) (n : Int) (w : World) (hD : Dev w O b S W F v lf) (hn : n ≤ 9223372036854775807) :
    Calls Tryz.prog 8 #[.pointer (some ⟨b, 0, none⟩), .int .i64 n] w fun e w' => e = .returned (.tuple #[]) ∧ (∃ l', Dev w' O b S W (fuseTo n) v l') ∧ Upd w w' b := by
  have c1 := hD.c1
  have c2 := hD.c2
  have fz := fun j => hD.blk.frozen j
  have e : decide (0 ≤ fuseTo n) = decide (0 ≤ n) := by
    unfold fuseTo
    by_cases h : n < 0
    · rw [if_pos h]; simp; omega
    · rw [if_neg h]
  go_enter Tryz.func8, Tryz.ntmps8
  go_wp2_with fail
  go_end0
  have hb := (hD.blk.set 16897 (.bool (decide (0 ≤ n)))).set 16898 (.int .i64 n)
  rw [devA_set1, devA_set2, ← e] at hb
  have hu : Upd w ((w.setCell ⟨b, 16897, none⟩ (.bool (decide (0 ≤ n)))).setCell ⟨b, 16898, none⟩ (.int .i64 n)) b := (setCell_upd _ _ _ _).trans (setCell_upd _ _ _ _)
  refine ⟨rfl, ⟨n, hD.put hu (by rw [e] at hb ⊢; exact hb) (fun h => ?_) ?_⟩, hu⟩
  · unfold fuseTo at h ⊢; split at h
    · omega
    · rw [if_neg (by assumption)]
  · unfold fuseTo; split
    · decide
    · exact hn
/-- A row of texts. -/
def ts (n : Nat) (f : Nat → ByteArray) : Array Value := ((List.range n).map fun j => Value.string (f j)).toArray
theorem ts_size (n : Nat) (f : Nat → ByteArray) : (ts n f).size = n := by simp [ts]
theorem ts_get (n : Nat) (f : Nat → ByteArray) (j : Nat) (h : j < n) : (ts n f)[j]? = some (.string (f j)) := by simp [ts, h]
theorem ts_congr (n : Nat) (f g : Nat → ByteArray) (h : ∀ j, j < n → f j = g j) : ts n f = ts n g := by
  unfold ts; congr 1; apply List.map_congr_left; intro j hj; rw [h j (by simpa using hj)]
theorem ts_set (n : Nat) (f : Nat → ByteArray) (k : Nat) (v : ByteArray) : (ts n f).setIfInBounds k (.string v) = ts n (fun j => if j = k then v else f j) := by
  apply Array.ext_getElem?; intro i
  rw [Array.getElem?_setIfInBounds]
  by_cases hi : i < n
  · rw [ts_get _ _ i hi, ts_get _ _ i hi, ts_size]
    by_cases hk : k = i
    · subst hk; simp [hi]
    · simp [hk, Ne.symm hk]
  · have e : ∀ g, (ts n g)[i]? = none := fun g => by rw [Array.getElem?_eq_none]; rw [ts_size]; omega
    rw [e, e, ts_size]; split <;> simp_all
theorem _root_.Go.Proofs.YtkapkphhceknfaaGreatDoor.Blk.tx {w : World} {b : Nat} {T : TypeId} {n : Nat} {f : Nat → ByteArray} (h : Blk w b (ts n f) T) (j : Nat) (hj : j < n) : w.cell? ⟨b, j, none⟩ = some (.string (f j)) := by
  rw [h.cell, ts_get _ _ _ hj]
theorem mk66 (w : World) : (Instr.makeSlice 23 (.int .i64 66) (.int .i64 66)).run Tryz.prog w = .ok (.slice (some ⟨w.heap.size, 0, none⟩) 66 66) (w.alloc (.cells (ts 66 (fun _ => ByteArray.empty)) 9)) := by
  obtain ⟨i, hi, h1⟩ := Option.map_eq_some_iff.1 (show (Tryz.prog.info? 9).map (fun i => (i.zero, i.size, i.bytes)) = some (some (.string ByteArray.empty), 1, 16) by kernel_rfl)
  simp only [Prod.mk.injEq] at h1
  obtain ⟨h1, h2, h3⟩ := h1
  have := run_makeSlice (P := Tryz.prog) w 23 9 i _ Tryz.underlying23 hi h1 .i64 .i64 66 66 (by decide) (by decide) (by rw [h2]; decide) (by rw [h3]; decide) (by decide)
  have e : madeCells (Value.string ByteArray.empty).cells (Int.toNat 66 * 1) = ts 66 (fun _ => ByteArray.empty) := by kernel_rfl
  rw [this, h2, e]
  rfl
/-- A text's first bytes, in an array of cells. -/
theorem img_succ (S : Nat → Nat → UInt8) (k : Nat) : (ts 66 (fun j => if j < k then sb 256 (S j) else ByteArray.empty)).setIfInBounds k (.string (sb 256 (S k))) = ts 66 (fun j => if j < k + 1 then sb 256 (S j) else ByteArray.empty) := by
  rw [ts_set]; apply ts_congr; intro j _
  by_cases e : j = k
  · subst e; simp
  · simp only [e, if_false]; congr 1; apply propext; omega
section
variable {P : Program} {ops : Array Oper} {Q : Exit → Act → World → Prop} {a : Act} {w : World} {rest : List Oper} {o : Oper}
/-- A part of a block, told as a text. -/
theorem wpl_sb (hgd : o.guard = none) (src dst e : TypeId) (x : Operand) (ho : o.op = .convert src dst x) (hs : P.underlying src = some (.slice e)) (he : P.underlying e = some (.int .u8)) (hd : P.underlying dst = some .string)
    (b off n cap : Nat) (arr : Array Value) (T : TypeId) (hx : a.eval x = .slice (some ⟨b, off, none⟩) n cap) (hb : Blk w b arr T) (hn : off + n ≤ arr.size) (f : Nat → UInt8) (hl : arr.extract off (off + n) = tb n f)
    (h : wpList P ops Q rest (a.put o.dst (.string (sb n f))) w) : wpList P ops Q (o :: rest) a w :=
  wpl_string hgd src dst e x ho hs he hd b off n cap arr T hx hb hn ((List.range n).map f) (by rw [hl]; simp [tb, Lib.byteCells]) h
end
set_option maxRecDepth 100000 in
set_option maxHeartbeats 400000 in
theorem image_any (b : Nat) (O : Nat → Prop) (S : Nat → Nat → UInt8) (W : List (Nat × (Nat → UInt8))) (F : Int) (v : Value) (lf : Int) (w : World) (hD : Dev w O b S W F v lf) :
    Calls Tryz.prog 26 #[.pointer (some ⟨b, 0, none⟩)] w fun e w' => e = .returned (.slice (some ⟨w.heap.size, 0, none⟩) 66 66) ∧ Blk w' w.heap.size (ts 66 (fun k => sb 256 (S k))) 9 ∧ Below w.heap.size w w' := by
  have mk := mk66
  have lb := hD.blk.lt
  go_enter Tryz.func26, Tryz.ntmps26
  go_wp2_with fail
  clear mk
  obtain ⟨B, hB⟩ : ∃ B, Hid (B = w.heap.size) := ⟨_, rfl⟩
  have j0 := Blk.new w (ts 66 (fun _ => ByteArray.empty)) 9
  have g0 := (Below.refl w.heap.size w).alloc (Nat.le_refl _) (.cells (ts 66 (fun _ => ByteArray.empty)) 9)
  rw [← hB.out] at j0 g0 lb
  rw [← hB.out]
  go_loopw [10] (fun i wr => ∃ k : Nat, k ≤ 66 ∧ i = .int .i64 k ∧ Blk wr B (ts 66 (fun j => if j < k then sb 256 (S j) else ByteArray.empty)) 9 ∧ Below B w wr) (fun i _ => 66 - (intOf i).toNat)
  case atStart => exact ⟨0, by omega, rfl, by simpa using j0, g0⟩
  case round =>
    clear j0 g0
    obtain ⟨k, hk, rfl, j1, g1⟩ := hrel
    by_cases hlt : k < 66
    · have jb := hD.blk.below g1 lb
      have h1 : (k : Int) < 66 := by omega
      have cc := j1.cell k
      rw [ts_get _ _ _ hlt] at cc
      have fz := fun j => j1.frozen j
      go_wp2_with (refine wpl_sb rfl 87 9 5 _ rfl Tryz.underlying87 Tryz.underlying5 Tryz.underlying9 b (k * 256) 256 _ _ 65 rfl jb (by rw [devA_size]; omega) (S k) (devA_ext _ _ _ _ _ hlt) ?_)
      go_light
      refine ⟨⟨k + 1, by omega, by go_num, ?_, g1.setCell (by exact Nat.le_refl _) _⟩, by simp [intOf]; omega⟩
      have := j1.set k (.string (sb 256 (S k)))
      rw [img_succ] at this
      exact this
    · have hk' : k = 66 := by omega
      subst hk'
      go_wp2_with fail
      go_ret
      obtain rfl : B = w.heap.size := hB.out
      refine ⟨rfl, ?_, g1⟩
      rw [ts_congr 66 (fun k => sb 256 (S k)) (fun j => if j < 66 then sb 256 (S j) else ByteArray.empty) (fun j hj => by rw [if_pos hj])]
      exact j1
/-- A slice of texts reads as ls; nothing of it lies in O. -/
def Texts (w : World) (O : Nat → Prop) (a : Option Addr) (ls : List ByteArray) : Prop :=
  ∀ i x, ls[i]? = some x → ∃ g o, a = some ⟨g, o, none⟩ ∧ g < w.heap.size ∧ ¬ O g ∧ w.cell? ⟨g, o + i, none⟩ = some (.string x)
theorem Texts.chg {w w' : World} {O P : Nat → Prop} {a : Option Addr} {ls : List ByteArray} (h : Texts w O a ls) (hc : Chg w w' P) (hp : ∀ k, k < w.heap.size → P k → O k) : Texts w' O a ls := by
  intro i x hx
  obtain ⟨g, o, h1, h2, h3, h4⟩ := h i x hx
  exact ⟨g, o, h1, Nat.lt_of_lt_of_le h2 hc.size, h3, (World.cell?_of_block (hc.block g h2 (fun hh => h3 (hp g h2 hh)))).trans h4⟩
/-- The blocks, when the first i of them are laid down. -/
def layS (S : Nat → Nat → UInt8) (ls : List ByteArray) (i : Nat) (k : Nat) : Nat → UInt8 := if k < i then bAt (ls.getD k ByteArray.empty) else S k
theorem layS_0 (S : Nat → Nat → UInt8) (ls : List ByteArray) : layS S ls 0 = S := by funext k; simp [layS]
theorem layS_succ (S : Nat → Nat → UInt8) (ls : List ByteArray) (i : Nat) (g : Nat → UInt8) (hg : g = bAt (ls.getD i ByteArray.empty)) : putS (layS S ls i) i g = layS S ls (i + 1) := by
  subst hg
  funext k
  unfold putS layS
  by_cases e : k = i
  · subst e; simp
  · simp only [e, if_false]; congr 1; apply propext; omega
theorem putS_putS (S : Nat → Nat → UInt8) (k : Nat) (g g' : Nat → UInt8) : putS (putS S k g) k g' = putS S k g' := by
  funext i; unfold putS; by_cases h : i = k <;> simp [h]
theorem bAt_empty : bAt ByteArray.empty = fun _ => 0 := by funext j; rfl
attribute [local go_sem] zeroBlk
end Go.Proofs.YtkapkphhceknfaaGreatDoor.Dv
namespace Go.Proofs.YtkapkphhceknfaaGreatDoor.Dv
open Go.RowKit Go.Shelf
theorem below_putObj {B l : Nat} (W : World) (o : Obj) (h : B ≤ l) : Below B W (W.putObj l o) :=
  ⟨rfl, rfl, rfl, by simp [World.putObj], fun k hk => World.putObj_heap_other (by omega)⟩
/-- What an iterator of N things owes, whatever a round does: J i: so many rounds went on; Jx: one said that no more are wanted. -/
def Gives (F : Fence) (n : Nat) (P : Program) (gf : Nat) (rv : Value) (enc : Nat → Array Value) (N : Nat) (I : Nat → World → Prop) : Prop :=
  ∀ (l : Nat) (J : Nat → World → Prop) (Jx : World → Prop) (W : World), (∀ i W, J i W → I i W) →
    (∀ i W1, i < N → J i W1 → YieldAt F (n - 1) P l (enc i) W1 fun e W' => (e = .returned (.bool true) ∧ J (i + 1) W') ∨ (e = .returned (.bool false) ∧ Jx W')) → J 0 W →
    CallsIn F n P gf #[rv, .func (.yield l) #[] #[]] W fun e W' => (∃ v, e = .returned v) ∧ (J N W' ∨ Jx W')
/-- How a round may end. -/
def roundPost (B : Nat) (I : World → Prop) (Ix : World → Prop) (W : World) : Exit → Act → World → Prop
  | .normal, _, W' => KeepsFrom B W W' ∧ I W'
  | .ret, _, W' => KeepsFrom B W W' ∧ Ix W'
  | _, _, _ => False
set_option maxHeartbeats 400000 in
theorem range_bound {F : Fence} {n : Nat} {P : Program} {g : Operand} {ps : Array Tmp} {assign body : Code} {Q : Exit → Act → World → Prop} {a : Act} {w : World} (hro : F.round = none) (h1 : 1 ≤ n) (gf : Nat) (rv : Value)
    (hg : a.eval g = .func (.func gf) #[rv] #[]) (hF : F.fn gf) (eg : ∀ args w, (callFunc gf args).run P w = .ok (.enter gf args) w) (enc : Nat → Array Value) (N : Nat) (hps : ∀ i, (enc i).size = ps.size)
    (I : Nat → World → Prop) (Ix : World → Prop) (hI : ∀ i W W', Below w.heap.size W W' → I i W → I i W') (hIx : ∀ W W', Below w.heap.size W W' → Ix W → Ix W') (h0 : I 0 w) (hit : Gives F (n - 1) P gf rv enc N I)
    (Ax : Nat → Act → World → Prop) (hAx : ∀ i a' W o, W.heap[w.heap.size + 1]? = some (.loop o) → ∀ o', Ax i a' W → Ax i a' (W.putObj (w.heap.size + 1) (.loop o')))
    (hassign : ∀ (i : Nat) (W : World) (K : Act → World → Prop), i < N → I i W → (∀ a' W', Below W.heap.size W W' → Ax i a' W' → K a' W') →
      assign.wpIn (F.inRound (w.heap.size + 1)) (n - 1 - 1) P (Exit.then K (fun _ _ _ => False)) { tmps := (ps.zip (enc i)).foldl (fun t (p, v) => t.setIfInBounds p v) a.tmps, defers := [] } W)
    (hbody : ∀ (i : Nat) (a' : Act) (W : World), i < N → I i W → Ax i a' W → body.wpIn (F.inRound (w.heap.size + 1)) (n - 1 - 1) P (roundPost w.heap.size (I (i + 1)) Ix W) a' W)
    (hdone : ∀ (D : Nat) (W : World), w.heap.size ≤ D → I N W → W.heap[D]? = some (.deferred (some [])) → Q .normal { a with defers := { target := .collected D, args := #[] } :: a.defers } W)
    (hstop : ∀ (D : Nat) (W : World), w.heap.size ≤ D → Ix W → W.heap[D]? = some (.deferred (some [])) → Code.ret.wpIn F n P Q { a with defers := { target := .collected D, args := #[] } :: a.defers } W) :
    (Code.rangeFunc g ps assign body).wpIn F n P Q a w := by
  refine wpIn_rangeFunc fun fn hfn => ?_
  rw [hro]
  generalize hB : w.heap.size = B at *
  obtain ⟨lp, hlp⟩ : ∃ lp : LoopState → Option Code → Loop, lp = fun st pe => { state := st, pending := pe, fn, tmps := a.tmps, params := ps, assign, body, defers := B } := ⟨_, rfl⟩
  have hin := run_enterLoop_outer (P := P) (w := w) fn a.tmps ps assign body
  rw [hB, show ({ state := .ready, pending := none, fn, tmps := a.tmps, params := ps, assign, body, defers := B } : Loop) = lp .ready none from by rw [hlp]] at hin
  obtain ⟨W1, hW1⟩ : ∃ W1, W1 = (w.alloc (.deferred (some []))).alloc (.loop (lp .ready none)) := ⟨_, rfl⟩
  rw [← hW1] at hin
  have hb1 : Below B w W1 := by rw [hW1, ← hB]; exact ((Below.refl _ w).alloc (Nat.le_refl _) _).alloc (by simp) _
  have hl1 : W1.heap[B + 1]? = some (.loop (lp .ready none)) := by
    rw [hW1]; have := World.alloc_heap_new (w.alloc (.deferred (some []))) (.loop (lp .ready none)); rwa [World.size_alloc, hB] at this
  have hk1 : W1.heap[B]? = some (.deferred (some [])) := by
    rw [hW1]; refine (Below.heap_alloc _ _ _ (by simp [hB])).trans ?_; have := World.alloc_heap_new w (.deferred (some [])); rwa [hB] at this
  refine ⟨B + 1, _, W1, { target := .fn (.func gf) #[], args := #[rv, .func (.yield (B + 1)) #[] #[]] }, W1, gf, #[rv, .func (.yield (B + 1)) #[] #[]], W1, hin, ?_, ?_, ?_, fun _ => h1, ?_⟩
  · simp only [resolve, hg]
    simp [go_sem]
  · intro f' hf'; simp [Target.leads] at hf'; subst hf'; exact hF
  · simp [invoke, go_sem, eg]
  refine (hit (B + 1) (fun i W => I i W ∧ W.heap[B + 1]? = some (.loop (lp .ready none)) ∧ W.heap[B]? = some (.deferred (some [])))
    (fun W => Ix W ∧ W.heap[B + 1]? = some (.loop (lp .done (some .ret))) ∧ W.heap[B]? = some (.deferred (some []))) W1 (fun _ _ h => h.1) ?_ ⟨hI 0 _ _ hb1 h0, hl1, hk1⟩).mono ?_
  · rintro i W hi ⟨hiI, hl, hk⟩
    have hy := run_yield (P := P) (args := enc i) hl (by rw [hlp]; exact hps i)
    rw [hlp] at hy
    refine ⟨fn, _, assign, body, hy, roundIn_of_wpIn hfn (hassign i W _ hi hiI ?_)⟩
    intro a' Wa hba hax
    have hlW := (Array.getElem?_eq_some_iff.1 hl).1
    have hla := (hba.block (B + 1) hlW).trans hl
    have hka := (hba.block B (by omega)).trans hk
    have hza : B + 1 < Wa.heap.size := (Array.getElem?_eq_some_iff.1 hla).1
    refine ⟨_, run_beginRound hla (by rw [hlp]), ?_⟩
    obtain ⟨busy, hbusy⟩ : ∃ busy, busy = ({ lp .ready none with state := .busy } : Loop) := ⟨_, rfl⟩
    rw [← hbusy]
    have hl2 : (Wa.putObj (B + 1) (.loop busy)).heap[B + 1]? = some (.loop busy) := World.putObj_heap_same hza
    have hk2 : (Wa.putObj (B + 1) (.loop busy)).heap[B]? = some (.deferred (some [])) := (World.putObj_heap_other (by omega)).trans hka
    refine wpIn_mono (hbody i a' _ hi (hI _ _ _ ((hba.mono (by omega)).trans (below_putObj Wa (.loop busy) (by omega))) hiI) (hAx i a' Wa _ hla _ hax)) ?_
    have fin : ∀ (j : Option Code) (W3 : World), KeepsFrom B (Wa.putObj (B + 1) (.loop busy)) W3 → (Instr.endRound (B + 1) j).run P W3 = .ok (.bool j.isNone) (W3.putObj (B + 1) (.loop (lp (if j.isNone then .ready else .done) j))) ∧
        (W3.putObj (B + 1) (.loop (lp (if j.isNone then .ready else .done) j))).heap[B + 1]? = some (.loop (lp (if j.isNone then .ready else .done) j)) ∧ (W3.putObj (B + 1) (.loop (lp (if j.isNone then .ready else .done) j))).heap[B]? = some (.deferred (some [])) := by
      intro j W3 hk3
      have hl3 := hk3.same _ _ (by omega) hl2 rfl
      have hr := run_endRound (P := P) j hl3
      rw [hbusy, hlp] at hr
      refine ⟨by rw [hlp]; exact hr, World.putObj_heap_same (Array.getElem?_eq_some_iff.1 hl3).1, (World.putObj_heap_other (by omega)).trans (hk3.same _ _ (Nat.le_refl _) hk2 rfl)⟩
    rintro e a3 W3 hp
    cases e with
    | normal =>
      obtain ⟨hr, hl4, hk4⟩ := fin none W3 hp.1
      exact ⟨_, _, hr, .inl ⟨rfl, hI _ _ _ (below_putObj W3 _ (by omega)) hp.2, hl4, hk4⟩⟩
    | ret =>
      obtain ⟨hr, hl4, hk4⟩ := fin (some .ret) W3 hp.1
      exact ⟨_, _, hr, .inr ⟨rfl, hIx _ _ (below_putObj W3 _ (by omega)) hp.2, hl4, hk4⟩⟩
    | exit id => exact hp.elim
    | goto t => exact hp.elim
    | panic ch => exact hp.elim
    | outgrown => exact hp.elim
  · rintro e W2 ⟨⟨v, rfl⟩, (⟨hi, hl, hk⟩ | ⟨hi, hl, hk⟩)⟩
    · have hr := run_endLoop (P := P) hl (by rw [hlp]; simp)
      rw [show (lp .ready none).pending = none from by rw [hlp]] at hr
      exact ⟨none, _, hr, hdone B _ (Nat.le_refl _) (hI _ _ _ (below_putObj W2 _ (by omega)) hi) ((World.putObj_heap_other (by omega)).trans hk)⟩
    · have hr := run_endLoop (P := P) hl (by rw [hlp]; simp)
      rw [show (lp .done (some .ret)).pending = some .ret from by rw [hlp]] at hr
      exact ⟨some .ret, _, hr, hstop B _ (Nat.le_refl _) (hIx _ _ (below_putObj W2 _ (by omega)) hi) ((World.putObj_heap_other (by omega)).trans hk)⟩
section
variable {n : Nat} {F : Fence} {P : Program} {ops : Array Oper} {Q : Exit → Act → World → Prop} {a : Act} {w : World} {rest : List Oper} {o : Oper}
theorem wplIn_run (hF : ∀ f, F.fn f) (hg : o.guard = none) (hnd : ∀ c, o.op ≠ .defer c) (v : Value) (w' : World) (hr : (execOp a.eval o).run P w = .ok (.value v) w') (h : wpListIn F n P ops Q rest (a.put o.dst v) w') : wpListIn F n P ops Q (o :: rest) a w := by
  refine wpListIn_plain hg fun K hK => ⟨fun f _ => hF f, ?_⟩
  rw [Oper.semAt_plain F a.eval o hnd, hr]
  exact hK _ _ h
theorem wplIn_skip (hF : ∀ f, F.fn f) (hg : o.guard = none) (hnd : ∀ c, o.op ≠ .defer c) (hd : o.dst = none) (w' : World) (hr : (execOp a.eval o).run P w = .ok .skip w') (h : wpListIn F n P ops Q rest a w') : wpListIn F n P ops Q (o :: rest) a w := by
  refine wpListIn_plain hg fun K hK => ⟨fun f _ => hF f, ?_⟩
  rw [Oper.semAt_plain F a.eval o hnd, hr, Oper.uponIn_skip, hd]
  exact hK _ _ h
end
end Go.Proofs.YtkapkphhceknfaaGreatDoor.Dv
