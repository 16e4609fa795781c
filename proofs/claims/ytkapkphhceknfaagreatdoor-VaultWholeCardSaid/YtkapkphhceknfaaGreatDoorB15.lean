/-
  Part of the proof: Fuse, Image and Lay of the code are walked.
  Part of the proof: a range over a method's value: the iterator has its receiver first, and yields so many things, in their order; the loop's body goes on, or returns.
  Part of the proof: the writes are gone through backwards; Read of the code is walked.
-/
import Derived.Test.YtkapkphhceknfaaGreatDoorB14
import Derived.RangeFuncNested
import Derived.RangeFuncLeaves
import Derived.Shelf.Abstract
import Derived.WalkKit
import Derived.OwnWalkIn
import Derived.TacticsInMore
import Derived.LoopNIn
import Derived.LoopIn
import Derived.Test.YtkapkphhceknfaaGreatDoorB13
import Derived.Deep.RegionHeld3
namespace Go.Proofs.YtkapkphhceknfaaGreatDoor.Dv
open Go.RowKit
def fuseTo (n : Int) : Int := if n < 0 then -1 else n
theorem fuse_any (b : Nat) (O : Nat → Prop) (S : Nat → Nat → UInt8) (W : List (Nat × (Nat → UInt8))) (F : Int) (v : Value) (lf : Int) (n : Int) (w : World) (hD : Dev w O b S W F v lf) (hn : n ≤ 9223372036854775807) :
    Calls Tryz.prog 8 #[.pointer (some ⟨b, 0, none⟩), .int .i64 n] w fun e w' => e = .returned (.tuple #[]) ∧ (∃ l', Dev w' O b S W (fuseTo n) v l') ∧ Upd w w' b := by
  have c1 := hD.c1
  have c2 := hD.c2
  have fz := fun j => hD.blk.frozen j
  have e : decide (0 ≤ fuseTo n) = decide (0 ≤ n) := by
    unfold fuseTo
    by_cases h : n < 0
    · rw [if_pos h]; simp; omega
    · rw [if_neg h]
  go_enter Tryz.func8, Tryz.ntmps8
  go_wp2_with fail
  go_end0
  have hb := (hD.blk.set 16897 (.bool (decide (0 ≤ n)))).set 16898 (.int .i64 n)
  rw [devA_set1, devA_set2, ← e] at hb
  have hu : Upd w ((w.setCell ⟨b, 16897, none⟩ (.bool (decide (0 ≤ n)))).setCell ⟨b, 16898, none⟩ (.int .i64 n)) b := (setCell_upd _ _ _ _).trans (setCell_upd _ _ _ _)
  refine ⟨rfl, ⟨n, hD.put hu (by rw [e] at hb ⊢; exact hb) (fun h => ?_) ?_⟩, hu⟩
  · unfold fuseTo at h ⊢; split at h
    · omega
    · rw [if_neg (by assumption)]
  · unfold fuseTo; split
    · decide
    · exact hn
/-- A row of texts. -/
def ts (n : Nat) (f : Nat → ByteArray) : Array Value := ((List.range n).map fun j => Value.string (f j)).toArray
theorem ts_size (n : Nat) (f : Nat → ByteArray) : (ts n f).size = n := by simp [ts]
theorem ts_get (n : Nat) (f : Nat → ByteArray) (j : Nat) (h : j < n) : (ts n f)[j]? = some (.string (f j)) := by simp [ts, h]
theorem ts_congr (n : Nat) (f g : Nat → ByteArray) (h : ∀ j, j < n → f j = g j) : ts n f = ts n g := by
  unfold ts; congr 1; apply List.map_congr_left; intro j hj; rw [h j (by simpa using hj)]
theorem ts_set (n : Nat) (f : Nat → ByteArray) (k : Nat) (v : ByteArray) : (ts n f).setIfInBounds k (.string v) = ts n (fun j => if j = k then v else f j) := by
  apply Array.ext_getElem?; intro i
  rw [Array.getElem?_setIfInBounds]
  by_cases hi : i < n
  · rw [ts_get _ _ i hi, ts_get _ _ i hi, ts_size]
    by_cases hk : k = i
    · subst hk; simp [hi]
    · simp [hk, Ne.symm hk]
  · have e : ∀ g, (ts n g)[i]? = none := fun g => by rw [Array.getElem?_eq_none]; rw [ts_size]; omega
    rw [e, e, ts_size]; split <;> simp_all
theorem _root_.Go.Proofs.YtkapkphhceknfaaGreatDoor.Blk.tx {w : World} {b : Nat} {T : TypeId} {n : Nat} {f : Nat → ByteArray} (h : Blk w b (ts n f) T) (j : Nat) (hj : j < n) : w.cell? ⟨b, j, none⟩ = some (.string (f j)) := by
  rw [h.cell, ts_get _ _ _ hj]
theorem mk66 (w : World) : (Instr.makeSlice 23 (.int .i64 66) (.int .i64 66)).run Tryz.prog w = .ok (.slice (some ⟨w.heap.size, 0, none⟩) 66 66) (w.alloc (.cells (ts 66 (fun _ => ByteArray.empty)) 9)) := by
  obtain ⟨i, hi, h1⟩ := Option.map_eq_some_iff.1 (show (Tryz.prog.info? 9).map (fun i => (i.zero, i.size, i.bytes)) = some (some (.string ByteArray.empty), 1, 16) by kernel_rfl)
  simp only [Prod.mk.injEq] at h1
  obtain ⟨h1, h2, h3⟩ := h1
  have := run_makeSlice (P := Tryz.prog) w 23 9 i _ Tryz.underlying23 hi h1 .i64 .i64 66 66 (by decide) (by decide) (by rw [h2]; decide) (by rw [h3]; decide) (by decide)
  have e : madeCells (Value.string ByteArray.empty).cells (Int.toNat 66 * 1) = ts 66 (fun _ => ByteArray.empty) := by kernel_rfl
  rw [this, h2, e]
  rfl
/-- A text's first bytes, in an array of cells. -/
theorem img_succ (S : Nat → Nat → UInt8) (k : Nat) : (ts 66 (fun j => if j < k then sb 256 (S j) else ByteArray.empty)).setIfInBounds k (.string (sb 256 (S k))) = ts 66 (fun j => if j < k + 1 then sb 256 (S j) else ByteArray.empty) := by
  rw [ts_set]; apply ts_congr; intro j _
  by_cases e : j = k
  · subst e; simp
  · simp only [e, if_false]; congr 1; apply propext; omega
section
variable {P : Program} {ops : Array Oper} {Q : Exit → Act → World → Prop} {a : Act} {w : World} {rest : List Oper} {o : Oper}
/-- A part of a block, told as a text. -/
theorem wpl_sb (hgd : o.guard = none) (src dst e : TypeId) (x : Operand) (ho : o.op = .convert src dst x) (hs : P.underlying src = some (.slice e)) (he : P.underlying e = some (.int .u8)) (hd : P.underlying dst = some .string)
    (b off n cap : Nat) (arr : Array Value) (T : TypeId) (hx : a.eval x = .slice (some ⟨b, off, none⟩) n cap) (hb : Blk w b arr T) (hn : off + n ≤ arr.size) (f : Nat → UInt8) (hl : arr.extract off (off + n) = tb n f)
    (h : wpList P ops Q rest (a.put o.dst (.string (sb n f))) w) : wpList P ops Q (o :: rest) a w :=
  wpl_string hgd src dst e x ho hs he hd b off n cap arr T hx hb hn ((List.range n).map f) (by rw [hl]; simp [tb, Lib.byteCells]) h
end
set_option maxRecDepth 100000 in
set_option maxHeartbeats 400000 in
theorem image_any (b : Nat) (O : Nat → Prop) (S : Nat → Nat → UInt8) (W : List (Nat × (Nat → UInt8))) (F : Int) (v : Value) (lf : Int) (w : World) (hD : Dev w O b S W F v lf) :
    Calls Tryz.prog 26 #[.pointer (some ⟨b, 0, none⟩)] w fun e w' => e = .returned (.slice (some ⟨w.heap.size, 0, none⟩) 66 66) ∧ Blk w' w.heap.size (ts 66 (fun k => sb 256 (S k))) 9 ∧ Below w.heap.size w w' := by
  have mk := mk66
  have lb := hD.blk.lt
  go_enter Tryz.func26, Tryz.ntmps26
  go_wp2_with fail
  clear mk
  obtain ⟨B, hB⟩ : ∃ B, Hid (B = w.heap.size) := ⟨_, rfl⟩
  have j0 := Blk.new w (ts 66 (fun _ => ByteArray.empty)) 9
  have g0 := (Below.refl w.heap.size w).alloc (Nat.le_refl _) (.cells (ts 66 (fun _ => ByteArray.empty)) 9)
  rw [← hB.out] at j0 g0 lb
  rw [← hB.out]
  go_loopw [10] (fun i wr => ∃ k : Nat, k ≤ 66 ∧ i = .int .i64 k ∧ Blk wr B (ts 66 (fun j => if j < k then sb 256 (S j) else ByteArray.empty)) 9 ∧ Below B w wr) (fun i _ => 66 - (intOf i).toNat)
  case atStart => exact ⟨0, by omega, rfl, by simpa using j0, g0⟩
  case round =>
    clear j0 g0
    obtain ⟨k, hk, rfl, j1, g1⟩ := hrel
    by_cases hlt : k < 66
    · have jb := hD.blk.below g1 lb
      have h1 : (k : Int) < 66 := by omega
      have cc := j1.cell k
      rw [ts_get _ _ _ hlt] at cc
      have fz := fun j => j1.frozen j
      go_wp2_with (refine wpl_sb rfl 87 9 5 _ rfl Tryz.underlying87 Tryz.underlying5 Tryz.underlying9 b (k * 256) 256 _ _ 65 rfl jb (by rw [devA_size]; omega) (S k) (devA_ext _ _ _ _ _ hlt) ?_)
      go_light
      refine ⟨⟨k + 1, by omega, by go_num, ?_, g1.setCell (by exact Nat.le_refl _) _⟩, by simp [intOf]; omega⟩
      have := j1.set k (.string (sb 256 (S k)))
      rw [img_succ] at this
      exact this
    · have hk' : k = 66 := by omega
      subst hk'
      go_wp2_with fail
      go_ret
      obtain rfl : B = w.heap.size := hB.out
      refine ⟨rfl, ?_, g1⟩
      rw [ts_congr 66 (fun k => sb 256 (S k)) (fun j => if j < 66 then sb 256 (S j) else ByteArray.empty) (fun j hj => by rw [if_pos hj])]
      exact j1
/-- A slice of texts reads as ls; nothing of it lies in O. -/
def Texts (w : World) (O : Nat → Prop) (a : Option Addr) (ls : List ByteArray) : Prop :=
  ∀ i x, ls[i]? = some x → ∃ g o, a = some ⟨g, o, none⟩ ∧ g < w.heap.size ∧ ¬ O g ∧ w.cell? ⟨g, o + i, none⟩ = some (.string x)
theorem Texts.chg {w w' : World} {O P : Nat → Prop} {a : Option Addr} {ls : List ByteArray} (h : Texts w O a ls) (hc : Chg w w' P) (hp : ∀ k, k < w.heap.size → P k → O k) : Texts w' O a ls := by
  intro i x hx
  obtain ⟨g, o, h1, h2, h3, h4⟩ := h i x hx
  exact ⟨g, o, h1, Nat.lt_of_lt_of_le h2 hc.size, h3, (World.cell?_of_block (hc.block g h2 (fun hh => h3 (hp g h2 hh)))).trans h4⟩
/-- The blocks, when the first i of them are laid down. -/
def layS (S : Nat → Nat → UInt8) (ls : List ByteArray) (i : Nat) (k : Nat) : Nat → UInt8 := if k < i then bAt (ls.getD k ByteArray.empty) else S k
theorem layS_0 (S : Nat → Nat → UInt8) (ls : List ByteArray) : layS S ls 0 = S := by funext k; simp [layS]
theorem layS_succ (S : Nat → Nat → UInt8) (ls : List ByteArray) (i : Nat) (g : Nat → UInt8) (hg : g = bAt (ls.getD i ByteArray.empty)) : putS (layS S ls i) i g = layS S ls (i + 1) := by
  subst hg
  funext k
  unfold putS layS
  by_cases e : k = i
  · subst e; simp
  · simp only [e, if_false]; congr 1; apply propext; omega
theorem putS_putS (S : Nat → Nat → UInt8) (k : Nat) (g g' : Nat → UInt8) : putS (putS S k g) k g' = putS S k g' := by
  funext i; unfold putS; by_cases h : i = k <;> simp [h]
theorem bAt_empty : bAt ByteArray.empty = fun _ => 0 := by funext j; rfl
attribute [local go_sem] zeroBlk
end Go.Proofs.YtkapkphhceknfaaGreatDoor.Dv
namespace Go.Proofs.YtkapkphhceknfaaGreatDoor.Dv
open Go.RowKit Go.Shelf
theorem below_putObj {B l : Nat} (W : World) (o : Obj) (h : B ≤ l) : Below B W (W.putObj l o) :=
  ⟨rfl, rfl, rfl, by simp [World.putObj], fun k hk => World.putObj_heap_other (by omega)⟩
/-- What an iterator of N things owes, whatever a round does: J i: so many rounds went on; Jx: one said that no more are wanted. -/
def Gives (F : Fence) (n : Nat) (P : Program) (gf : Nat) (rv : Value) (enc : Nat → Array Value) (N : Nat) (I : Nat → World → Prop) : Prop :=
  ∀ (l : Nat) (J : Nat → World → Prop) (Jx : World → Prop) (W : World), (∀ i W, J i W → I i W) →
    (∀ i W1, i < N → J i W1 → YieldAt F (n - 1) P l (enc i) W1 fun e W' => (e = .returned (.bool true) ∧ J (i + 1) W') ∨ (e = .returned (.bool false) ∧ Jx W')) → J 0 W →
    CallsIn F n P gf #[rv, .func (.yield l) #[] #[]] W fun e W' => (∃ v, e = .returned v) ∧ (J N W' ∨ Jx W')
/-- How a round may end. -/
def roundPost (B : Nat) (I : World → Prop) (Ix : World → Prop) (W : World) : Exit → Act → World → Prop
  | .normal, _, W' => KeepsFrom B W W' ∧ I W'
  | .ret, _, W' => KeepsFrom B W W' ∧ Ix W'
  | _, _, _ => False
set_option maxHeartbeats 400000 in
theorem range_bound {F : Fence} {n : Nat} {P : Program} {g : Operand} {ps : Array Tmp} {assign body : Code} {Q : Exit → Act → World → Prop} {a : Act} {w : World} (hro : F.round = none) (h1 : 1 ≤ n) (gf : Nat) (rv : Value)
    (hg : a.eval g = .func (.func gf) #[rv] #[]) (hF : F.fn gf) (eg : ∀ args w, (callFunc gf args).run P w = .ok (.enter gf args) w) (enc : Nat → Array Value) (N : Nat) (hps : ∀ i, (enc i).size = ps.size)
    (I : Nat → World → Prop) (Ix : World → Prop) (hI : ∀ i W W', Below w.heap.size W W' → I i W → I i W') (hIx : ∀ W W', Below w.heap.size W W' → Ix W → Ix W') (h0 : I 0 w) (hit : Gives F (n - 1) P gf rv enc N I)
    (Ax : Nat → Act → World → Prop) (hAx : ∀ i a' W o, W.heap[w.heap.size + 1]? = some (.loop o) → ∀ o', Ax i a' W → Ax i a' (W.putObj (w.heap.size + 1) (.loop o')))
    (hassign : ∀ (i : Nat) (W : World) (K : Act → World → Prop), i < N → I i W → (∀ a' W', Below W.heap.size W W' → Ax i a' W' → K a' W') →
      assign.wpIn (F.inRound (w.heap.size + 1)) (n - 1 - 1) P (Exit.then K (fun _ _ _ => False)) { tmps := (ps.zip (enc i)).foldl (fun t (p, v) => t.setIfInBounds p v) a.tmps, defers := [] } W)
    (hbody : ∀ (i : Nat) (a' : Act) (W : World), i < N → I i W → Ax i a' W → body.wpIn (F.inRound (w.heap.size + 1)) (n - 1 - 1) P (roundPost w.heap.size (I (i + 1)) Ix W) a' W)
    (hdone : ∀ (D : Nat) (W : World), w.heap.size ≤ D → I N W → W.heap[D]? = some (.deferred (some [])) → Q .normal { a with defers := { target := .collected D, args := #[] } :: a.defers } W)
    (hstop : ∀ (D : Nat) (W : World), w.heap.size ≤ D → Ix W → W.heap[D]? = some (.deferred (some [])) → Code.ret.wpIn F n P Q { a with defers := { target := .collected D, args := #[] } :: a.defers } W) :
    (Code.rangeFunc g ps assign body).wpIn F n P Q a w := by
  refine wpIn_rangeFunc fun fn hfn => ?_
  rw [hro]
  generalize hB : w.heap.size = B at *
  obtain ⟨lp, hlp⟩ : ∃ lp : LoopState → Option Code → Loop, lp = fun st pe => { state := st, pending := pe, fn, tmps := a.tmps, params := ps, assign, body, defers := B } := ⟨_, rfl⟩
  have hin := run_enterLoop_outer (P := P) (w := w) fn a.tmps ps assign body
  rw [hB, show ({ state := .ready, pending := none, fn, tmps := a.tmps, params := ps, assign, body, defers := B } : Loop) = lp .ready none from by rw [hlp]] at hin
  obtain ⟨W1, hW1⟩ : ∃ W1, W1 = (w.alloc (.deferred (some []))).alloc (.loop (lp .ready none)) := ⟨_, rfl⟩
  rw [← hW1] at hin
  have hb1 : Below B w W1 := by rw [hW1, ← hB]; exact ((Below.refl _ w).alloc (Nat.le_refl _) _).alloc (by simp) _
  have hl1 : W1.heap[B + 1]? = some (.loop (lp .ready none)) := by
    rw [hW1]; have := World.alloc_heap_new (w.alloc (.deferred (some []))) (.loop (lp .ready none)); rwa [World.size_alloc, hB] at this
  have hk1 : W1.heap[B]? = some (.deferred (some [])) := by
    rw [hW1]; refine (Below.heap_alloc _ _ _ (by simp [hB])).trans ?_; have := World.alloc_heap_new w (.deferred (some [])); rwa [hB] at this
  refine ⟨B + 1, _, W1, { target := .fn (.func gf) #[], args := #[rv, .func (.yield (B + 1)) #[] #[]] }, W1, gf, #[rv, .func (.yield (B + 1)) #[] #[]], W1, hin, ?_, ?_, ?_, fun _ => h1, ?_⟩
  · simp only [resolve, hg]
    simp [go_sem]
  · intro f' hf'; simp [Target.leads] at hf'; subst hf'; exact hF
  · simp [invoke, go_sem, eg]
  refine (hit (B + 1) (fun i W => I i W ∧ W.heap[B + 1]? = some (.loop (lp .ready none)) ∧ W.heap[B]? = some (.deferred (some [])))
    (fun W => Ix W ∧ W.heap[B + 1]? = some (.loop (lp .done (some .ret))) ∧ W.heap[B]? = some (.deferred (some []))) W1 (fun _ _ h => h.1) ?_ ⟨hI 0 _ _ hb1 h0, hl1, hk1⟩).mono ?_
  · rintro i W hi ⟨hiI, hl, hk⟩
    have hy := run_yield (P := P) (args := enc i) hl (by rw [hlp]; exact hps i)
    rw [hlp] at hy
    refine ⟨fn, _, assign, body, hy, roundIn_of_wpIn hfn (hassign i W _ hi hiI ?_)⟩
    intro a' Wa hba hax
    have hlW := (Array.getElem?_eq_some_iff.1 hl).1
    have hla := (hba.block (B + 1) hlW).trans hl
    have hka := (hba.block B (by omega)).trans hk
    have hza : B + 1 < Wa.heap.size := (Array.getElem?_eq_some_iff.1 hla).1
    refine ⟨_, run_beginRound hla (by rw [hlp]), ?_⟩
    obtain ⟨busy, hbusy⟩ : ∃ busy, busy = ({ lp .ready none with state := .busy } : Loop) := ⟨_, rfl⟩
    rw [← hbusy]
    have hl2 : (Wa.putObj (B + 1) (.loop busy)).heap[B + 1]? = some (.loop busy) := World.putObj_heap_same hza
    have hk2 : (Wa.putObj (B + 1) (.loop busy)).heap[B]? = some (.deferred (some [])) := (World.putObj_heap_other (by omega)).trans hka
    refine wpIn_mono (hbody i a' _ hi (hI _ _ _ ((hba.mono (by omega)).trans (below_putObj Wa (.loop busy) (by omega))) hiI) (hAx i a' Wa _ hla _ hax)) ?_
    have fin : ∀ (j : Option Code) (W3 : World), KeepsFrom B (Wa.putObj (B + 1) (.loop busy)) W3 → (Instr.endRound (B + 1) j).run P W3 = .ok (.bool j.isNone) (W3.putObj (B + 1) (.loop (lp (if j.isNone then .ready else .done) j))) ∧
        (W3.putObj (B + 1) (.loop (lp (if j.isNone then .ready else .done) j))).heap[B + 1]? = some (.loop (lp (if j.isNone then .ready else .done) j)) ∧ (W3.putObj (B + 1) (.loop (lp (if j.isNone then .ready else .done) j))).heap[B]? = some (.deferred (some [])) := by
      intro j W3 hk3
      have hl3 := hk3.same _ _ (by omega) hl2 rfl
      have hr := run_endRound (P := P) j hl3
      rw [hbusy, hlp] at hr
      refine ⟨by rw [hlp]; exact hr, World.putObj_heap_same (Array.getElem?_eq_some_iff.1 hl3).1, (World.putObj_heap_other (by omega)).trans (hk3.same _ _ (Nat.le_refl _) hk2 rfl)⟩
    rintro e a3 W3 hp
    cases e with
    | normal =>
      obtain ⟨hr, hl4, hk4⟩ := fin none W3 hp.1
      exact ⟨_, _, hr, .inl ⟨rfl, hI _ _ _ (below_putObj W3 _ (by omega)) hp.2, hl4, hk4⟩⟩
    | ret =>
      obtain ⟨hr, hl4, hk4⟩ := fin (some .ret) W3 hp.1
      exact ⟨_, _, hr, .inr ⟨rfl, hIx _ _ (below_putObj W3 _ (by omega)) hp.2, hl4, hk4⟩⟩
    | exit id => exact hp.elim
    | goto t => exact hp.elim
    | panic ch => exact hp.elim
    | outgrown => exact hp.elim
  · rintro e W2 ⟨⟨v, rfl⟩, (⟨hi, hl, hk⟩ | ⟨hi, hl, hk⟩)⟩
    · have hr := run_endLoop (P := P) hl (by rw [hlp]; simp)
      rw [show (lp .ready none).pending = none from by rw [hlp]] at hr
      exact ⟨none, _, hr, hdone B _ (Nat.le_refl _) (hI _ _ _ (below_putObj W2 _ (by omega)) hi) ((World.putObj_heap_other (by omega)).trans hk)⟩
    · have hr := run_endLoop (P := P) hl (by rw [hlp]; simp)
      rw [show (lp .done (some .ret)).pending = some .ret from by rw [hlp]] at hr
      exact ⟨some .ret, _, hr, hstop B _ (Nat.le_refl _) (hIx _ _ (below_putObj W2 _ (by omega)) hi) ((World.putObj_heap_other (by omega)).trans hk)⟩
section
variable {n : Nat} {F : Fence} {P : Program} {ops : Array Oper} {Q : Exit → Act → World → Prop} {a : Act} {w : World} {rest : List Oper} {o : Oper}
theorem wplIn_run (hF : ∀ f, F.fn f) (hg : o.guard = none) (hnd : ∀ c, o.op ≠ .defer c) (v : Value) (w' : World) (hr : (execOp a.eval o).run P w = .ok (.value v) w') (h : wpListIn F n P ops Q rest (a.put o.dst v) w') : wpListIn F n P ops Q (o :: rest) a w := by
  refine wpListIn_plain hg fun K hK => ⟨fun f _ => hF f, ?_⟩
  rw [Oper.semAt_plain F a.eval o hnd, hr]
  exact hK _ _ h
theorem wplIn_skip (hF : ∀ f, F.fn f) (hg : o.guard = none) (hnd : ∀ c, o.op ≠ .defer c) (hd : o.dst = none) (w' : World) (hr : (execOp a.eval o).run P w = .ok .skip w') (h : wpListIn F n P ops Q rest a w') : wpListIn F n P ops Q (o :: rest) a w := by
  refine wpListIn_plain hg fun K hK => ⟨fun f _ => hF f, ?_⟩
  rw [Oper.semAt_plain F a.eval o hnd, hr, Oper.uponIn_skip, hd]
  exact hK _ _ h
end
end Go.Proofs.YtkapkphhceknfaaGreatDoor.Dv
namespace Go.Proofs.YtkapkphhceknfaaGreatDoor.Dv
open Go.RowKit Go.Shelf
attribute [local go_sem] Oper.semAt_some
/-- The i-th write from the end. -/
def pAt (Wr : List (Nat × (Nat → UInt8))) (i : Nat) : Nat × (Nat → UInt8) := (Wr[Wr.length - 1 - i]?).getD (0, fun _ => 0)
section
variable {P : Program} {a : Act} {w : World} {o : Oper}
theorem run_loadG (t : TypeId) (x : Operand) (ho : o.op = .load t x) (n : Nat) (hag : ∀ w, (isAgg t).run P w = .ok true w) (hi0 : (P.info? t).map (·.size) = some n)
    (b off : Nat) (arr : Array Value) (T : TypeId) (hx : a.eval x = .pointer (some ⟨b, off, none⟩)) (hb : Blk w b arr T) (hn : off + n ≤ arr.size) : (execOp a.eval o).run P w = .ok (.value (.agg (arr.extract off (off + n)))) w := by
  unfold execOp
  simp only [ho, hx, Instr.loadAt, Instr.sureAddr, Sem.run_bind, Sem.run_pure, Result.andThen_ok, loadVarG_run P w t n hag hi0 b off arr T hb hn]
theorem run_storeAt (t : TypeId) (x y : Operand) (ho : o.op = .store t x y) (n : Nat) (hi0 : (P.info? t).map (·.size) = some n)
    (b off : Nat) (arr : Array Value) (T : TypeId) (vs : Array Value) (hx : a.eval x = .pointer (some ⟨b, off, none⟩)) (hy : a.eval y = .agg vs) (hvs : vs.size = n) (h1 : ∀ v ∈ vs.toList, v.oneCell' = true) (hb : Blk w b arr T) (hn : off + n ≤ arr.size) :
    (execOp a.eval o).run P w = .ok .skip (putBlk w b (.cells (foldset arr off vs.toList) T)) := by
  obtain ⟨i, hi, hsize⟩ := Option.map_eq_some_iff.1 hi0
  unfold execOp
  have hl := storeCells_at P w b off hb.lt T vs.toList 0 arr (by simp [hvs]; omega) h1
  rw [putBlk_self hb] at hl
  simp only [ho, hx, hy, Instr.storeAt, Instr.sureAddr, storeVar, sizeOf, typeInfo, hi, hsize, Sem.run_bind, Sem.run_pure, run_program, Result.andThen_ok, Value.cells, hvs, ne_eq, not_true, if_false, hl]
  rfl
theorem run_sb (src dst e : TypeId) (x : Operand) (ho : o.op = .convert src dst x) (hs : P.underlying src = some (.slice e)) (he : P.underlying e = some (.int .u8)) (hd : P.underlying dst = some .string)
    (b off n cap : Nat) (arr : Array Value) (T : TypeId) (hx : a.eval x = .slice (some ⟨b, off, none⟩) n cap) (hb : Blk w b arr T) (hn : off + n ≤ arr.size) (f : Nat → UInt8) (hl : arr.extract off (off + n) = tb n f) :
    (execOp a.eval o).run P w = .ok (.value (.string (sb n f))) w := by
  unfold execOp
  simp only [ho, hx, Sem.run_bind, Sem.run_pure, Result.andThen_ok, run_convert_bytes_string w src dst e _ _ _ hs he hd, bytes_run P w b off n cap arr T hb hn ((List.range n).map f) (by rw [hl]; simp [tb, Lib.byteCells])]
  rfl
end
set_option maxRecDepth 100000 in
set_option maxHeartbeats 1000000 in
theorem back_gives (n b : Nat) (hn : 1 ≤ n) (O : Nat → Prop) (S : Nat → Nat → UInt8) (Wr : List (Nat × (Nat → UInt8))) (Fu : Int) (v : Value) (lf : Int) (I : Nat → World → Prop) (hID : ∀ i W, I i W → Dev W O b S Wr Fu v lf) (hlen : Wr.length ≤ 1000) :
    Gives Fence.wide n Tryz.prog 99 (.pointer (some ⟨b, 0, none⟩)) (fun i => #[.agg (wrC (pAt Wr i)).toArray]) Wr.length I := by
  intro l J Jx W hJI hY h0
  have hD := hID 0 W (hJI 0 W h0)
  obtain ⟨ao, cap, hv, _, _⟩ := hD.form
  subst hv
  have c0 := hD.c0
  refine callsIn_of_wp Tryz.func99 rfl trivial ?_ rfl
  simp only [Tryz.ntmps99, List.size_toArray, List.length_cons, List.length_nil, Nat.reduceAdd, Nat.reduceSub, Array.replicate_succ, Array.replicate_zero, List.push_toArray, List.append_toArray, List.nil_append, List.cons_append]
  gi_wp2
  clear c0
  gi_loopw [4] (fun p wr => ∃ i : Nat, i ≤ Wr.length ∧ p = .int .i64 ((Wr.length : Int) - 1 - i) ∧ J i wr) (fun p _ => (intOf p + 1).toNat)
  case atStart => exact ⟨0, by omega, by simp, h0⟩
  case round =>
    obtain ⟨i, hi, rfl, hJ⟩ := hrel
    by_cases hlt : i < Wr.length
    · obtain ⟨t, ht⟩ : ∃ t : Nat, t = Wr.length - 1 - i := ⟨_, rfl⟩
      have e : (Wr.length : Int) - 1 - i = (t : Int) := by omega
      have htl : t < Wr.length := by omega
      have hD1 := hID i wr (hJI i wr hJ)
      obtain ⟨ao', cap', hv', _, hf⟩ := hD1.form
      obtain ⟨rfl, _, rfl⟩ : ao = ao' ∧ Wr.length = Wr.length ∧ cap = cap' := by injection hv' with a1 a2 a3; exact ⟨a1, a2, a3⟩
      obtain ⟨g, cur, rfl, hg, hcs, hce⟩ := hf t Wr[t] (List.getElem?_eq_getElem htl)
      have hp : Hid (Wr[t] = pAt Wr i) := by unfold Hid pAt; rw [← ht, List.getElem?_eq_getElem htl]; rfl
      rw [hp.out] at hce
      have c1 := hD1.c0
      rw [e]
      obtain ⟨fn, tmps, assign, body, hy, hR⟩ := hY i wr hlt hJ
      generalize pAt Wr i = p at *
      have h0t : (0 : Int) ≤ (t : Int) := by omega
      have h1t : (t : Int) < (Wr.length : Int) := by omega
      clear hp ht
      gi_wp2_with (refine wplIn_run (fun _ => trivial) rfl (fun _ => by simp) (.agg (wrC p).toArray) _ (by rw [← hce]; exact run_loadG 81 _ rfl 257 Tryz.isAgg81 szWr g (t * 257) cur 81 rfl hg hcs) ?_)
      refine hR.mono ?_
      rintro e' W3 (⟨rfl, hJ3⟩ | ⟨rfl, hJx3⟩)
      · gi_wp2
        go_light
        exact ⟨⟨i + 1, by omega, by go_num, hJ3⟩, by simp [intOf]⟩
      · gi_wp2
        refine bodyPost_ret (results_none rfl _ _ _) rfl ?_
        exact ⟨⟨_, rfl⟩, .inr hJx3⟩
    · have hi' : i = Wr.length := by omega
      subst hi'
      rw [show (Wr.length : Int) - 1 - Wr.length = -1 from by omega]
      gi_wp2
      go_end0
      exact ⟨⟨_, rfl⟩, .inl hJ⟩
theorem read_range (b : Nat) (at' : Int) (w : World) (h : ¬ (0 ≤ at' ∧ at' < 66)) :
    Calls Tryz.prog 86 #[.pointer (some ⟨b, 0, none⟩), .int .i64 at'] w fun e w' => e = .returned (.tuple #[.string ByteArray.empty, errI 2]) ∧ Below w.heap.size w w' := by
  have d : decide (0 ≤ at' ∧ at' < 66) = false := decide_eq_false h
  go_enter Tryz.func86, Tryz.ntmps86
  go_wp2_with (go_at_call 83; refine (has_any _ _ _).mono ?_; rintro e w' ⟨rfl, rfl⟩; rw [d])
  exact bodyPost_ret (v := .tuple #[.string ByteArray.empty, errI 2]) (by simp [results, Tryz.results86, go_sem]; rfl) rfl ⟨rfl, (((Below.refl _ _).alloc (Nat.le_refl _) _).alloc (by simp) _).alloc (by simp; omega) _⟩
/-- What a block says: the last write to it, or what is sure. -/
def readF (S : Nat → Nat → UInt8) (Wr : List (Nat × (Nat → UInt8))) (k : Nat) : Nat → UInt8 := Wr.foldl (fun g p => if p.1 = k then p.2 else g) (S k)
theorem readF_snoc (S : Nat → Nat → UInt8) (Wr : List (Nat × (Nat → UInt8))) (p : Nat × (Nat → UInt8)) (k : Nat) : readF S (Wr ++ [p]) k = if p.1 = k then p.2 else readF S Wr k := by simp [readF]
theorem take_pAt (Wr : List (Nat × (Nat → UInt8))) (i : Nat) (h : i < Wr.length) : Wr.take (Wr.length - i) = Wr.take (Wr.length - (i + 1)) ++ [pAt Wr i] := by
  unfold pAt
  rw [show Wr.length - i = Wr.length - 1 - i + 1 from by omega, List.take_add_one, show Wr.length - (i + 1) = Wr.length - 1 - i from by omega, List.getElem?_eq_getElem (by omega)]
  rfl
theorem readF_at {S : Nat → Nat → UInt8} {Wr : List (Nat × (Nat → UInt8))} {k i : Nat} (h : i < Wr.length) : readF S (Wr.take (Wr.length - i)) k = if (pAt Wr i).1 = k then (pAt Wr i).2 else readF S (Wr.take (Wr.length - (i + 1))) k := by
  rw [take_pAt Wr i h, readF_snoc]
theorem blk_putObj {w : World} {c : Nat} {arr : Array Value} {T : TypeId} (h : Blk w c arr T) (D : Nat) (hne : c ≠ D) (o : Obj) : Blk (w.putObj D o) c arr T := by
  unfold Blk at *; rw [World.putObj_heap_other hne]; exact h
set_option maxRecDepth 100000 in
set_option maxHeartbeats 1000000 in
theorem read_ok (b : Nat) (O : Nat → Prop) (S : Nat → Nat → UInt8) (Wr : List (Nat × (Nat → UInt8))) (Fu : Int) (v : Value) (lf : Int) (k : Nat) (w : World) (hD : Dev w O b S Wr Fu v lf) (hk : k < 66) (hlen : Wr.length ≤ 1000) :
    Calls Tryz.prog 86 #[.pointer (some ⟨b, 0, none⟩), .int .i64 (k : Int)] w fun e w' => e = .returned (.tuple #[.string (sb 256 (readF S Wr k)), .nilIface]) ∧ Below w.heap.size w w' := by
  have d : decide (0 ≤ (k : Int) ∧ (k : Int) < 66) = true := decide_eq_true (by omega)
  have lb := hD.blk.lt
  refine (callsIn_wide (n := 10)).1 ?_
  refine callsIn_of_wp_marks Tryz.func86 rfl trivial ?_ rfl
  refine wpIn_wide.2 ?_
  simp only [Tryz.ntmps86, List.size_toArray, List.length_cons, List.length_nil, Nat.reduceAdd, Nat.reduceSub, Array.replicate_succ, Array.replicate_zero, List.push_toArray, List.append_toArray, List.nil_append, List.cons_append]
  go_wp2_with (go_at_call 83; refine (has_any _ _ _).mono ?_; rintro e w' ⟨rfl, rfl⟩; rw [d])
  have j3 := ((Blk.new w #[.int .i64 (k : Int)] 3).alloc (.cells #[.string ⟨#[]⟩] 9)).alloc (.cells #[.nilIface] 36)
  have j4 := (Blk.new' (w.alloc (.cells #[.int .i64 (k : Int)] 3)) #[.string ⟨#[]⟩] 9 (b := w.heap.size + 1) (by simp)).alloc (.cells #[.nilIface] 36)
  have j5 := Blk.new' ((w.alloc (.cells #[.int .i64 (k : Int)] 3)).alloc (.cells #[.string ⟨#[]⟩] 9)) #[.nilIface] 36 (b := w.heap.size + 1 + 1) (by simp)
  have g0 := (((Below.refl w.heap.size w).alloc (Nat.le_refl _) (.cells #[.int .i64 (k : Int)] 3)).alloc (by simp) (.cells #[.string ⟨#[]⟩] 9)).alloc (by simp; omega) (.cells #[.nilIface] 36)
  have hsz : (((w.alloc (.cells #[.int .i64 (k : Int)] 3)).alloc (.cells #[.string ⟨#[]⟩] 9)).alloc (.cells #[.nilIface] 36)).heap.size = w.heap.size + 3 := by simp
  obtain ⟨W0, hW0⟩ : ∃ W0, ((w.alloc (.cells #[.int .i64 (k : Int)] 3)).alloc (.cells #[.string ⟨#[]⟩] 9)).alloc (.cells #[.nilIface] 36) = W0 := ⟨_, rfl⟩
  rw [hW0] at j3 j4 j5 g0 hsz ⊢
  clear hW0
  have stay : ∀ (X Y : World) (c : Nat) (arr : Array Value) (T : TypeId), Below W0.heap.size X Y → c < W0.heap.size → Blk X c arr T → Blk Y c arr T := fun X Y c arr T h hc hb => by unfold Blk at *; rw [h.block c hc]; exact hb
  refine wpIn_wide.1 (range_bound (F := Fence.wide) (n := 10) rfl (by decide) 99 (.pointer (some ⟨b, 0, none⟩)) rfl trivial (enters_of Tryz.func99 (by kernel_rfl) rfl) (fun i => #[.agg (wrC (pAt Wr i)).toArray]) Wr.length (fun _ => rfl)
    (fun i W => readF S Wr k = readF S (Wr.take (Wr.length - i)) k ∧ Below w.heap.size w W ∧ Blk W w.heap.size #[.int .i64 (k : Int)] 3 ∧ Blk W (w.heap.size + 1) #[.string ⟨#[]⟩] 9 ∧ Blk W (w.heap.size + 1 + 1) #[.nilIface] 36)
    (fun W => Below w.heap.size w W ∧ Blk W (w.heap.size + 1) #[.string (sb 256 (readF S Wr k))] 9 ∧ Blk W (w.heap.size + 1 + 1) #[.nilIface] 36)
    (fun i X Y hb h => ⟨h.1, h.2.1.trans (hb.mono (by omega)), stay X Y _ _ _ hb (by omega) h.2.2.1, stay X Y _ _ _ hb (by omega) h.2.2.2.1, stay X Y _ _ _ hb (by omega) h.2.2.2.2⟩)
    (fun X Y hb h => ⟨h.1.trans (hb.mono (by omega)), stay X Y _ _ _ hb (by omega) h.2.1, stay X Y _ _ _ hb (by omega) h.2.2⟩)
    ⟨by simp, g0, j3, j4, j5⟩ (back_gives 9 b (by decide) O S Wr Fu v lf _ (fun i W h => hD.below h.2.1) hlen)
    (fun i a' W => ∃ Bx, Blk W Bx (wrC (pAt Wr i)).toArray 81 ∧ a' = { tmps := #[.pointer (some ⟨b, 0, none⟩), .int .i64 (k : Int), undef, .pointer (some ⟨w.heap.size, 0, none⟩), .pointer (some ⟨w.heap.size + 1, 0, none⟩), .pointer (some ⟨w.heap.size + 1 + 1, 0, none⟩), .pointer (some ⟨Bx, 0, none⟩), .pointer (some ⟨b, 0, none⟩), .int .i64 (k : Int), .bool true, .bool false, undef, .pointer (some ⟨b, 0, none⟩), .func (.func 99) #[.pointer (some ⟨b, 0, none⟩)] #[], .agg (wrC (pAt Wr i)).toArray, undef, undef, undef, undef, undef, undef, undef, undef, undef, undef, undef, undef, undef, undef], defers := [] })
    ?hAx ?assign ?body ?done ?stop)
  case hAx =>
    rintro i a' W o ho o' ⟨Bx, h2, h3⟩
    refine ⟨Bx, ?_, h3⟩
    unfold Blk at *
    rw [World.putObj_heap_other (fun e => by rw [e, ho] at h2; cases h2)]; exact h2
  case assign =>
    rintro i W K hi ⟨_, hbW, _, _, _⟩ hK
    have hzW := hbW.size
    generalize pAt Wr i = p at *
    gi_wp2_with (refine wplIn_skip (fun _ => trivial) rfl (fun _ => by simp) rfl _ (run_storeAt 81 _ _ rfl 257 szWr _ 0 _ 81 (wrC p).toArray rfl rfl (by simp [wrC_len]) (by simpa using wrC_one p) (Blk.new _ _ _) (by rw [Tryz.zeroCells81_size]; omega)) ?_)
    refine hK _ _ (below_put ((Below.refl _ _).alloc (Nat.le_refl _) _) (Nat.le_refl _) _) ⟨W.heap.size, ?_, rfl⟩
    have := putBlk_blk (arr' := foldset Tryz.zeroCells81 0 (wrC p)) (T' := 81) (Blk.new W Tryz.zeroCells81 81)
    rw [foldset_all _ _ (by rw [Tryz.zeroCells81_size, wrC_len])] at this ⊢
    exact this
  case body =>
    rintro i a' W hi ⟨hr, hbW, k3, k4, k5⟩ ⟨Bx, hx, rfl⟩
    have e := readF_at (S := S) (k := k) hi
    have hr' : Hid (readF S Wr k = if (pAt Wr i).1 = k then (pAt Wr i).2 else readF S (Wr.take (Wr.length - (i + 1))) k) := hr.trans e
    clear hr e
    generalize pAt Wr i = p at *
    have c0 : W.cell? ⟨Bx, 0, none⟩ = some (.int .i64 (p.1 : Int)) := by rw [hx.cell]; rfl
    have c3 := k3.cell 0
    have c4 := k4.cell 0
    have c5 := k5.cell 0
    have f4 := k4.frozen 0
    have f5 := k5.frozen 0
    by_cases hpk : p.1 = k
    · have hpe : ((p.1 : Int) == (k : Int)) = true := by simp [hpk]
      gi_wp2_with (refine wplIn_run (fun _ => trivial) rfl (fun _ => by simp) (.string (sb 256 p.2)) _ (run_sb 87 9 5 _ rfl Tryz.underlying87 Tryz.underlying5 Tryz.underlying9 Bx 1 256 256 _ 81 rfl hx (by simp [wrC_len]) p.2 (wr_what p)) ?_)
      have hrd : readF S Wr k = p.2 := by rw [hr'.out, if_pos hpk]
      have m4 := (k4.set 0 (.string (sb 256 p.2))).setOther ⟨w.heap.size + 1 + 1, 0, none⟩ (by simp) .nilIface
      have m5 := (k5.setOther ⟨w.heap.size + 1, 0, none⟩ (by simp) (.string (sb 256 p.2))).set 0 .nilIface
      refine ⟨((KeepsOthers.setCell _ _ _).trans (KeepsOthers.setCell _ _ _)).from _, (hbW.setCell (by simp) _).setCell (by simp; omega) _, ?_, m5⟩
      rw [hrd]; exact m4
    · have hpe : ((p.1 : Int) == (k : Int)) = false := by simp; omega
      gi_wp2
      exact ⟨KeepsFrom.refl _ _, hr'.out.trans (if_neg hpk), hbW, k3, k4, k5⟩
  case done =>
    rintro D W hD' ⟨hr, hbW, k3, k4, k5⟩ hK
    have hrd : Hid (readF S Wr k = S k) := by unfold Hid; rw [hr, Nat.sub_self]; rfl
    clear hr
    have hDW := hD.below hbW
    have hk0 : (0 : Int) ≤ (k : Int) := by omega
    have hk1 : (k : Int) < 66 := by omega
    go_wp2_with fail
    refine wp_region_noPanic ?_
    refine region_s [(0, true), (1, false), (2, true), (3, true), (4, true), (5, true), (6, false)] [] [7, 8] (fun w' => Blk w' w.heap.size #[.int .i64 (k : Int)] 3 ∧ Blk w' b (devA S v (decide (0 ≤ Fu)) lf) 65) mixed (by kernel_rfl) (fun _ _ _ _ _ h => h) ⟨k3.drewN 1, (hDW.drewN 1).blk⟩ ?_
    repeat (refine lead_pure _ rfl _ rfl rfl _ (fun w' => by go_simp; rfl) ?_)
    refine lead_read _ rfl _ rfl rfl (.int .i64 (k : Int)) (fun w' hS => by have c := hS.1.cell 0; go_simp) ?_
    repeat (refine lead_pure _ rfl _ rfl rfl _ (fun w' => by go_simp; rfl) ?_)
    refine lead_read _ rfl _ rfl rfl (.string (sb 256 (S k))) (fun w' hS => run_sb 87 9 5 _ rfl Tryz.underlying87 Tryz.underlying5 Tryz.underlying9 b (k * 256) 256 256 _ 65 rfl hS.2 (by rw [devA_size]; omega) (S k) (devA_ext _ _ _ _ _ hk)) ?_
    refine lead_nil ?_
    refine mid_nil ?_
    simp only [Act.put, List.setIfInBounds_toArray, List.set_cons_succ, List.set_cons_zero, List.filterMap_cons, List.getElem?_toArray, List.getElem?_cons_succ, List.getElem?_cons_zero, List.filterMap_nil]
    have c4 := k4.cell 0
    have c5 := k5.cell 0
    have f4 := k4.frozen 0
    have f5 := k5.frozen 0
    go_wp2_with fail
    refine NoPanic.normal ?_
    go_wp2_with fail
    have m4 := ((k4.drewN 1).set 0 (.string (sb 256 (S k)))).setOther ⟨w.heap.size + 1 + 1, 0, none⟩ (by simp) .nilIface
    have m5 := ((k5.drewN 1).setOther ⟨w.heap.size + 1, 0, none⟩ (by simp) (.string (sb 256 (S k)))).set 0 .nilIface
    have hK' : (((W.setCell ⟨w.heap.size + 1, 0, none⟩ (.string (sb 256 (S k)))).setCell ⟨w.heap.size + 1 + 1, 0, none⟩ .nilIface).drew).heap[D]? = some (.deferred (some [])) :=
      (Below.heap_setCell _ _ _ _ (by simp; omega)).trans ((Below.heap_setCell _ _ _ _ (by simp; omega)).trans hK)
    have hB' : Below w.heap.size w (((W.setCell ⟨w.heap.size + 1, 0, none⟩ (.string (sb 256 (S k)))).setCell ⟨w.heap.size + 1 + 1, 0, none⟩ .nilIface).drew) := below_drewN ((hbW.setCell (by simp) _).setCell (by simp; omega) _) 1
    refine ⟨by simp, .inl ⟨_, _, rfl, run_takeDeferred hK', ?_⟩⟩
    refine ⟨.tuple #[.string (sb 256 (S k)), .nilIface], ?_, by rw [hrd.out], hB'.trans (below_putObj _ _ (by omega))⟩
    have r4 := (blk_putObj (w := ((W.setCell ⟨w.heap.size + 1, 0, none⟩ (.string (sb 256 (S k)))).setCell ⟨w.heap.size + 1 + 1, 0, none⟩ .nilIface).drew) m4 D (by omega) (.deferred none)).cell 0
    have r5 := (blk_putObj (w := ((W.setCell ⟨w.heap.size + 1, 0, none⟩ (.string (sb 256 (S k)))).setCell ⟨w.heap.size + 1 + 1, 0, none⟩ .nilIface).drew) m5 D (by omega) (.deferred none)).cell 0
    simp [results, Tryz.results86, go_sem, r4, r5]
  case stop =>
    rintro D W hD' ⟨hbW, k4, k5⟩ hK
    refine wpIn_wide.2 ?_
    go_wp2_with fail
    refine ⟨by simp, .inl ⟨_, _, rfl, run_takeDeferred hK, ?_⟩⟩
    refine ⟨.tuple #[.string (sb 256 (readF S Wr k)), .nilIface], ?_, rfl, hbW.trans (below_putObj _ _ (by omega))⟩
    have r4 := (blk_putObj k4 D (by omega) (.deferred none)).cell 0
    have r5 := (blk_putObj k5 D (by omega) (.deferred none)).cell 0
    simp [results, Tryz.results86, go_sem, r4, r5]
end Go.Proofs.YtkapkphhceknfaaGreatDoor.Dv
