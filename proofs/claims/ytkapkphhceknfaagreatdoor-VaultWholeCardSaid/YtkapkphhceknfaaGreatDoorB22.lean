/-
  Part of the proof: Write of the code is walked.
-/
import Derived.Test.YtkapkphhceknfaaGreatDoorB21
import Derived.Test.YtkapkphhceknfaaGreatDoorB18
namespace Go.Proofs.YtkapkphhceknfaaGreatDoor.Dv
open Go.RowKit
/-- What is O's, and what is new. -/
def gro (O : Nat → Prop) (w w' : World) (k : Nat) : Prop := O k ∨ (w.heap.size ≤ k ∧ k < w'.heap.size)
abbrev errI (n : Int) : Value := .iface 41 (.int .i64 n)
theorem write_range (b : Nat) (at' : Int) (s : ByteArray) (w : World) (h : ¬ (0 ≤ at' ∧ at' < 66)) :
    Calls Tryz.prog 61 #[.pointer (some ⟨b, 0, none⟩), .int .i64 at', .string s] w fun e w' => e = .returned (errI 2) ∧ w' = w := by
  have d : decide (0 ≤ at' ∧ at' < 66) = false := decide_eq_false h
  go_enter Tryz.func61, Tryz.ntmps61
  go_wp2_with (go_at_call 83; refine (has_any _ _ _).mono ?_; rintro e w' ⟨rfl, rfl⟩; rw [d])
  go_ret
  exact ⟨rfl, rfl⟩
theorem write_limit (b : Nat) (at' : Int) (s : ByteArray) (w : World) (h : 0 ≤ at' ∧ at' < 66) (hs : 256 < s.size) :
    Calls Tryz.prog 61 #[.pointer (some ⟨b, 0, none⟩), .int .i64 at', .string s] w fun e w' => e = .returned (errI 4) ∧ w' = w := by
  have d : decide (0 ≤ at' ∧ at' < 66) = true := decide_eq_true h
  go_enter Tryz.func61, Tryz.ntmps61
  go_wp2_with (go_at_call 83; refine (has_any _ _ _).mono ?_; rintro e w' ⟨rfl, rfl⟩; rw [d])
  go_ret
  exact ⟨rfl, rfl⟩
theorem write_spent (b : Nat) (O : Nat → Prop) (S : Nat → Nat → UInt8) (W : List (Nat × (Nat → UInt8))) (v : Value) (lf : Int) (at' : Int) (s : ByteArray) (w : World) (hD : Dev w O b S W 0 v lf) (h : 0 ≤ at' ∧ at' < 66) (hs : s.size ≤ 256) :
    Calls Tryz.prog 61 #[.pointer (some ⟨b, 0, none⟩), .int .i64 at', .string s] w fun e w' => e = .returned (errI 14) ∧ (∃ l', Dev w' O b S W 0 v l') ∧ Upd w w' b := by
  have d : decide (0 ≤ at' ∧ at' < 66) = true := decide_eq_true h
  go_enter Tryz.func61, Tryz.ntmps61
  go_wp2_with (first | (go_at_call 83; refine (has_any _ _ _).mono ?_; rintro e w' ⟨rfl, rfl⟩; rw [d]) | (go_at_call 84; refine (burn_any _ _ _ _ _ _ _ _ hD).mono ?_; rintro e w1 ⟨rfl, hD1, hu1⟩))
  go_ret
  exact ⟨rfl, hD1, hu1⟩
theorem zip_foldset (vs : List Value) : ∀ (i : Nat) (c : Array Value) (off : Nat), (vs.zipIdx i).foldl (fun cs x => cs.setIfInBounds (off + x.2) x.1) c = foldset c (off + i) vs := by
  induction vs with
  | nil => intro i c off; rfl
  | cons v vs ih =>
    intro i c off
    simp only [List.zipIdx_cons, List.foldl_cons, foldset]
    rw [ih]; rfl
theorem zip_foldsetA (vs : Array Value) (c : Array Value) (off : Nat) : vs.zipIdx.foldl (fun cs x => cs.setIfInBounds (off + x.2) x.1) c = foldset c off vs.toList := by
  rw [← Array.foldl_toList, Array.toList_zipIdx]; exact zip_foldset vs.toList 0 c off
theorem foldset_size (vs : List Value) : ∀ (c : Array Value) (i : Nat), (foldset c i vs).size = c.size := by
  induction vs with
  | nil => intro c i; rfl
  | cons v vs ih => intro c i; simp only [foldset]; rw [ih]; simp
theorem foldset_end (vs : List Value) (c : Array Value) (i : Nat) (h : c.size = i + vs.length) : foldset c i vs = (c.toList.take i ++ vs).toArray := by
  apply Array.toList_inj.1; rw [foldset_toList vs c i h]
theorem build_fold (k : Int) (g : Nat → UInt8) : Array.foldl (fun (cs : Array Value) (x : Value × Nat) => cs.setIfInBounds (1 + x.snd) x.fst) (Tryz.zeroCells81.setIfInBounds 0 (Value.int IntKind.i64 k)) (tb 256 g).zipIdx 0 256 = (.int .i64 k :: (tb 256 g).toList).toArray := by
  have hz := tb_size 256 g
  have := zip_foldsetA (tb 256 g) (Tryz.zeroCells81.setIfInBounds 0 (Value.int IntKind.i64 k)) 1
  rw [Array.size_zipIdx, hz] at this
  rw [this, foldset_end _ _ _ (by rw [Array.size_setIfInBounds, Tryz.zeroCells81_size]; simp [hz])]
  have h2 : (Tryz.zeroCells81.setIfInBounds 0 (Value.int IntKind.i64 k)).toList.take 1 = [.int .i64 k] := by
    rw [List.take_one]
    rw [show (Tryz.zeroCells81.setIfInBounds 0 (Value.int IntKind.i64 k)).toList.head? = (Tryz.zeroCells81.setIfInBounds 0 (Value.int IntKind.i64 k))[0]? from by rw [List.head?_eq_getElem?, Array.getElem?_toList]]
    rw [Array.getElem?_setIfInBounds, if_pos rfl, if_pos (by rw [Tryz.zeroCells81_size]; omega)]
    rfl
  rw [h2]; rfl
theorem fill_one (n : Nat) (c0 cs : Array Value) (h0 : c0.size = n) (hc : cs.size = n) : Instr.fill (fun i => some (i * n, n)) c0 [(0, .agg cs)] = some cs := by
  simp only [Instr.fill, Value.cells, Nat.zero_mul]
  rw [if_neg (by simp [h0, hc])]
  have := zip_foldsetA cs c0 0
  rw [this, foldset_all _ _ (by simp [h0, hc])]
theorem buildSlice_one {P : Program} (t e : TypeId) (n : Nat) (z : Value) (hn : n ≤ 10000) (hn0 : 0 < n) (ht : P.underlying t = some (.slice e)) (hs : ∀ w, (sizeOf e).run P w = .ok n w) (hz : ∀ w, (zeroValue e).run P w = .ok z w) (cs : Array Value) (hc : cs.size = n) (w : World) :
    (Instr.buildSlice t 1 #[(0, .agg cs)]).run P w = .ok (.slice (some ⟨w.heap.size, 0, none⟩) 1 1) (w.alloc (.cells cs e)) := by
  unfold Instr.buildSlice
  simp only [Sem.run_bind, run_underlying ht, Result.andThen_ok, hs, Nat.one_mul]
  rw [if_neg (by omega), if_neg (by omega)]
  simp only [Sem.run_bind, Sem.run_pure, Result.andThen_ok, hz]
  rw [fill_one n _ cs (by simp) hc]
  simp [newRow, Result.andThen]
/-- A slice of one write, under a name of its own (so that a walk does not lay it open). -/
def bsW (parts : Array (Nat × Value)) : Sem Value := Instr.buildSlice 63 1 parts
theorem bsW_eq (parts : Array (Nat × Value)) : Instr.buildSlice 63 1 parts = bsW parts := rfl
theorem bsW_run (k : Int) (g : Nat → UInt8) (w : World) : (bsW #[(0, .agg (.int .i64 k :: (tb 256 g).toList).toArray)]).run Tryz.prog w = .ok (.slice (some ⟨w.heap.size, 0, none⟩) 1 1) (w.alloc (.cells (.int .i64 k :: (tb 256 g).toList).toArray 81)) :=
  buildSlice_one 63 81 257 _ (by decide) (by decide) Tryz.underlying63 Tryz.sizeOf81 Tryz.zeroValue81 _ (by simp [tb_size]) w
attribute [local go_sem ↓] bsW_eq
attribute [local go_sem] bsW_run
theorem mixed : Tryz.prog.follows .mixedOrders = true := by kernel_rfl
theorem infoW : (Tryz.prog.info? 81).map (fun i => (i.zero, i.size, i.bytes)) = some (some (.agg Tryz.zeroCells81), 257, 264) := by kernel_rfl
theorem Dev.drewN {w : World} {O : Nat → Prop} {b : Nat} {S : Nat → Nat → UInt8} {W : List (Nat × (Nat → UInt8))} {F : Int} {v : Value} {lf : Int} (h : Dev w O b S W F v lf) (n : Nat) : Dev (w.drewN n) O b S W F v lf := ⟨h.blk, h.left, h.top, h.row, h.own, h.rown, h.at'⟩
theorem _root_.Go.Proofs.YtkapkphhceknfaaGreatDoor.Blk.grown {w w' : World} {b : Nat} {arr : Array Value} {T : TypeId} {r : Option Nat} (h : Blk w b arr T) (hg : w.grownBy w' r) (hne : some b ≠ r) : Blk w' b arr T := by
  have := h.lt
  unfold Blk at *; rw [hg.block b this hne]; exact h
attribute [local go_sem] tb_size build_fold
set_option maxRecDepth 100000 in
set_option maxHeartbeats 400000 in
theorem write_ok (b : Nat) (O : Nat → Prop) (S : Nat → Nat → UInt8) (W : List (Nat × (Nat → UInt8))) (F : Int) (v : Value) (lf : Int) (k : Nat) (s : ByteArray) (w : World) (hD : Dev w O b S W F v lf) (hF : F ≠ 0) (hk : k < 66) (hs : s.size ≤ 256) (hW : W.length < 1000) :
    Calls Tryz.prog 61 #[.pointer (some ⟨b, 0, none⟩), .int .i64 (k : Int), .string s] w fun e w' => e = .returned .nilIface ∧ (∃ v' l', Dev w' (gro O w w') b S (W ++ [(k, bAt s)]) (burnt F) v' l') ∧ Chg w w' O := by
  have d : decide (0 ≤ (k : Int) ∧ (k : Int) < 66) = true := decide_eq_true (by omega)
  have dF : decide (F ≠ 0) = true := decide_eq_true hF
  go_enter Tryz.func61, Tryz.ntmps61
  go_wp2_with (first | (go_at_call 83; refine (has_any _ _ _).mono ?_; rintro e w' ⟨rfl, rfl⟩; rw [d]) | (go_at_call 84; refine (burn_any _ _ _ _ _ _ _ _ hD).mono ?_; rintro e w1 ⟨rfl, ⟨l1, hD1⟩, hu1⟩; rw [dF]))
  have c0 := hD1.c0
  have lb := hD1.blk.lt
  have fz := fun j => hD1.blk.frozen j
  refine region_s [(0, true), (1, true), (2, true), (3, true), (4, false), (5, true), (6, true)] [7, 8, 9] [10, 11, 12, 13] (fun w' => Dev w' O b S W (burnt F) v l1) mixed (by kernel_rfl) (fun _ _ _ _ _ h => h) (hD1.drewN 1) ?_
  repeat (refine lead_pure _ rfl _ rfl rfl _ (fun w' => by go_simp; rfl) ?_)
  refine lead_read _ rfl _ rfl rfl v (fun w' hS => by have c := hS.c0; go_simp) ?_
  repeat (refine lead_pure _ rfl _ rfl rfl _ (fun w' => by go_simp; rfl) ?_)
  refine lead_nil ?_
  simp only [Act.put, List.setIfInBounds_toArray, List.set_cons_succ, List.set_cons_zero]
  refine mid_cons _ rfl rfl fun K hK => ?_
  go_wp2_with (go_at_call 85; refine (blockOf_any _ _).mono ?_; rintro e w2 ⟨rfl, g2⟩)
  have hD2 := (hD1.drewN 1).below g2
  refine hK _ _ hD2 ?_
  clear hK K
  refine mid_cons _ rfl rfl fun K hK => ?_
  go_wp2_with fail
  refine hK _ _ hD2 ?_
  clear hK K
  refine mid_cons _ rfl rfl fun K hK => ?_
  go_wp2_with fail
  have hD3 := hD2.below ((Below.refl _ _).alloc (Nat.le_refl _) (.cells (wrC (k, bAt s)).toArray 81))
  refine hK _ _ hD3 ?_
  clear hK K
  refine mid_nil ?_
  simp only [List.filterMap_cons, List.getElem?_toArray, List.getElem?_cons_succ, List.getElem?_cons_zero, List.filterMap_nil]
  have z2 : w1.heap.size ≤ w2.heap.size := g2.size
  obtain ⟨i0, hi0, hz0, hz1, hz2⟩ := info_parts infoW
  refine wpList_append_lies _ rfl _ _ _ rfl 0 81 i0 _ 257 264 Tryz.underlying63 hi0 hz0 hz1 hz2 Tryz.zeroCells81_size (by omega) v W.length (wrsC W) rfl hD3.row
          ⟨w2.heap.size, 0, none⟩ 1 1 (wrC (k, bAt s)) rfl (by rw [wrC_len]) (World.news_of_block (cs := (wrC (k, bAt s)).toArray) (t := 81) (fr := (0, 0)) (heap_alloc_new w2 _)) (wrC_one _)
          (by omega) (by unfold maxLen; omega) (by omega) (Nat.zero_le _) (w2.heap.size + 1) (by simp) ?_
  intro g3 cap w3 hown3 hg3 hat3 hlt3
  have hb3 : Blk w3 b (devA S v (decide (0 ≤ burnt F)) l1) 65 := hD3.blk.grown hg3 (fun e => (hD1.rown b e.symm).2 rfl)
  have fz3 := fun j => hb3.frozen j
  have c03 : w3.cell? ⟨b, 16896, none⟩ = some v := by rw [hb3.cell, devA_0]
  clear hz0 hz1 hz2 hi0
  go_wp2_with fail
  go_ret
  have z1 := hu1.size
  have z3 := hg3.size
  simp only [World.size_alloc] at z3
  have gne : g3 ≠ b := by
    rcases hat3 with h | h
    · exact (hD1.rown g3 h).2
    · omega
  refine ⟨rfl, ⟨.slice (some ⟨g3, 0, none⟩) (W.length + 1) cap, l1, ?_⟩, ?_⟩
  · refine ⟨by have := hb3.set 16896 (.slice (some ⟨g3, 0, none⟩) (W.length + 1) cap); rw [devA_set0] at this; exact this, hD1.left, hD1.top, ?_, Or.inl hD1.own, ?_, ?_⟩
    · refine ownsRow_same (w := w3) (by rw [← wrsC_snoc, List.length_append]; exact hown3) (fun g hg => ?_)
      simp only [Value.ownBlock, Option.some.injEq] at hg
      subst hg
      exact Below.heap_setCell _ _ _ _ (by exact gne)
    · intro g hg
      simp only [Value.ownBlock, Option.some.injEq] at hg
      subst hg
      refine ⟨?_, gne⟩
      rcases hat3 with h | h
      · exact Or.inl (hD1.rown g3 h).1
      · exact Or.inr ⟨by omega, by simpa [World.setCell] using hlt3⟩
    · intro p hp
      rcases List.mem_append.1 hp with h | h
      · exact hD1.at' p h
      · simp at h; subst h; exact hk
  · refine Chg.setCell (Chg.grown (((((Chg.refl w' O).upd hu1 (Or.inl hD1.own)).drewN 1).below g2).alloc _) hg3 (fun k' hk' => Or.inl (hD1.rown k' hk').1)) (Or.inl hD1.own) _
end Go.Proofs.YtkapkphhceknfaaGreatDoor.Dv
