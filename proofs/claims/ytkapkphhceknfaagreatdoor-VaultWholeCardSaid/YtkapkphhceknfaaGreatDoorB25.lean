/-
  Part of the proof: the writes are gone through backwards; Read of the code is walked.
  Part of the proof: errors.As at an Errno and a place for one, and what the given packages api and plain make of it, are walked.
-/
import Derived.Test.YtkapkphhceknfaaGreatDoorB23
import Derived.Test.YtkapkphhceknfaaGreatDoorB24
import Derived.Deep.RegionHeld3
import Derived.Test.YtkapkphhceknfaaGreatDoorB02
import Derived.LaidEql
import Derived.Stop.Asserts
import Derived.RowKitTokens
namespace Go.Proofs.YtkapkphhceknfaaGreatDoor.Dv
open Go.RowKit Go.Shelf
attribute [local go_sem] Oper.semAt_some
/-- The i-th write from the end. -/
def pAt (Wr : List (Nat × (Nat → UInt8))) (i : Nat) : Nat × (Nat → UInt8) := (Wr[Wr.length - 1 - i]?).getD (0, fun _ => 0)
section
variable {P : Program} {a : Act} {w : World} {o : Oper}
theorem run_loadG (t : TypeId) (x : Operand) (ho : o.op = .load t x) (n : Nat) (hag : ∀ w, (isAgg t).run P w = .ok true w) (hi0 : (P.info? t).map (·.size) = some n)
    (b off : Nat) (arr : Array Value) (T : TypeId) (hx : a.eval x = .pointer (some ⟨b, off, none⟩)) (hb : Blk w b arr T) (hn : off + n ≤ arr.size) : (execOp a.eval o).run P w = .ok (.value (.agg (arr.extract off (off + n)))) w := by
  unfold execOp
  simp only [ho, hx, Instr.loadAt, Instr.sureAddr, Sem.run_bind, Sem.run_pure, Result.andThen_ok, loadVarG_run P w t n hag hi0 b off arr T hb hn]
theorem run_storeAt (t : TypeId) (x y : Operand) (ho : o.op = .store t x y) (n : Nat) (hi0 : (P.info? t).map (·.size) = some n)
    (b off : Nat) (arr : Array Value) (T : TypeId) (vs : Array Value) (hx : a.eval x = .pointer (some ⟨b, off, none⟩)) (hy : a.eval y = .agg vs) (hvs : vs.size = n) (h1 : ∀ v ∈ vs.toList, v.oneCell' = true) (hb : Blk w b arr T) (hn : off + n ≤ arr.size) :
    (execOp a.eval o).run P w = .ok .skip (putBlk w b (.cells (foldset arr off vs.toList) T)) := by
  obtain ⟨i, hi, hsize⟩ := Option.map_eq_some_iff.1 hi0
  unfold execOp
  have hl := storeCells_at P w b off hb.lt T vs.toList 0 arr (by simp [hvs]; omega) h1
  rw [putBlk_self hb] at hl
  simp only [ho, hx, hy, Instr.storeAt, Instr.sureAddr, storeVar, sizeOf, typeInfo, hi, hsize, Sem.run_bind, Sem.run_pure, run_program, Result.andThen_ok, Value.cells, hvs, ne_eq, not_true, if_false, hl]
  rfl
theorem run_sb (src dst e : TypeId) (x : Operand) (ho : o.op = .convert src dst x) (hs : P.underlying src = some (.slice e)) (he : P.underlying e = some (.int .u8)) (hd : P.underlying dst = some .string)
    (b off n cap : Nat) (arr : Array Value) (T : TypeId) (hx : a.eval x = .slice (some ⟨b, off, none⟩) n cap) (hb : Blk w b arr T) (hn : off + n ≤ arr.size) (f : Nat → UInt8) (hl : arr.extract off (off + n) = tb n f) :
    (execOp a.eval o).run P w = .ok (.value (.string (sb n f))) w := by
  unfold execOp
  simp only [ho, hx, Sem.run_bind, Sem.run_pure, Result.andThen_ok, run_convert_bytes_string w src dst e _ _ _ hs he hd, bytes_run P w b off n cap arr T hb hn ((List.range n).map f) (by rw [hl]; simp [tb, Lib.byteCells])]
  rfl
end
set_option maxRecDepth 100000 in
set_option maxHeartbeats 1000000 in
theorem back_gives (n b : Nat) (hn : 1 ≤ n) (O : Nat → Prop) (S : Nat → Nat → UInt8) (Wr : List (Nat × (Nat → UInt8))) (Fu : Int) (v : Value) (lf : Int) (I : Nat → World → Prop) (hID : ∀ i W, I i W → Dev W O b S Wr Fu v lf) (hlen : Wr.length ≤ 1000) :
    Gives Fence.wide n Tryz.prog 99 (.pointer (some ⟨b, 0, none⟩)) (fun i => #[.agg (wrC (pAt Wr i)).toArray]) Wr.length I := by
  intro l J Jx W hJI hY h0
  have hD := hID 0 W (hJI 0 W h0)
  obtain ⟨ao, cap, hv, _, _⟩ := hD.form
  subst hv
  have c0 := hD.c0
  refine callsIn_of_wp Tryz.func99 rfl trivial ?_ rfl
  simp only [Tryz.ntmps99, List.size_toArray, List.length_cons, List.length_nil, Nat.reduceAdd, Nat.reduceSub, Array.replicate_succ, Array.replicate_zero, List.push_toArray, List.append_toArray, List.nil_append, List.cons_append]
  gi_wp2
  clear c0
  gi_loopw [4] (fun p wr => ∃ i : Nat, i ≤ Wr.length ∧ p = .int .i64 ((Wr.length : Int) - 1 - i) ∧ J i wr) (fun p _ => (intOf p + 1).toNat)
  case atStart => exact ⟨0, by omega, by simp, h0⟩
  case round =>
    obtain ⟨i, hi, rfl, hJ⟩ := hrel
    by_cases hlt : i < Wr.length
    · obtain ⟨t, ht⟩ : ∃ t : Nat, t = Wr.length - 1 - i := ⟨_, rfl⟩
      have e : (Wr.length : Int) - 1 - i = (t : Int) := by omega
      have htl : t < Wr.length := by omega
      have hD1 := hID i wr (hJI i wr hJ)
      obtain ⟨ao', cap', hv', _, hf⟩ := hD1.form
      obtain ⟨rfl, _, rfl⟩ : ao = ao' ∧ Wr.length = Wr.length ∧ cap = cap' := by injection hv' with a1 a2 a3; exact ⟨a1, a2, a3⟩
      obtain ⟨g, cur, rfl, hg, hcs, hce⟩ := hf t Wr[t] (List.getElem?_eq_getElem htl)
      have hp : Hid (Wr[t] = pAt Wr i) := by unfold Hid pAt; rw [← ht, List.getElem?_eq_getElem htl]; rfl
      rw [hp.out] at hce
      have c1 := hD1.c0
      rw [e]
      obtain ⟨fn, tmps, assign, body, hy, hR⟩ := hY i wr hlt hJ
      generalize pAt Wr i = p at *
      have h0t : (0 : Int) ≤ (t : Int) := by omega
      have h1t : (t : Int) < (Wr.length : Int) := by omega
      clear hp ht
      gi_wp2_with (refine wplIn_run (fun _ => trivial) rfl (fun _ => by simp) (.agg (wrC p).toArray) _ (by rw [← hce]; exact run_loadG 81 _ rfl 257 Tryz.isAgg81 szWr g (t * 257) cur 81 rfl hg hcs) ?_)
      refine hR.mono ?_
      rintro e' W3 (⟨rfl, hJ3⟩ | ⟨rfl, hJx3⟩)
      · gi_wp2
        go_light
        exact ⟨⟨i + 1, by omega, by go_num, hJ3⟩, by simp [intOf]⟩
      · gi_wp2
        refine bodyPost_ret (results_none rfl _ _ _) rfl ?_
        exact ⟨⟨_, rfl⟩, .inr hJx3⟩
    · have hi' : i = Wr.length := by omega
      subst hi'
      rw [show (Wr.length : Int) - 1 - Wr.length = -1 from by omega]
      gi_wp2
      go_end0
      exact ⟨⟨_, rfl⟩, .inl hJ⟩
theorem read_range (b : Nat) (at' : Int) (w : World) (h : ¬ (0 ≤ at' ∧ at' < 66)) :
    Calls Tryz.prog 86 #[.pointer (some ⟨b, 0, none⟩), .int .i64 at'] w fun e w' => e = .returned (.tuple #[.string ByteArray.empty, errI 2]) ∧ Below w.heap.size w w' := by
  have d : decide (0 ≤ at' ∧ at' < 66) = false := decide_eq_false h
  go_enter Tryz.func86, Tryz.ntmps86
  go_wp2_with (go_at_call 83; refine (has_any _ _ _).mono ?_; rintro e w' ⟨rfl, rfl⟩; rw [d])
  exact bodyPost_ret (v := .tuple #[.string ByteArray.empty, errI 2]) (by simp [results, Tryz.results86, go_sem]; rfl) rfl ⟨rfl, (((Below.refl _ _).alloc (Nat.le_refl _) _).alloc (by simp) _).alloc (by simp; omega) _⟩
/-- What a block says: the last write to it, or what is sure. -/
def readF (S : Nat → Nat → UInt8) (Wr : List (Nat × (Nat → UInt8))) (k : Nat) : Nat → UInt8 := Wr.foldl (fun g p => if p.1 = k then p.2 else g) (S k)
theorem readF_snoc (S : Nat → Nat → UInt8) (Wr : List (Nat × (Nat → UInt8))) (p : Nat × (Nat → UInt8)) (k : Nat) : readF S (Wr ++ [p]) k = if p.1 = k then p.2 else readF S Wr k := by simp [readF]
theorem take_pAt (Wr : List (Nat × (Nat → UInt8))) (i : Nat) (h : i < Wr.length) : Wr.take (Wr.length - i) = Wr.take (Wr.length - (i + 1)) ++ [pAt Wr i] := by
  unfold pAt
  rw [show Wr.length - i = Wr.length - 1 - i + 1 from by omega, List.take_add_one, show Wr.length - (i + 1) = Wr.length - 1 - i from by omega, List.getElem?_eq_getElem (by omega)]
  rfl
theorem readF_at {S : Nat → Nat → UInt8} {Wr : List (Nat × (Nat → UInt8))} {k i : Nat} (h : i < Wr.length) : readF S (Wr.take (Wr.length - i)) k = if (pAt Wr i).1 = k then (pAt Wr i).2 else readF S (Wr.take (Wr.length - (i + 1))) k := by
  rw [take_pAt Wr i h, readF_snoc]
theorem blk_putObj {w : World} {c : Nat} {arr : Array Value} {T : TypeId} (h : Blk w c arr T) (D : Nat) (hne : c ≠ D) (o : Obj) : Blk (w.putObj D o) c arr T := by
  unfold Blk at *; rw [World.putObj_heap_other hne]; exact h
set_option maxRecDepth 100000 in
set_option maxHeartbeats 1000000 in
theorem read_ok (b : Nat) (O : Nat → Prop) (S : Nat → Nat → UInt8) (Wr : List (Nat × (Nat → UInt8))) (Fu : Int) (v : Value) (lf : Int) (k : Nat) (w : World) (hD : Dev w O b S Wr Fu v lf) (hk : k < 66) (hlen : Wr.length ≤ 1000) :
    Calls Tryz.prog 86 #[.pointer (some ⟨b, 0, none⟩), .int .i64 (k : Int)] w fun e w' => e = .returned (.tuple #[.string (sb 256 (readF S Wr k)), .nilIface]) ∧ Below w.heap.size w w' := by
  have d : decide (0 ≤ (k : Int) ∧ (k : Int) < 66) = true := decide_eq_true (by omega)
  have lb := hD.blk.lt
  refine (callsIn_wide (n := 10)).1 ?_
  refine callsIn_of_wp_marks Tryz.func86 rfl trivial ?_ rfl
  refine wpIn_wide.2 ?_
  simp only [Tryz.ntmps86, List.size_toArray, List.length_cons, List.length_nil, Nat.reduceAdd, Nat.reduceSub, Array.replicate_succ, Array.replicate_zero, List.push_toArray, List.append_toArray, List.nil_append, List.cons_append]
  go_wp2_with (go_at_call 83; refine (has_any _ _ _).mono ?_; rintro e w' ⟨rfl, rfl⟩; rw [d])
  have j3 := ((Blk.new w #[.int .i64 (k : Int)] 3).alloc (.cells #[.string ⟨#[]⟩] 9)).alloc (.cells #[.nilIface] 36)
  have j4 := (Blk.new' (w.alloc (.cells #[.int .i64 (k : Int)] 3)) #[.string ⟨#[]⟩] 9 (b := w.heap.size + 1) (by simp)).alloc (.cells #[.nilIface] 36)
  have j5 := Blk.new' ((w.alloc (.cells #[.int .i64 (k : Int)] 3)).alloc (.cells #[.string ⟨#[]⟩] 9)) #[.nilIface] 36 (b := w.heap.size + 1 + 1) (by simp)
  have g0 := (((Below.refl w.heap.size w).alloc (Nat.le_refl _) (.cells #[.int .i64 (k : Int)] 3)).alloc (by simp) (.cells #[.string ⟨#[]⟩] 9)).alloc (by simp; omega) (.cells #[.nilIface] 36)
  have hsz : (((w.alloc (.cells #[.int .i64 (k : Int)] 3)).alloc (.cells #[.string ⟨#[]⟩] 9)).alloc (.cells #[.nilIface] 36)).heap.size = w.heap.size + 3 := by simp
  obtain ⟨W0, hW0⟩ : ∃ W0, ((w.alloc (.cells #[.int .i64 (k : Int)] 3)).alloc (.cells #[.string ⟨#[]⟩] 9)).alloc (.cells #[.nilIface] 36) = W0 := ⟨_, rfl⟩
  rw [hW0] at j3 j4 j5 g0 hsz ⊢
  clear hW0
  have stay : ∀ (X Y : World) (c : Nat) (arr : Array Value) (T : TypeId), Below W0.heap.size X Y → c < W0.heap.size → Blk X c arr T → Blk Y c arr T := fun X Y c arr T h hc hb => by unfold Blk at *; rw [h.block c hc]; exact hb
  refine wpIn_wide.1 (range_bound (F := Fence.wide) (n := 10) rfl (by decide) 99 (.pointer (some ⟨b, 0, none⟩)) rfl trivial (enters_of Tryz.func99 (by kernel_rfl) rfl) (fun i => #[.agg (wrC (pAt Wr i)).toArray]) Wr.length (fun _ => rfl)
    (fun i W => readF S Wr k = readF S (Wr.take (Wr.length - i)) k ∧ Below w.heap.size w W ∧ Blk W w.heap.size #[.int .i64 (k : Int)] 3 ∧ Blk W (w.heap.size + 1) #[.string ⟨#[]⟩] 9 ∧ Blk W (w.heap.size + 1 + 1) #[.nilIface] 36)
    (fun W => Below w.heap.size w W ∧ Blk W (w.heap.size + 1) #[.string (sb 256 (readF S Wr k))] 9 ∧ Blk W (w.heap.size + 1 + 1) #[.nilIface] 36)
    (fun i X Y hb h => ⟨h.1, h.2.1.trans (hb.mono (by omega)), stay X Y _ _ _ hb (by omega) h.2.2.1, stay X Y _ _ _ hb (by omega) h.2.2.2.1, stay X Y _ _ _ hb (by omega) h.2.2.2.2⟩)
    (fun X Y hb h => ⟨h.1.trans (hb.mono (by omega)), stay X Y _ _ _ hb (by omega) h.2.1, stay X Y _ _ _ hb (by omega) h.2.2⟩)
    ⟨by simp, g0, j3, j4, j5⟩ (back_gives 9 b (by decide) O S Wr Fu v lf _ (fun i W h => hD.below h.2.1) hlen)
    (fun i a' W => ∃ Bx, Blk W Bx (wrC (pAt Wr i)).toArray 81 ∧ a' = { tmps := #[.pointer (some ⟨b, 0, none⟩), .int .i64 (k : Int), undef, .pointer (some ⟨w.heap.size, 0, none⟩), .pointer (some ⟨w.heap.size + 1, 0, none⟩), .pointer (some ⟨w.heap.size + 1 + 1, 0, none⟩), .pointer (some ⟨Bx, 0, none⟩), .pointer (some ⟨b, 0, none⟩), .int .i64 (k : Int), .bool true, .bool false, undef, .pointer (some ⟨b, 0, none⟩), .func (.func 99) #[.pointer (some ⟨b, 0, none⟩)] #[], .agg (wrC (pAt Wr i)).toArray, undef, undef, undef, undef, undef, undef, undef, undef, undef, undef, undef, undef, undef, undef], defers := [] })
    ?hAx ?assign ?body ?done ?stop)
  case hAx =>
    rintro i a' W o ho o' ⟨Bx, h2, h3⟩
    refine ⟨Bx, ?_, h3⟩
    unfold Blk at *
    rw [World.putObj_heap_other (fun e => by rw [e, ho] at h2; cases h2)]; exact h2
  case assign =>
    rintro i W K hi ⟨_, hbW, _, _, _⟩ hK
    have hzW := hbW.size
    generalize pAt Wr i = p at *
    gi_wp2_with (refine wplIn_skip (fun _ => trivial) rfl (fun _ => by simp) rfl _ (run_storeAt 81 _ _ rfl 257 szWr _ 0 _ 81 (wrC p).toArray rfl rfl (by simp [wrC_len]) (by simpa using wrC_one p) (Blk.new _ _ _) (by rw [Tryz.zeroCells81_size]; omega)) ?_)
    refine hK _ _ (below_put ((Below.refl _ _).alloc (Nat.le_refl _) _) (Nat.le_refl _) _) ⟨W.heap.size, ?_, rfl⟩
    have := putBlk_blk (arr' := foldset Tryz.zeroCells81 0 (wrC p)) (T' := 81) (Blk.new W Tryz.zeroCells81 81)
    rw [foldset_all _ _ (by rw [Tryz.zeroCells81_size, wrC_len])] at this ⊢
    exact this
  case body =>
    rintro i a' W hi ⟨hr, hbW, k3, k4, k5⟩ ⟨Bx, hx, rfl⟩
    have e := readF_at (S := S) (k := k) hi
    have hr' : Hid (readF S Wr k = if (pAt Wr i).1 = k then (pAt Wr i).2 else readF S (Wr.take (Wr.length - (i + 1))) k) := hr.trans e
    clear hr e
    generalize pAt Wr i = p at *
    have c0 : W.cell? ⟨Bx, 0, none⟩ = some (.int .i64 (p.1 : Int)) := by rw [hx.cell]; rfl
    have c3 := k3.cell 0
    have c4 := k4.cell 0
    have c5 := k5.cell 0
    have f4 := k4.frozen 0
    have f5 := k5.frozen 0
    by_cases hpk : p.1 = k
    · have hpe : ((p.1 : Int) == (k : Int)) = true := by simp [hpk]
      gi_wp2_with (refine wplIn_run (fun _ => trivial) rfl (fun _ => by simp) (.string (sb 256 p.2)) _ (run_sb 87 9 5 _ rfl Tryz.underlying87 Tryz.underlying5 Tryz.underlying9 Bx 1 256 256 _ 81 rfl hx (by simp [wrC_len]) p.2 (wr_what p)) ?_)
      have hrd : readF S Wr k = p.2 := by rw [hr'.out, if_pos hpk]
      have m4 := (k4.set 0 (.string (sb 256 p.2))).setOther ⟨w.heap.size + 1 + 1, 0, none⟩ (by simp) .nilIface
      have m5 := (k5.setOther ⟨w.heap.size + 1, 0, none⟩ (by simp) (.string (sb 256 p.2))).set 0 .nilIface
      refine ⟨((KeepsOthers.setCell _ _ _).trans (KeepsOthers.setCell _ _ _)).from _, (hbW.setCell (by simp) _).setCell (by simp; omega) _, ?_, m5⟩
      rw [hrd]; exact m4
    · have hpe : ((p.1 : Int) == (k : Int)) = false := by simp; omega
      gi_wp2
      exact ⟨KeepsFrom.refl _ _, hr'.out.trans (if_neg hpk), hbW, k3, k4, k5⟩
  case done =>
    rintro D W hD' ⟨hr, hbW, k3, k4, k5⟩ hK
    have hrd : Hid (readF S Wr k = S k) := by unfold Hid; rw [hr, Nat.sub_self]; rfl
    clear hr
    have hDW := hD.below hbW
    have hk0 : (0 : Int) ≤ (k : Int) := by omega
    have hk1 : (k : Int) < 66 := by omega
    go_wp2_with fail
    refine wp_region_noPanic ?_
    refine region_s [(0, true), (1, false), (2, true), (3, true), (4, true), (5, true), (6, false)] [] [7, 8] (fun w' => Blk w' w.heap.size #[.int .i64 (k : Int)] 3 ∧ Blk w' b (devA S v (decide (0 ≤ Fu)) lf) 65) mixed (by kernel_rfl) (fun _ _ _ _ _ h => h) ⟨k3.drewN 1, (hDW.drewN 1).blk⟩ ?_
    repeat (refine lead_pure _ rfl _ rfl rfl _ (fun w' => by go_simp; rfl) ?_)
    refine lead_read _ rfl _ rfl rfl (.int .i64 (k : Int)) (fun w' hS => by have c := hS.1.cell 0; go_simp) ?_
    repeat (refine lead_pure _ rfl _ rfl rfl _ (fun w' => by go_simp; rfl) ?_)
    refine lead_read _ rfl _ rfl rfl (.string (sb 256 (S k))) (fun w' hS => run_sb 87 9 5 _ rfl Tryz.underlying87 Tryz.underlying5 Tryz.underlying9 b (k * 256) 256 256 _ 65 rfl hS.2 (by rw [devA_size]; omega) (S k) (devA_ext _ _ _ _ _ hk)) ?_
    refine lead_nil ?_
    refine mid_nil ?_
    simp only [Act.put, List.setIfInBounds_toArray, List.set_cons_succ, List.set_cons_zero, List.filterMap_cons, List.getElem?_toArray, List.getElem?_cons_succ, List.getElem?_cons_zero, List.filterMap_nil]
    have c4 := k4.cell 0
    have c5 := k5.cell 0
    have f4 := k4.frozen 0
    have f5 := k5.frozen 0
    go_wp2_with fail
    refine NoPanic.normal ?_
    go_wp2_with fail
    have m4 := ((k4.drewN 1).set 0 (.string (sb 256 (S k)))).setOther ⟨w.heap.size + 1 + 1, 0, none⟩ (by simp) .nilIface
    have m5 := ((k5.drewN 1).setOther ⟨w.heap.size + 1, 0, none⟩ (by simp) (.string (sb 256 (S k)))).set 0 .nilIface
    have hK' : (((W.setCell ⟨w.heap.size + 1, 0, none⟩ (.string (sb 256 (S k)))).setCell ⟨w.heap.size + 1 + 1, 0, none⟩ .nilIface).drew).heap[D]? = some (.deferred (some [])) :=
      (Below.heap_setCell _ _ _ _ (by simp; omega)).trans ((Below.heap_setCell _ _ _ _ (by simp; omega)).trans hK)
    have hB' : Below w.heap.size w (((W.setCell ⟨w.heap.size + 1, 0, none⟩ (.string (sb 256 (S k)))).setCell ⟨w.heap.size + 1 + 1, 0, none⟩ .nilIface).drew) := below_drewN ((hbW.setCell (by simp) _).setCell (by simp; omega) _) 1
    refine ⟨by simp, .inl ⟨_, _, rfl, run_takeDeferred hK', ?_⟩⟩
    refine ⟨.tuple #[.string (sb 256 (S k)), .nilIface], ?_, by rw [hrd.out], hB'.trans (below_putObj _ _ (by omega))⟩
    have r4 := (blk_putObj (w := ((W.setCell ⟨w.heap.size + 1, 0, none⟩ (.string (sb 256 (S k)))).setCell ⟨w.heap.size + 1 + 1, 0, none⟩ .nilIface).drew) m4 D (by omega) (.deferred none)).cell 0
    have r5 := (blk_putObj (w := ((W.setCell ⟨w.heap.size + 1, 0, none⟩ (.string (sb 256 (S k)))).setCell ⟨w.heap.size + 1 + 1, 0, none⟩ .nilIface).drew) m5 D (by omega) (.deferred none)).cell 0
    simp [results, Tryz.results86, go_sem, r4, r5]
  case stop =>
    rintro D W hD' ⟨hbW, k4, k5⟩ hK
    refine wpIn_wide.2 ?_
    go_wp2_with fail
    refine ⟨by simp, .inl ⟨_, _, rfl, run_takeDeferred hK, ?_⟩⟩
    refine ⟨.tuple #[.string (sb 256 (readF S Wr k)), .nilIface], ?_, rfl, hbW.trans (below_putObj _ _ (by omega))⟩
    have r4 := (blk_putObj k4 D (by omega) (.deferred none)).cell 0
    have r5 := (blk_putObj k5 D (by omega) (.deferred none)).cell 0
    simp [results, Tryz.results86, go_sem, r4, r5]
end Go.Proofs.YtkapkphhceknfaaGreatDoor.Dv
namespace Go.Proofs.YtkapkphhceknfaaGreatDoor
open Go.RowKit Go.Extern.Stop Go.Stop Go.Extern
/-- The handle of a type. -/
abbrev hnd (t : Nat) : Value := .pointer (some ⟨3, t, none⟩)
theorem r_valueP (t : Addr) (w : World) : (ReflectliteValue.unpack (.iface 79 (.pointer (some t)))).run Tryz.prog w
    = .ok (.agg #[hnd 79, .pointer (some ⟨w.heap.size, 0, none⟩), .int .u64 150]) (w.alloc (.cells #[.pointer (some t)] 79)) := by kernel_rfl
theorem r_valueE (n : Int) (w : World) : (ReflectliteValue.unpack (.iface 41 (.int .i64 n))).run Tryz.prog w
    = .ok (.agg #[hnd 41, .pointer (some ⟨w.heap.size, 0, none⟩), .int .u64 130]) (w.alloc (.cells #[.int .i64 n] 41)) := by kernel_rfl
theorem r_typeP (a : Addr) (w : World) : (ReflectliteValue.methodAny (ReflectliteValue.valueError "reflectlite.Value.Type" 0) (fun t _ _ _ => ReflectliteType.toType t) #[.agg #[hnd 79, .pointer (some a), .int .u64 150]]).run Tryz.prog w
    = .ok (.iface 125 (.agg #[hnd 79])) w := by kernel_rfl
theorem r_mKind (h : Value) (w : World) : (Go.method 321 125 (.agg #[h]) "Kind").run Tryz.prog w = .ok (138, h) w := by kernel_rfl
theorem r_mElem (h : Value) (w : World) : (Go.method 321 125 (.agg #[h]) "Elem").run Tryz.prog w = .ok (148, .agg #[h]) w := by kernel_rfl
theorem r_mImpl (h : Value) (w : World) : (Go.method 321 125 (.agg #[h]) "Implements").run Tryz.prog w = .ok (149, .agg #[h]) w := by kernel_rfl
theorem r_mAssign (h : Value) (w : World) : (Go.method 321 125 (.agg #[h]) "AssignableTo").run Tryz.prog w = .ok (146, .agg #[h]) w := by kernel_rfl
theorem r_kindP (w : World) : ((ReflectliteType.abiMethod fun t => (fun a : Nat => Value.int IntKind.u8 (a : Int)) <$> Rtype.kind t) #[hnd 79]).run Tryz.prog w = .ok (.int .u8 22) w := by kernel_rfl
theorem r_kindE (w : World) : ((ReflectliteType.abiMethod fun t => (fun a : Nat => Value.int IntKind.u8 (a : Int)) <$> Rtype.kind t) #[hnd 41]).run Tryz.prog w = .ok (.int .u8 2) w := by kernel_rfl
theorem r_elemP (w : World) : (ReflectliteType.method ReflectliteType.elem #[.agg #[hnd 79]]).run Tryz.prog w = .ok (.iface 125 (.agg #[hnd 41])) w := by kernel_rfl
theorem r_implE (w : World) : (ReflectliteType.relation "Implements" ReflectliteType.implements_ #[.agg #[hnd 41], .iface 125 (.agg #[hnd 36])]).run Tryz.prog w = .ok (.bool true) w := by kernel_rfl
theorem r_typeOfE (v : Value) (w : World) : (ReflectliteType.typeOf #[.iface 41 v]).run Tryz.prog w = .ok (.iface 125 (.agg #[hnd 41])) w := by kernel_rfl
theorem r_assignE (w : World) : (ReflectliteType.relation "AssignableTo" ReflectliteType.assignableTo #[.agg #[hnd 41], .iface 125 (.agg #[hnd 41])]).run Tryz.prog w = .ok (.bool true) w := by kernel_rfl
theorem r_partsP (a : Addr) (w : World) : (ReflectliteValue.parts (.agg #[hnd 79, .pointer (some a), .int .u64 150])).run Tryz.prog w = .ok (some (79, a, 150)) w := by kernel_rfl
theorem r_partsE (a : Addr) (w : World) : (ReflectliteValue.parts (.agg #[hnd 41, .pointer (some a), .int .u64 130])).run Tryz.prog w = .ok (some (41, a, 130)) w := by kernel_rfl
theorem r_partsA (a : Addr) (w : World) : (ReflectliteValue.parts (.agg #[hnd 41, .pointer (some a), .int .u64 386])).run Tryz.prog w = .ok (some (41, a, 386)) w := by kernel_rfl
theorem r_elemT (w : World) : (Rtype.elem? 79).run Tryz.prog w = .ok (some 41) w := by kernel_rfl
theorem r_mkE (p : Addr) (w : World) : (ReflectliteValue.mk 41 p ReflectliteValue.flagAddr).run Tryz.prog w = .ok (.agg #[hnd 41, .pointer (some p), .int .u64 386]) w := by kernel_rfl
theorem r_directE (w : World) : (Rtype.directlyAssignable 41 41).run Tryz.prog w = .ok true w := by kernel_rfl
theorem r_sizeE (w : World) : (sizeOf 41).run Tryz.prog w = .ok 1 w := by kernel_rfl
end Go.Proofs.YtkapkphhceknfaaGreatDoor
