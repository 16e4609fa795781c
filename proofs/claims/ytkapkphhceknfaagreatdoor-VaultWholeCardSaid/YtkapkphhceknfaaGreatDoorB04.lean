/-
  Part of the proof: a region that draws its order, with a head that leaves a family of worlds alone.
  Part of the proof of SumTells: the code's Sum answers the plain sum of its text (texts of at most 10000 bytes).
  Part of the proof of SumTells: the two functions that give a number's eight bytes answer the same text.
  Part of the proof of SumTells: the code's Hex answers the plain hex text (texts of at most 10000 bytes).
  Part of the proof of SumTells: the reference's Hex answers the plain hex text (texts of at most 10000 bytes), with the library's number formatting walked.
  Part of the proof of SumTells: the code's Mark answers the plain mark (at most 10 texts of at most 300 bytes).
  Part of the proof of SumTells: the reference's New answers a table of 72 plain words: the eight that a sum starts with and the 64 round numbers.
  Part of the proof of SumTells: the reference's rotation is walked.
-/
import Derived.Test.YtkapkphhceknfaaGreatDoorB01
import Derived.Deep.Quiet
import Derived.StillTail
import Derived.Test.YtkapkphhceknfaaGreatDoorB03
import Derived.Test.YtkapkphhceknfaaGreatDoorB02
namespace Go.Proofs.YtkapkphhceknfaaGreatDoor
open Go.RowKit
section
variable {P : Program} {ops : Array Oper} {C : World → Prop}
/-- The first f operations that come up are of the head, each quiet in the class. -/
def headQ (P : Program) (ops : Array Oper) (C : World → Prop) (n : Nat) (L : Array Bool → Act → Prop) : Nat → Array Bool → Act → Prop
  | 0, listed, a => L listed a
  | f + 1, listed, a => Region.ready .any ops listed ≠ [] ∧ ∀ i ∈ Region.ready .any ops listed, i < n ∧ qOp P ops C i (headQ P ops C n L f (listed.setIfInBounds i true)) a
theorem any_of_headQ {n g : Nat} {L : Array Bool → Act → Prop} {Q : Exit → Act → World → Prop} (hL : ∀ listed a w, C w → L listed a → wpAny P .any ops Q g listed a w) (f : Nat) :
    ∀ (listed : Array Bool) (a : Act) (w : World), C w → headQ P ops C n L f listed a → wpAny P .any ops Q (f + g) listed a w := by
  induction f with
  | zero => intro listed a w hw h; rw [Nat.zero_add]; exact hL _ _ _ hw h
  | succ f ih =>
    intro listed a w hw h
    rw [Nat.succ_add]
    exact ⟨fun h0 => absurd h0 h.1, fun i hi => wpOp_of_qOp hw (fun a' w' hw' h' => ih _ a' w' hw' h') (h.2 i hi).2⟩
/-- What is ready, apart from the others, and quiet may be taken first. -/
theorem headQ_first {n i : Nat} {oi : Oper} {v : Value} {L : Array Bool → Act → Prop} (hi : ops[i]? = some oi) (hsel : ∀ (j : Nat) (o : Oper) cs b, ops[j]? = some o → o.op ≠ .select cs b)
    (hs : Region.sinkB .any ops n = true) (hc : Region.chainB .any ops n = true) (hn : n < ops.size) (hin : i < n) (hdone : ∀ listed a, L listed a → ∀ j ∈ Region.ready .any ops listed, n ≤ j) (f : Nat) :
    ∀ (listed : Array Bool) (a : Act), HeadInv .any ops n listed →
      (∀ j oj, ops[j]? = some oj → j ≠ i → listed.getD j true = false → (∀ e ∈ oj.after, Region.binds .any e = true → e.on ≠ i) → oi.apart ops oj = true) →
      i ∈ Region.ready .any ops listed → YieldsIn P ops C oi v a → headQ P ops C n L f (listed.setIfInBounds i true) (a.put oi.dst v) → headQ P ops C n L (f + 1) listed a := by
  induction f with
  | zero =>
    intro listed a inv _ hr hy H
    refine ⟨List.ne_nil_of_mem hr, fun j hj => ?_⟩
    have hjn : j < n := Nat.lt_of_not_le fun hge => tail_waits hs hc hn inv _ i rfl hin (mem_ready.1 hr).1 j hge hj
    by_cases e : j = i
    · subst e; exact ⟨hjn, hy.qOp hi H⟩
    · exact absurd (hdone _ _ H j (ready_mono hj e)) (by omega)
  | succ f ih =>
    intro listed a inv hfree hr hy H
    have hun := (mem_ready.1 hr).1
    refine ⟨List.ne_nil_of_mem hr, fun j hj => ?_⟩
    have hjn : j < n := Nat.lt_of_not_le fun hge => tail_waits hs hc hn inv _ i rfl hin hun j hge hj
    by_cases e : j = i
    · subst e; exact ⟨hjn, hy.qOp hi H⟩
    · obtain ⟨hjun, oj, hoj, hall⟩ := mem_ready.1 hj
      have hap : oi.apart ops oj = true := hfree j oj hoj e hjun fun x hx hb hxi => by
        have := hall x hx hb; rw [hxi, getD_both hun] at this; cases this
      have h2 := qOp_put hoj hap (fun cs b => hsel i oi cs b hi) (fun cs b => hsel j oj cs b hoj) hy (H.2 j (ready_mono hj e)).2
      refine ⟨hjn, qOp_mono (fun a' h3 => ih _ a' (inv.set hj hjn) (fun k ok hk hki hku hno => hfree k ok hk hki ?_ hno) (ready_mono hr (Ne.symm e)) h3.1 ?_) h2⟩
      · by_cases ejk : j = k
        · subst ejk; exact hjun
        · rw [getD_set_ne true ejk] at hku; exact hku
      · rw [Array.setIfInBounds_comm _ _ e]; exact h3.2
theorem headQ_lex {n g : Nat} {Lq : Act → Prop} (hsel : Region.noSelect ops = true) (hs : Region.sinkB .any ops n = true) (hc : Region.chainB .any ops n = true) (hn : n < ops.size) (l : List Oper) :
    ∀ (k : Nat) (listed : Array Bool) (a : Act), (∀ j, j < l.length → l[j]? = ops[k + j]?) → k + l.length = n → HeadInv .any ops n listed →
    Region.lexHead .any ops g l.length k listed = true → wpQuiet P ops C Lq l a → headQ P ops C n (fun listed' a' => Region.seqB .any ops g n listed' = true ∧ Lq a') l.length listed a := by
  induction l with
  | nil =>
    intro k listed a _ hk _ hB h
    have e : k = n := hk
    subst e; exact ⟨hB, h⟩
  | cons o l ih =>
    intro k listed a hl hk inv hB h
    rw [List.length_cons] at hk
    have h0 : ops[k]? = some o := by simpa using (hl 0 (by simp)).symm
    simp only [List.length_cons, Region.lexHead, Bool.and_eq_true] at hB
    have hr : k ∈ Region.ready .any ops listed := by simpa using hB.1.1
    have hst : qOp P ops C k (wpQuiet P ops C Lq l) a := by unfold qOp; simp only [h0]; exact h
    obtain ⟨v, hy, hK⟩ := yieldsIn_of_qOp h0 hst
    refine headQ_first h0 (Region.noSelect_spec hsel) hs hc hn (by omega) (fun _ _ hL => seqB_ready hL.1) l.length listed a inv (Region.free_spec h0 hB.1.2) hr hy ?_
    exact ih (k + 1) _ _ (fun j hj => by have := hl (j + 1) (by simp; omega); rw [List.getElem?_cons_succ] at this; rw [this]; congr 1; omega) (by omega) (inv.set hr (by omega)) hB.2 hK
/-- A region that draws its order: its first n operations are quiet in a family of worlds, the others come one behind the other. -/
theorem region_qtail {id : Nat} {Q : Exit → Act → World → Prop} {a : Act} {w : World} {l : List Oper} (n : Nat) (C : World → Prop) (hm : P.follows .mixedOrders = true) (hB : Region.lexTailB .any l.toArray n = true) (hC : C w.drew)
    (h : wpQuiet P l.toArray C (fun a' => ∀ w', C w' → wpList P l.toArray Q (l.drop n) a' w') (l.take n) a) : (Code.region id l.toArray true).wp P Q a w := by
  simp only [Region.lexTailB, Bool.and_eq_true, decide_eq_true_eq] at hB
  obtain ⟨⟨⟨⟨hsel, hn⟩, hs⟩, hc⟩, hlex⟩ := hB
  have hnl : n < l.length := by simpa using hn
  have ht : (l.take n).length = n := by rw [List.length_take]; omega
  have hd : (l.drop n).length = l.toArray.size - n := by rw [List.length_drop, List.size_toArray]
  have H := headQ_lex (P := P) (C := C) (g := l.toArray.size - n) hsel hs hc hn (l.take n) 0 (Array.replicate l.toArray.size false) a
    (fun j hj => by rw [ht] at hj; rw [List.getElem?_take, if_pos hj, Nat.zero_add, List.getElem?_toArray]) (by rw [ht, Nat.zero_add])
    ⟨Array.size_replicate, fun j oj _ hl => (by rw [getD_replicate_false] at hl; cases hl), fun t _ htl => getD_in (by rw [Array.size_replicate]; exact htl) (getD_replicate_false _ _)⟩
    (by rw [ht]; exact hlex) h
  refine wp_region_any hm ?_
  have := any_of_headQ (Q := Q) (g := l.toArray.size - n) (fun listed a' w' hw' hL => by
    have := wpAny_of_seq (md := .any) (Q' := Q) (l.drop n) n listed a' w' (fun j => by rw [List.getElem?_drop, List.getElem?_toArray]) (by rw [hd]; exact hL.1) (hL.2 w' hw')
    rwa [hd] at this) _ _ _ _ hC H
  rw [ht, show n + (l.toArray.size - n) = l.toArray.size from by omega] at this
  exact this
end
section
variable {P : Program} {ops : Array Oper} {C : World → Prop} {Q : Act → Prop} {a : Act} {o : Oper} {rest : List Oper}
/-- An operation that yields the same in whatever world. -/
theorem q_pure (hgd : o.guard = none) (v : Value) (hr : ∀ w, (execOp a.eval o).run P w = .ok (.value v) w) (h : wpQuiet P ops C Q rest (a.put o.dst v)) : wpQuiet P ops C Q (o :: rest) a := by
  refine wpQuiet_step fun K hK => ?_
  simp only [Region.wanted, hgd, if_true]
  exact ⟨v, fun w _ => by unfold Oper.quietAt; rw [hr]; exact ⟨rfl, rfl⟩, hK _ h⟩
/-- .. in whatever world of the class. -/
theorem q_read (hgd : o.guard = none) (v : Value) (hr : ∀ w, C w → (execOp a.eval o).run P w = .ok (.value v) w) (h : wpQuiet P ops C Q rest (a.put o.dst v)) : wpQuiet P ops C Q (o :: rest) a := by
  refine wpQuiet_step fun K hK => ?_
  simp only [Region.wanted, hgd, if_true]
  exact ⟨v, fun w hw => by unfold Oper.quietAt; rw [hr w hw]; exact ⟨rfl, rfl⟩, hK _ h⟩
/-- A whole array read out of its block. -/
theorem q_load (hgd : o.guard = none) (t : TypeId) (x : Operand) (ho : o.op = .load t x) (n : Nat) (e : TypeId) (ht : P.underlying t = some (.array n e)) (hi0 : (P.info? t).map (·.size) = some n)
    (b : Nat) (f : Nat → BitVec 32) (T : TypeId) (hx : a.eval x = .pointer (some ⟨b, 0, none⟩)) (hb : ∀ w, C w → Blk w b (tab n f) T)
    (h : wpQuiet P ops C Q rest (a.put o.dst (.agg (tab n f)))) : wpQuiet P ops C Q (o :: rest) a := by
  refine q_read hgd _ (fun w hw => ?_) h
  have hl := loadVar_run P w t n e ht hi0 b 0 (tab n f) T (hb w hw) (by simp [tab_size])
  rw [tab_all _ _ _ rfl] at hl
  simp only [execOp, ho, hx, Instr.loadAt, Instr.sureAddr, Sem.run_bind, Sem.run_pure, Result.andThen_ok, hl]
/-- A call whose callee leaves a world of the class. -/
theorem q_call (hgd : o.guard = none) (f : FuncId) (args : Array Value) (hr : ∀ w, (execOp a.eval o).run P w = .ok (.enter f args) w) (v : Value)
    (hc : ∀ w, C w → Calls P f args w fun e w'' => e = .returned v ∧ C w'') (h : wpQuiet P ops C Q rest (a.put o.dst v)) : wpQuiet P ops C Q (o :: rest) a := by
  refine wpQuiet_step fun K hK => ?_
  simp only [Region.wanted, hgd, if_true]
  exact ⟨v, fun w hw => by unfold Oper.quietAt; rw [hr]; exact ⟨rfl, hc w hw⟩, hK _ h⟩
end
theorem calls_below {P : Program} {f : FuncId} {args : Array Value} {w w0 : World} {v : Value} (hb : Below w0.heap.size w0 w) (h : Calls P f args w fun e w' => e = .returned v ∧ Below w.heap.size w w') :
    Calls P f args w fun e w' => e = .returned v ∧ Below w0.heap.size w0 w' := h.mono fun _ _ ⟨he, hb'⟩ => ⟨he, hb.trans (hb'.mono hb.size)⟩
/-- A region that draws its order, all of it quiet in a family of worlds. -/
theorem region_q {P : Program} {id : Nat} {Q : Exit → Act → World → Prop} {a : Act} {w : World} {l : List Oper} (C : World → Prop) (hm : P.follows .mixedOrders = true) (hB : Region.lexB .any l.toArray = true) (hC : C w.drew)
    (h : wpQuiet P l.toArray C (fun a' => ∀ w', C w' → Q .normal a' w') l a) : (Code.region id l.toArray true).wp P Q a w := wp_region_quiet hm hB hC (by simpa using h)
end Go.Proofs.YtkapkphhceknfaaGreatDoor
namespace Go.Proofs.YtkapkphhceknfaaGreatDoor.Sm
open Go.RowKit
theorem ba_ext {a b : ByteArray} (h : a.data.toList = b.data.toList) : a = b := by
  cases a; cases b; simp at h; subst h; rfl
theorem repeatL_zero (z : Nat) : Lib.repeatL [0] z = List.replicate z 0 := by
  induction z with
  | zero => rfl
  | succ z ih => simp [Lib.repeatL, ih, List.replicate_succ]
theorem c_repeat' (c : Int) (z : Nat) (w : World) (hz : c = (z : Int)) (hc : z ≤ 100) :
    Calls Tryz.prog 95 #[.string ⟨#[0]⟩, .int .i64 c] w fun e w' => ∃ zs : List UInt8, e = .returned (.string ⟨zs.toArray⟩) ∧ Hid (zs = List.replicate z 0) ∧ zs.length ≤ 100 ∧ Below w.heap.size w w' := by
  subst hz
  refine (c_repeat ⟨#[0]⟩ z w (by omega) (by show 1 * z ≤ _; omega)).mono ?_
  rintro e w' ⟨rfl, h⟩
  exact ⟨_, rfl, repeatL_zero z, by show (Lib.repeatL [0] z).length ≤ 100; rw [repeatL_zero]; simp; exact hc, h⟩
theorem c_wide (c : Int) (N : Nat) (w : World) (hN : c = (N : Int)) :
    Calls Tryz.prog 75 #[.int .u64 c] w fun e w' => e = .returned (.string (sb 8 (numB N))) ∧ Below w.heap.size w w' := by
  subst hN; exact wide_any N w
/-- What is laid behind a text of n bytes. -/
def padL (n : Nat) : List UInt8 := 128 :: (List.replicate ((119 - n % 64) % 64) 0 ++ (List.range 8).map (numB (8 * n)))
set_option maxRecDepth 100000 in
set_option maxHeartbeats 400000 in
theorem pad_any (n : Nat) (w : World) (hn : n < 100000) :
    Calls Tryz.prog 81 #[.int .i64 (n : Int)] w fun e w' => e = .returned (.string ⟨(padL n).toArray⟩) ∧ Below w.heap.size w w' := by
  go_enter Tryz.func81, Tryz.ntmps81
  go_wp2_with fail
  refine (c_repeat' _ ((119 - n % 64) % 64) _ (by omega) (by omega)).mono ?_
  rintro e w1 ⟨zs, rfl, hzs, hlen, h1⟩
  go_wp2_with fail
  refine (c_wide _ (8 * n) _ (by omega)).mono ?_
  rintro e w2 ⟨rfl, h2⟩
  have hs8 := sb_size 8 (numB (8 * n))
  go_wp2_with fail
  go_ret
  refine ⟨?_, h1.trans (h2.mono h1.size)⟩
  refine congrArg (fun x => Ending.returned (Value.string x)) (ba_ext ?_)
  simp [padL, sb, hzs.out]
/-- The state that a sum begins with. -/
def hF (j : Nat) : BitVec 32 := BitVec.ofNat 32 ([1779033703, 3144134277, 1013904242, 2773480762, 1359893119, 2600822924, 528734635, 1541459225].getD j 0)
/-- A text's sum, as the code reckons it. -/
def sumS (s : ByteArray) : ByteArray :=
  let g := chunks hF (s.extract 0 (s.size - s.size % 64)) ((s.size - s.size % 64) / 64)
  let t := s.extract (s.size - s.size % 64) s.size ++ ⟨(padL s.size).toArray⟩
  sb 32 (stB (chunks g t ((s.size - (s.size - s.size % 64) + (padL s.size).length) / 64)))
set_option maxRecDepth 100000 in
set_option maxHeartbeats 1000000 in
theorem sum_any (s : ByteArray) (w : World) (hs : s.size ≤ 10000) (hK : KB w) :
    Calls Tryz.prog 57 #[.string s] w fun e w' => e = .returned (.string (sumS s)) ∧ Below w.heap.size w w' := by
  obtain ⟨m, em⟩ : ∃ m, Hid (m = s.size - s.size % 64) := ⟨_, rfl⟩
  have hm : (s.size : Int) - (s.size : Int) % 64 = (m : Int) := by rw [em.out]; omega
  have lm : m ≤ s.size := by rw [em.out]; omega
  go_enter Tryz.func57, Tryz.ntmps57
  go_wp2_with fail
  have hb : Blk (w.alloc (.cells #[Value.int .u32 1779033703, Value.int .u32 3144134277, Value.int .u32 1013904242, Value.int .u32 2773480762, Value.int .u32 1359893119, Value.int .u32 2600822924, Value.int .u32 528734635, Value.int .u32 1541459225] 156)) w.heap.size (tab 8 hF) 156 := Blk.new w (tab 8 hF) 156
  have hbel := (Below.refl w.heap.size w).alloc (Nat.le_refl _) (.cells #[Value.int .u32 1779033703, Value.int .u32 3144134277, Value.int .u32 1013904242, Value.int .u32 2773480762, Value.int .u32 1359893119, Value.int .u32 2600822924, Value.int .u32 528734635, Value.int .u32 1541459225] 156)
  generalize w.alloc _ = w1 at *
  refine region_tail 4 mixed (by kernel_rfl) ?_
  simp only [List.take_succ_cons, List.take_zero, List.drop_succ_cons, List.drop_zero]
  repeat (first | (refine still_load rfl 156 _ rfl 8 155 Tryz.underlying156 sz31 _ _ _ rfl (Blk.drew hb) ?_) | (refine wpStill_step (fun K hK => ?_); go_simp; (try go_bits); refine hK _ ?_; clear hK K))
  refine wpStill_nil ?_
  go_wp2_with fail
  refine (stirAll_any _ _ _ (by simp; omega) (KB.below hK (Below.drew hbel))).mono ?_
  rintro e w2 ⟨rfl, h2⟩
  have hd : w1.drew.heap.size = w1.heap.size := rfl
  have l1 := hb.lt
  have m1 := Blk.below (Blk.drew hb) h2 (by omega)
  have m2 := (Below.drew hbel).trans (h2.mono (by omega))
  clear h2 hd hb hbel
  go_wp2_with (first | (refine wpl_store_u rfl rfl 156 _ _ rfl 8 sz31 _ _ _ _ rfl rfl m1 rfl ?_; intro w3 hu3 j5) | fail)
  have j6 := below_upd m2 hu3 (Nat.le_refl _)
  clear m1 m2 hu3 l1
  obtain ⟨g, HG⟩ : ∃ g, Hid (g = chunks hF (s.extract 0 m) (m / 64)) := ⟨_, rfl⟩
  rw [← HG.out] at j5
  rw [← HG.out]
  have l5 := j5.lt
  have hpl : (padL s.size).length ≤ 100 := by simp [padL]; omega
  have hcat : ¬ (9223372036854775807 < s.size - m + (padL s.size).length) := by omega
  refine region_qtail 8 (Below w3.heap.size w3) mixed (by kernel_rfl) ((Below.refl _ _).drew) ?_
  simp only [List.take_succ_cons, List.take_zero, List.drop_succ_cons, List.drop_zero]
  refine q_load rfl 156 _ rfl 8 155 Tryz.underlying156 sz31 _ _ _ rfl (fun w' h' => Blk.below j5 h' l5) ?_
  repeat (refine q_pure rfl _ (fun w' => by go_simp; rfl) ?_)
  refine q_call rfl 81 #[.int .i64 (s.size : Int)] (fun w' => by go_simp) _ (fun w' h' => calls_below h' (pad_any s.size w' (by omega))) ?_
  repeat (refine q_pure rfl _ (fun w' => by go_simp; rfl) ?_)
  refine wpQuiet_nil ?_
  intro w4 h4
  simp only [Act.put]
  go_wp2_with fail
  have hps : (⟨(padL s.size).toArray⟩ : ByteArray).size = (padL s.size).length := rfl
  refine (stirAll_any g _ _ (by simp; omega) (KB.below (KB.below hK j6) h4)).mono ?_
  rintro e w5 ⟨rfl, h5⟩
  have n1 := Blk.below (Blk.below j5 h4 l5) h5 (by have := h4.size; omega)
  have n2 := (j6.trans (h4.mono j6.size)).trans (h5.mono (by have := h4.size; have := j6.size; omega))
  clear j5 h4 h5 j6
  go_wp2_with (first
    | (refine wpl_store_u rfl rfl 156 _ _ rfl 8 sz31 _ _ _ _ rfl rfl n1 rfl ?_; intro w6 hu6 n3)
    | (refine wpl_load rfl 156 _ rfl 8 155 Tryz.underlying156 sz31 _ _ _ _ rfl n3 (by simp [tab_size]) ?_; rw [tab_all _ _ _ (Nat.zero_add _)])
    | (go_at_call 82; refine (stText_any _ _).mono ?_; rintro e w7 ⟨rfl, h7⟩))
  have n4 := below_upd n2 hu6 (Nat.le_refl _)
  go_ret
  refine ⟨?_, n4.trans (h7.mono n4.size)⟩
  rw [HG.out, em.out]
  rfl
end Go.Proofs.YtkapkphhceknfaaGreatDoor.Sm
namespace Go.Proofs.YtkapkphhceknfaaGreatDoor.Sm
open Go.RowKit
/-- A number's eight bytes. -/
def numN (n : Int) : Nat := (n % 18446744073709551616).toNat
theorem u64_wrap (n : Int) : IntKind.u64.wrap n = (numN n : Int) := by
  simp [IntKind.wrap, IntKind.bits, IntKind.signed, numN]; omega
theorem numN_lt (n : Int) : numN n < 18446744073709551616 := by unfold numN; omega
set_option maxHeartbeats 400000 in
theorem num_any (n : Int) (w : World) : Calls Tryz.prog 54 #[.int .i64 n] w fun e w' => e = .returned (.string (sb 8 (numB (numN n)))) ∧ Below w.heap.size w w' := by
  have hu := u64_wrap n
  go_enter Tryz.func54, Tryz.ntmps54
  go_wp2_with fail
  refine (c_wide _ (numN n) _ (by omega)).mono ?_
  rintro e w1 ⟨rfl, h1⟩
  go_wp2
  go_ret
  exact ⟨rfl, h1⟩
/-- The last k bytes of a number. -/
def lastB (N k : Nat) : ByteArray := ⟨((List.range k).map fun i => numB N (8 - k + i)).toArray⟩
end Go.Proofs.YtkapkphhceknfaaGreatDoor.Sm
namespace Go.Proofs.YtkapkphhceknfaaGreatDoor.Sm
open Go.RowKit
/-- A digit of sixteen. -/
def hd (n : Nat) : UInt8 := ([48, 49, 50, 51, 52, 53, 54, 55, 56, 57, 97, 98, 99, 100, 101, 102] : List UInt8).getD n 0
/-- Two digits a byte. -/
def hexL (l : List UInt8) : List UInt8 := l.flatMap fun b => [hd (b.toNat / 16), hd (b.toNat % 16)]
theorem hexL_length (l : List UInt8) : (hexL l).length = 2 * l.length := by
  induction l with
  | nil => rfl
  | cons b l ih => simp [hexL] at ih ⊢; omega
theorem take_snoc (s : ByteArray) (k : Nat) (h : k < s.size) : s.data.toList.take (k + 1) = s.data.toList.take k ++ [s[k]] := by
  rw [List.take_succ_eq_append_getElem (by simpa using h)]; rfl
theorem hexL_snoc (l : List UInt8) (b : UInt8) : hexL (l ++ [b]) = hexL l ++ [hd (b.toNat / 16)] ++ [hd (b.toNat % 16)] := by simp [hexL]
theorem byteCells_snoc (l : List UInt8) (b : UInt8) : Lib.byteCells (l ++ [b]) = Lib.byteCells l ++ [.int .u8 (b.toNat : Int)] := by simp [Lib.byteCells]
theorem dig16 (i : Nat) (h : i < (⟨#[48, 49, 50, 51, 52, 53, 54, 55, 56, 57, 97, 98, 99, 100, 101, 102]⟩ : ByteArray).size) : (⟨#[48, 49, 50, 51, 52, 53, 54, 55, 56, 57, 97, 98, 99, 100, 101, 102]⟩ : ByteArray)[i] = hd i := by
  have h' : i < 16 := h
  have : ∀ j : Fin 16, (⟨#[48, 49, 50, 51, 52, 53, 54, 55, 56, 57, 97, 98, 99, 100, 101, 102]⟩ : ByteArray)[j.1]'(j.2) = hd j.1 := by decide
  exact this ⟨i, h'⟩
end Go.Proofs.YtkapkphhceknfaaGreatDoor.Sm
namespace Go.Proofs.YtkapkphhceknfaaGreatDoor.Sm
open Go.RowKit
theorem dig36 (i : Nat) (h : i < (⟨#[48, 49, 50, 51, 52, 53, 54, 55, 56, 57, 97, 98, 99, 100, 101, 102, 103, 104, 105, 106, 107, 108, 109, 110, 111, 112, 113, 114, 115, 116, 117, 118, 119, 120, 121, 122]⟩ : ByteArray).size) (h16 : i < 16) :
    (⟨#[48, 49, 50, 51, 52, 53, 54, 55, 56, 57, 97, 98, 99, 100, 101, 102, 103, 104, 105, 106, 107, 108, 109, 110, 111, 112, 113, 114, 115, 116, 117, 118, 119, 120, 121, 122]⟩ : ByteArray)[i] = hd i := by
  have : ∀ j : Fin 16, (⟨#[48, 49, 50, 51, 52, 53, 54, 55, 56, 57, 97, 98, 99, 100, 101, 102, 103, 104, 105, 106, 107, 108, 109, 110, 111, 112, 113, 114, 115, 116, 117, 118, 119, 120, 121, 122]⟩ : ByteArray)[j.1]'(Nat.lt_of_lt_of_le j.2 (by decide)) = hd j.1 := by decide
  exact this ⟨i, h16⟩
/-- What formatBits has written behind st digits. -/
def fbA (x st j : Nat) : UInt8 := if j = 64 then (if 1 ≤ st then hd (x % 16) else 0) else if j = 63 then (if 2 ≤ st then hd (x / 16) else 0) else if j = 62 then (if 3 ≤ st then 49 else 0) else 0
theorem fbA_end (x : Nat) : (tb 65 (fbA x 3)).extract 62 (62 + 3) = (Lib.byteCells [49, hd (x / 16), hd (x % 16)]).toArray := by
  apply Array.toList_inj.1
  simp only [tb, Array.toList_extract, List.extract_eq_take_drop, ← List.map_drop, ← List.map_take]
  rfl
theorem zeroValue_run {P : Program} (t : TypeId) (v : Value) (h : (P.info? t).map (·.zero) = some (some v)) (w : World) : (zeroValue t).run P w = .ok v w := by
  obtain ⟨i, hi, hz⟩ := Option.map_eq_some_iff.1 h
  simp only [zeroValue, typeInfo, Sem.run_bind, run_program, Result.andThen_ok, hi, Sem.run_pure, hz]
end Go.Proofs.YtkapkphhceknfaaGreatDoor.Sm
namespace Go.Proofs.YtkapkphhceknfaaGreatDoor.Sm
open Go.RowKit
/-- The texts that a slice holds. -/
structure Parts (w : World) (a : Option Addr) (n : Nat) (ss : List ByteArray) : Prop where
  len : ss.length = n
  at' : ∀ j, j < n → ∃ b off p, a = some ⟨b, off, none⟩ ∧ b < w.heap.size ∧ w.cell? ⟨b, off + j, none⟩ = some (.string p) ∧ Hid (ss[j]? = some p)
theorem Parts.below {w w' : World} {a : Option Addr} {n : Nat} {ss : List ByteArray} (h : Parts w a n ss) (hb : Below w.heap.size w w') : Parts w' a n ss :=
  ⟨h.len, fun j hj => by
    obtain ⟨b, off, p, e, hl, hc, hs⟩ := h.at' j hj
    exact ⟨b, off, p, e, Nat.lt_of_lt_of_le hl hb.size, by rw [hb.cell hl]; exact hc, hs⟩⟩
def markPart (p : ByteArray) : List UInt8 := (List.range 8).map (numB p.size) ++ p.data.toList
/-- The text whose sum is a mark. -/
def markTo (kb : UInt8) (ss : List ByteArray) (k : Nat) : List UInt8 := kb :: (ss.take k).flatMap markPart
theorem markTo_succ (kb : UInt8) (ss : List ByteArray) (k : Nat) (p : ByteArray) (h : ss[k]? = some p) : markTo kb ss (k + 1) = markTo kb ss k ++ (List.range 8).map (numB p.size) ++ p.data.toList := by
  unfold markTo
  rw [List.take_add_one, h]
  simp [markPart]
theorem markTo_length (kb : UInt8) (ss : List ByteArray) (hs : ∀ p ∈ ss, p.size ≤ 300) (k : Nat) : (markTo kb ss k).length ≤ 1 + 308 * k := by
  unfold markTo
  have : ∀ (l : List ByteArray), (∀ p ∈ l, p.size ≤ 300) → (l.flatMap markPart).length ≤ 308 * l.length := by
    intro l
    induction l with
    | nil => intro _; simp
    | cons p l ih =>
      intro hl
      have h1 := ih fun q hq => hl q (by simp [hq])
      have h2 := hl p (by simp)
      have h3 : p.data.toList.length = p.size := by simp
      simp only [List.flatMap_cons, List.length_append, markPart, List.length_map, List.length_range, List.length_cons]
      omega
  have h1 := this (ss.take k) fun p hp => hs p (List.mem_of_mem_take hp)
  have h2 : (ss.take k).length ≤ k := List.length_take_le _ _
  simp only [List.length_cons]
  omega
theorem builder_below {T e : TypeId} {B b : Nat} {p : Value} {bs : List Value} {w w' : World} (h : Lib.BuilderAt T e B b p bs w) (hb : Below w.heap.size w w') : Lib.BuilderAt T e B b p bs w' := by
  obtain ⟨hB, v, hbk, hown, hne⟩ := h
  have lt : ∀ {k : Nat} {o : Obj}, w.heap[k]? = some o → k < w.heap.size := fun {k o} hk => by
    rcases Nat.lt_or_ge k w.heap.size with h' | h'
    · exact h'
    · simp [Array.getElem?_eq_none h'] at hk
  refine ⟨hB, v, by rw [hb.block _ (lt hbk)]; exact hbk, ?_, hne⟩
  obtain ⟨h1, h2⟩ := hown
  refine ⟨h1, ?_⟩
  rcases h2 with h2 | ⟨g, cap, cur, hv, hg, hh, r⟩
  · exact Or.inl h2
  · exact Or.inr ⟨g, cap, cur, hv, hg, by rw [hb.block _ (lt hh)]; exact hh, r⟩
theorem numN_nat (n : Nat) (h : n < 18446744073709551616) : numN (n : Int) = n := by unfold numN; omega
set_option maxRecDepth 100000 in
set_option maxHeartbeats 1000000 in
theorem mark_any (kb : UInt8) (a : Option Addr) (n cap : Nat) (ss : List ByteArray) (w : World) (hp : Parts w a n ss) (hn : n ≤ 10) (hs : ∀ p ∈ ss, p.size ≤ 300) (hK : KB w) :
    Calls Tryz.prog 56 #[.int .u8 (kb.toNat : Int), .slice a n cap] w fun e w' => e = .returned (.string ((sumS ⟨(markTo kb ss n).toArray⟩).extract 0 16)) ∧ Below w.heap.size w w' := by
  go_enter Tryz.func56, Tryz.ntmps56
  go_wp2_with fail
  go_loop [5, 13] (fun z i => ∃ k q : Nat, k ≤ n ∧ i = .int .i64 k ∧ z = .int .i64 (q : Int) ∧ q ≤ 1 + 308 * k) (fun _ i => n - (intOf i).toNat)
  case atStart => exact ⟨0, 1, by omega, rfl, rfl, by omega⟩
  case round =>
    obtain ⟨k, q, hk, rfl, rfl, hq⟩ := hrel
    by_cases hlt : k < n
    · obtain ⟨b, off, p, rfl, hbl, hc, hsp⟩ := hp.at' k hlt
      have hz : p.size ≤ 300 := hs p (List.mem_of_getElem? hsp.out)
      go_wp2
      go_round
      case rel => exact ⟨k + 1, q + (8 + p.size), by omega, by go_num, by go_num, by omega⟩
      case measure => simp [intOf]; omega
    · have hk' : k = n := by omega
      subst hk'
      go_wp2_with fail
      refine (c_grow w.heap.size w.heap.size q _ (Nat.le_refl _) (Blk.new w _ 150) (by simp) (by omega)).mono ?_
      rintro e w1 ⟨rfl, hB, h1⟩
      have hbel := ((Below.refl w.heap.size w).alloc (Nat.le_refl _) (.cells #[.pointer none, .slice none 0 0] 150)).trans h1
      clear h1
      go_wp2_with fail
      refine (c_writeByte w.heap.size w.heap.size _ _ _ (Or.inr hB) (by simp) hbel.size).mono ?_
      rintro e w2 ⟨rfl, hB2, h2⟩
      have hbel2 := hbel.trans h2
      clear hB hbel h2
      go_wp2_with fail
      go_loopw [29] (fun i wr => ∃ j : Nat, j ≤ k ∧ i = .int .i64 j ∧ Lib.BuilderAt 150 5 w.heap.size w.heap.size (.pointer (some ⟨w.heap.size, 0, none⟩)) (Lib.byteCells (markTo kb ss j)) wr ∧ Below w.heap.size w wr) (fun i _ => k - (intOf i).toNat)
      case atStart => exact ⟨0, by omega, rfl, by simpa [markTo, Lib.byteCells] using hB2, hbel2⟩
      case round =>
        obtain ⟨j, hj, rfl, hBr, hbr⟩ := hrel
        by_cases hltj : j < k
        · obtain ⟨b, off, p, rfl, hbl, hc, hsp⟩ := hp.at' j hltj
          have hz : p.size ≤ 300 := hs p (List.mem_of_getElem? hsp.out)
          have hc' : wr.cell? ⟨b, off + j, none⟩ = some (.string p) := by rw [hbr.cell hbl]; exact hc
          have hml := markTo_length kb ss hs j
          have hbc : (Lib.byteCells (markTo kb ss j)).length = (markTo kb ss j).length := by simp [Lib.byteCells]
          have HL : Hid ((Lib.byteCells (markTo kb ss j)).length ≤ 4000) := by rw [Hid, hbc]; omega
          clear hc hml hbc
          go_wp2_with fail
          refine (num_any _ _).mono ?_
          rintro e w3 ⟨rfl, h3⟩
          rw [numN_nat _ (by omega)]
          have hB3 := builder_below hBr h3
          have hbr3 := hbr.trans (h3.mono hbr.size)
          have hc3 : w3.cell? ⟨b, off + j, none⟩ = some (.string p) := by rw [hbr3.cell hbl, ← hbr.cell hbl]; exact hc'
          go_wp2_with fail
          refine (c_writeString w.heap.size w.heap.size _ _ _ (Or.inr hB3) (by have := HL.out; rw [sb_size]; omega) hbr3.size).mono ?_
          rintro e w4 ⟨rfl, hB4, h4⟩
          have hbr4 := hbr3.trans h4
          go_wp2_with fail
          refine (c_writeString w.heap.size w.heap.size _ _ _ (Or.inr hB4) (by have := HL.out; simp [Lib.strCells, sb]; omega) hbr4.size).mono ?_
          rintro e w5 ⟨rfl, hB5, h5⟩
          have hbr5 := hbr4.trans h5
          clear hBr hB3 hB4 h3 h4 h5 hbr3 hbr4
          go_wp2
          go_roundw
          case rel =>
            refine ⟨j + 1, by omega, by go_num, ?_, hbr5⟩
            rw [markTo_succ kb ss j p hsp.out]
            simpa [Lib.byteCells, Lib.strCells, sb] using hB5
          case measure => simp [intOf]; omega
        · have hj' : j = k := by omega
          subst hj'
          have hml := markTo_length kb ss hs j
          go_wp2_with fail
          refine (c_string w.heap.size w.heap.size _ _ (Or.inr hBr) hbr.size).mono ?_
          rintro e w3 ⟨rfl, h3⟩
          have hbr3 := hbr.trans h3
          have hsz : (⟨(markTo kb ss j).toArray⟩ : ByteArray).size = (markTo kb ss j).length := rfl
          go_wp2_with fail
          refine (sum_any _ _ (by rw [hsz]; omega) (hK.below hbr3)).mono ?_
          rintro e w4 ⟨rfl, h4⟩
          have h32 : (sumS ⟨(markTo kb ss j).toArray⟩).size = 32 := sb_size _ _
          go_wp2
          go_ret
          exact ⟨rfl, hbr3.trans (h4.mono hbr3.size)⟩
end Go.Proofs.YtkapkphhceknfaaGreatDoor.Sm
namespace Go.Proofs.YtkapkphhceknfaaGreatDoor.Sm
open Go.RowKit
def r3L : List Nat := [5411319704, 6194414737, 7344290767, 8215976869, 9551921755, 10098905585, 11043570340, 11460697813, 12214315672, 13195500289, 13492127166, 14311783875, 14809980276, 15046980094, 15499789991, 16133124468, 16720292289, 16907126662, 17444216262, 17784676812, 17950125167, 18429019306, 18734950876, 19175934170, 19734090066, 20001703533, 20132865992, 20390182855, 20516441075, 20764397895, 21588763473, 21813078375, 22141143685, 22248366392, 22769593852, 22871018771, 23170020180, 23461497531, 23651862830, 23931792517, 24205322401, 24295138891, 24734567280, 24820601251, 24990902297, 25075189284, 25569408389, 26045227120, 26200031510, 26276752392, 26428864332, 26653801653, 26727943347, 27092625994, 27306805839, 27517677555, 27725365998, 27793908591, 27997534228, 28131656200, 28198240250, 28526537963, 28973835255, 29099129074]
def r2L : List Nat := [6074000999, 7439101573, 9603838834, 11363415354, 14244795007, 15485724812, 17708603819, 18721328409]
theorem r3_ok : ∀ i, i < 64 → (r3L.getD i 0) ^ 3 ≤ (pl 312).getD i 0 * 2 ^ (32 * 3) ∧ (pl 312).getD i 0 * 2 ^ (32 * 3) < (r3L.getD i 0 + 1) ^ 3 ∧ (pl 312).getD i 0 < 65536 ∧ (pl 312).getD i 0 * 2 ^ (32 * 3) < 1099511627776 ^ 3 ∧ r3L.getD i 0 % 4294967296 = (kF i).toNat := by
  decide +kernel
theorem r2_ok : ∀ i, i < 8 → (r2L.getD i 0) ^ 2 ≤ (pl 312).getD i 0 * 2 ^ (32 * 2) ∧ (pl 312).getD i 0 * 2 ^ (32 * 2) < (r2L.getD i 0 + 1) ^ 2 ∧ (pl 312).getD i 0 < 65536 ∧ (pl 312).getD i 0 * 2 ^ (32 * 2) < 1099511627776 ^ 2 ∧ r2L.getD i 0 % 4294967296 = (hF i).toNat := by
  decide +kernel
/-- What New has reckoned behind k rounds. -/
def rK (k j : Nat) : BitVec 32 := if j < 8 then (if j < k then hF j else 0) else (if j < 8 + k then kF (j - 8) else 0)
end Go.Proofs.YtkapkphhceknfaaGreatDoor.Sm
namespace Go.Proofs.YtkapkphhceknfaaGreatDoor.Sm
open Go.RowKit
theorem rot_add (x : BitVec 32) (n : Nat) (h0 : 1 ≤ n) (h1 : n ≤ 31) : x >>> n + x <<< (32 - n) = x.rotateRight n := by
  rw [← rot_eq x n h0 h1, BitVec.or_comm, BitVec.add_eq_or_of_and_eq_zero]
  ext i hi
  simp
  intro h
  have := BitVec.getLsbD_of_ge x (n + i)
  by_cases h2 : 32 - n ≤ i
  · rw [BitVec.getLsbD_of_ge x (n + i) (by omega)] at h; cases h
  · intro h3; omega
theorem rotr_eq (x : BitVec 32) (n : Int) (h0 : 1 ≤ n) (h1 : n ≤ 31) : (I x / 2 ^ n.toNat + I x * 2 ^ (32 - n).toNat % 4294967296) % 4294967296 = I (x.rotateRight n.toNat) := by
  rw [I_shr, I_shlm, I_addm, ← rot_add x n.toNat (by omega) (by omega)]
  rw [show (32 - n).toNat = 32 - n.toNat from by omega]
end Go.Proofs.YtkapkphhceknfaaGreatDoor.Sm
