/-
  Part of the proof of SumTells: all blocks stirred by the code's sum.
  Part of the proof of SumTells: a number's eight bytes and the state's text in the code's sum are walked.
  Part of the proof: a region that draws its order, with a head that leaves a family of worlds alone.
-/
import Derived.Test.YtmfbfhkhfhphfabGreatDoorB05
import Derived.Test.YtmfbfhkhfhphfabGreatDoorB03
import Derived.Test.YtmfbfhkhfhphfabGreatDoorB02
import Derived.Deep.Quiet
import Derived.StillTail
namespace Go.Proofs.YtmfbfhkhfhphfabGreatDoor.Sm
open Go.RowKit
theorem mixed : Tryz.prog.follows .mixedOrders = true := by kernel_rfl
/-- The state behind the first k chunks of a text. -/
def chunks (f : Nat → BitVec 32) (s : ByteArray) : Nat → Nat → BitVec 32
  | 0 => f
  | k + 1 => stirF (chunks f s k) (mOf (s.extract (k * 64) ((k + 1) * 64)))
set_option maxRecDepth 100000 in
set_option maxHeartbeats 1000000 in
theorem stirAll_any (f : Nat → BitVec 32) (s : ByteArray) (w : World) (h0 : s.size < 1000000) (hK : KB w) :
    Calls Tryz.prog 139 #[.agg (tab 8 f), .string s] w fun e w' => e = .returned (.agg (tab 8 (chunks f s (s.size / 64)))) ∧ Below w.heap.size w w' := by
  go_enter Tryz.func139, Tryz.ntmps139
  go_wp2_with fail
  go_loopw [9] (fun i wr => ∃ k : Nat, k ≤ s.size / 64 ∧ i = .int .i64 k ∧ Blk wr w.heap.size (tab 8 (chunks f s k)) 218 ∧ Blk wr (w.heap.size + 1) (tab 8 (fun _ => 0)) 218 ∧ Below w.heap.size w wr) (fun i _ => s.size / 64 - (intOf i).toNat)
  case atStart =>
    refine ⟨0, by omega, rfl, (Blk.new w (tab 8 f) 218).alloc _, Blk.new' _ (tab 8 (fun _ => 0)) 218 (by simp), ((Below.refl _ _).alloc (Nat.le_refl _) _).alloc (by simp) _⟩
  case round =>
    obtain ⟨k, hk, rfl, hb1, hb0, hbel⟩ := hrel
    by_cases hlt : k < s.size / 64
    · have b1 : ((k : Int) + 1) * 64 ≤ (s.size : Int) := by omega
      have b2 : (k : Int) * 64 ≤ ((k : Int) + 1) * 64 := by omega
      have b3 : (k : Int) * 64 ≤ (s.size : Int) := by omega
      have b4 : 0 ≤ (k : Int) * 64 := by omega
      have b5 : 0 ≤ ((k : Int) + 1) * 64 := by omega
      have b6 : (k : Int) ≤ (k : Int) + 1 := by omega
      go_wp2_with fail
      refine region_tail 8 mixed (by kernel_rfl) ?_
      simp only [List.take_succ_cons, List.take_zero, List.drop_succ_cons, List.drop_zero]
      repeat (first | (refine still_load rfl 218 _ rfl 8 217 Tryz.underlying218 sz31 _ _ _ rfl (Blk.drew hb1) ?_) | (refine wpStill_step (fun K hK => ?_); go_simp; (try go_bits); refine hK _ ?_; clear hK K))
      refine wpStill_nil ?_
      go_wp2_with fail
      refine (stir_any _ _ _ (by simp; omega) (KB.below hK (Below.drew hbel))).mono ?_
      rintro e w1 ⟨rfl, hb1'⟩
      have hd : wr.drew.heap.size = wr.heap.size := rfl
      have l1 := hb1.lt; have l0 := hb0.lt
      have m1 := Blk.below (Blk.drew hb1) hb1' (by omega)
      have m0 := Blk.below (Blk.drew hb0) hb1' (by omega)
      have m2 := (Below.drew hbel).trans (hb1'.mono (by omega))
      clear hb1' hd
      go_wp2_with (first | (refine wpl_store_u rfl rfl 218 _ _ rfl 8 sz31 _ _ _ _ rfl rfl m1 rfl ?_; intro w3 hu3 j5) | fail)
      go_roundw
      case rel => exact ⟨k + 1, by omega, by go_num, j5, m0.upd hu3 (by omega), below_upd m2 hu3 (Nat.le_refl _)⟩
      case measure => simp [intOf]; omega
    · have hk' : k = s.size / 64 := by omega
      subst hk'
      go_wp2_with (first
        | (refine wpl_load rfl 218 _ rfl 8 217 Tryz.underlying218 sz31 _ _ _ _ rfl hb1 (by simp [tab_size]) ?_; rw [tab_all _ _ _ (Nat.zero_add _)])
        | (refine wpl_store_u rfl rfl 218 _ _ rfl 8 sz31 _ _ _ _ rfl rfl hb0 (by simp [tab_size]) ?_; intro w3 hu3 j5))
      refine ret_cell 4 218 rfl 8 217 Tryz.underlying218 sz31 _ _ _ rfl j5 rfl ⟨rfl, below_upd hbel hu3 (by omega)⟩
end Go.Proofs.YtmfbfhkhfhphfabGreatDoor.Sm
namespace Go.Proofs.YtmfbfhkhfhphfabGreatDoor.Sm
open Go.RowKit
/-- Byte j of the eight of a number, the greatest first. -/
def numB (N j : Nat) : UInt8 := UInt8.ofNat (N / 256 ^ (7 - j))
theorem numB_eq (N j : Nat) (hj : j < 8) : ((numB N j).toNat : Int) = (N : Int) / 2 ^ (56 - 8 * j) % 256 := by
  have e : (2 : Nat) ^ (56 - 8 * j) = 256 ^ (7 - j) := by
    rw [show (256 : Nat) = 2 ^ 8 from rfl, ← Nat.pow_mul]; congr 1; omega
  unfold numB
  rw [UInt8.toNat_ofNat', ← e]
  simp
set_option maxRecDepth 100000 in
set_option maxHeartbeats 400000 in
theorem wide_any (N : Nat) (w : World) :
    Calls Tryz.prog 137 #[.int .u64 (N : Int)] w fun e w' => e = .returned (.string (sb 8 (numB N))) ∧ Below w.heap.size w w' := by
  go_enter Tryz.func137, Tryz.ntmps137
  go_wp2_with fail
  go_loopw [5] (fun i wr => ∃ k : Nat, k ≤ 8 ∧ i = .int .i64 k ∧ Blk wr w.heap.size (tb 8 (uptoB (numB N) k)) 244 ∧ Below w.heap.size w wr) (fun i _ => 8 - (intOf i).toNat)
  case atStart => exact ⟨0, by omega, rfl, Blk.new w (tb 8 (uptoB (numB N) 0)) 244, (Below.refl _ _).alloc (Nat.le_refl _) _⟩
  case round =>
    obtain ⟨k, hk, rfl, hb1, hbel⟩ := hrel
    by_cases hlt : k < 8
    · have hc := fun j (hj : j < 8) => hb1.bcell j hj
      have hf := fun j => hb1.frozen j
      have b1 : 0 ≤ 56 - 8 * (k : Int) := by omega
      go_wp2
      go_roundw
      case rel =>
        refine ⟨k + 1, by omega, by go_num, ?_, hbel.setCell (Nat.le_refl _) _⟩
        rw [← numB_eq N k hlt]
        have := hb1.set k (.int .u8 ((numB N k).toNat : Int))
        rw [tb_upto_succ _ _ _ _ rfl] at this
        exact this
      case measure => simp [intOf]; omega
    · have hk' : k = 8 := by omega
      subst hk'
      rw [tb_full] at hb1
      go_wp2_with (refine wpl_string rfl 105 9 5 _ rfl Tryz.underlying105 Tryz.underlying5 Tryz.underlying9 _ _ _ _ _ _ rfl hb1 (by simp [tb_size]) _ (tb_bytes _ _ _ rfl) ?_)
      go_ret
      exact ⟨rfl, hbel⟩
/-- Byte j of a state's text. -/
def stB (f : Nat → BitVec 32) (j : Nat) : UInt8 := UInt8.ofNat ((f (j / 4)).toNat / 256 ^ (3 - j % 4))
theorem stB_eq (f : Nat → BitVec 32) (j : Nat) : ((stB f j).toNat : Int) = I (f (j / 4)) / 2 ^ (24 - 8 * (j % 4)) % 256 := by
  have e : (2 : Nat) ^ (24 - 8 * (j % 4)) = 256 ^ (3 - j % 4) := by
    rw [show (256 : Nat) = 2 ^ 8 from rfl, ← Nat.pow_mul]; congr 1; omega
  unfold stB I
  rw [UInt8.toNat_ofNat', ← e]
  simp
set_option maxRecDepth 100000 in
set_option maxHeartbeats 400000 in
theorem stText_any (f : Nat → BitVec 32) (w : World) :
    Calls Tryz.prog 141 #[.agg (tab 8 f)] w fun e w' => e = .returned (.string (sb 32 (stB f))) ∧ Below w.heap.size w w' := by
  go_enter Tryz.func141, Tryz.ntmps141
  go_wp2_with fail
  go_loopw [5] (fun i wr => ∃ k : Nat, k ≤ 32 ∧ i = .int .i64 k ∧ Blk wr w.heap.size (tab 8 f) 218 ∧ Blk wr (w.heap.size + 1) (tb 32 (uptoB (stB f) k)) 215 ∧ Below w.heap.size w wr) (fun i _ => 32 - (intOf i).toNat)
  case atStart => exact ⟨0, by omega, rfl, (Blk.new w (tab 8 f) 218).alloc _, Blk.new' _ (tb 32 (uptoB (stB f) 0)) 215 (by simp), ((Below.refl _ _).alloc (Nat.le_refl _) _).alloc (by simp) _⟩
  case round =>
    obtain ⟨k, hk, rfl, hb0, hb1, hbel⟩ := hrel
    by_cases hlt : k < 32
    · have hc := fun j (hj : j < 32) => hb1.bcell j hj
      have hf := fun j => hb1.frozen j
      have h0 := fun j (hj : j < 8) => hb0.tcell j hj
      have b0 : (k : Int) / 4 < 8 := by omega
      have b2 : k / 4 < 8 := by omega
      have b1 : 0 ≤ 24 - 8 * ((k : Int) % 4) := by omega
      go_wp2
      go_roundw
      case rel =>
        refine ⟨k + 1, by omega, by go_num, hb0.setOther _ (by simp) _, ?_, hbel.setCell (by simp) _⟩
        rw [← stB_eq f k]
        have := hb1.set k (.int .u8 ((stB f k).toNat : Int))
        rw [tb_upto_succ _ _ _ _ rfl] at this
        exact this
      case measure => simp [intOf]; omega
    · have hk' : k = 32 := by omega
      subst hk'
      rw [tb_full] at hb1
      go_wp2_with (refine wpl_string rfl 105 9 5 _ rfl Tryz.underlying105 Tryz.underlying5 Tryz.underlying9 _ _ _ _ _ _ rfl hb1 (by simp [tb_size]) _ (tb_bytes _ _ _ rfl) ?_)
      go_ret
      exact ⟨rfl, hbel⟩
end Go.Proofs.YtmfbfhkhfhphfabGreatDoor.Sm
namespace Go.Proofs.YtmfbfhkhfhphfabGreatDoor
open Go.RowKit
section
variable {P : Program} {ops : Array Oper} {C : World → Prop}
/-- The first f operations that come up are of the head, each quiet in the class. -/
def headQ (P : Program) (ops : Array Oper) (C : World → Prop) (n : Nat) (L : Array Bool → Act → Prop) : Nat → Array Bool → Act → Prop
  | 0, listed, a => L listed a
  | f + 1, listed, a => Region.ready .any ops listed ≠ [] ∧ ∀ i ∈ Region.ready .any ops listed, i < n ∧ qOp P ops C i (headQ P ops C n L f (listed.setIfInBounds i true)) a
theorem any_of_headQ {n g : Nat} {L : Array Bool → Act → Prop} {Q : Exit → Act → World → Prop} (hL : ∀ listed a w, C w → L listed a → wpAny P .any ops Q g listed a w) (f : Nat) :
    ∀ (listed : Array Bool) (a : Act) (w : World), C w → headQ P ops C n L f listed a → wpAny P .any ops Q (f + g) listed a w := by
  induction f with
  | zero => intro listed a w hw h; rw [Nat.zero_add]; exact hL _ _ _ hw h
  | succ f ih =>
    intro listed a w hw h
    rw [Nat.succ_add]
    exact ⟨fun h0 => absurd h0 h.1, fun i hi => wpOp_of_qOp hw (fun a' w' hw' h' => ih _ a' w' hw' h') (h.2 i hi).2⟩
/-- What is ready, apart from the others, and quiet may be taken first. -/
theorem headQ_first {n i : Nat} {oi : Oper} {v : Value} {L : Array Bool → Act → Prop} (hi : ops[i]? = some oi) (hsel : ∀ (j : Nat) (o : Oper) cs b, ops[j]? = some o → o.op ≠ .select cs b)
    (hs : Region.sinkB .any ops n = true) (hc : Region.chainB .any ops n = true) (hn : n < ops.size) (hin : i < n) (hdone : ∀ listed a, L listed a → ∀ j ∈ Region.ready .any ops listed, n ≤ j) (f : Nat) :
    ∀ (listed : Array Bool) (a : Act), HeadInv .any ops n listed →
      (∀ j oj, ops[j]? = some oj → j ≠ i → listed.getD j true = false → (∀ e ∈ oj.after, Region.binds .any e = true → e.on ≠ i) → oi.apart ops oj = true) →
      i ∈ Region.ready .any ops listed → YieldsIn P ops C oi v a → headQ P ops C n L f (listed.setIfInBounds i true) (a.put oi.dst v) → headQ P ops C n L (f + 1) listed a := by
  induction f with
  | zero =>
    intro listed a inv _ hr hy H
    refine ⟨List.ne_nil_of_mem hr, fun j hj => ?_⟩
    have hjn : j < n := Nat.lt_of_not_le fun hge => tail_waits hs hc hn inv _ i rfl hin (mem_ready.1 hr).1 j hge hj
    by_cases e : j = i
    · subst e; exact ⟨hjn, hy.qOp hi H⟩
    · exact absurd (hdone _ _ H j (ready_mono hj e)) (by omega)
  | succ f ih =>
    intro listed a inv hfree hr hy H
    have hun := (mem_ready.1 hr).1
    refine ⟨List.ne_nil_of_mem hr, fun j hj => ?_⟩
    have hjn : j < n := Nat.lt_of_not_le fun hge => tail_waits hs hc hn inv _ i rfl hin hun j hge hj
    by_cases e : j = i
    · subst e; exact ⟨hjn, hy.qOp hi H⟩
    · obtain ⟨hjun, oj, hoj, hall⟩ := mem_ready.1 hj
      have hap : oi.apart ops oj = true := hfree j oj hoj e hjun fun x hx hb hxi => by
        have := hall x hx hb; rw [hxi, getD_both hun] at this; cases this
      have h2 := qOp_put hoj hap (fun cs b => hsel i oi cs b hi) (fun cs b => hsel j oj cs b hoj) hy (H.2 j (ready_mono hj e)).2
      refine ⟨hjn, qOp_mono (fun a' h3 => ih _ a' (inv.set hj hjn) (fun k ok hk hki hku hno => hfree k ok hk hki ?_ hno) (ready_mono hr (Ne.symm e)) h3.1 ?_) h2⟩
      · by_cases ejk : j = k
        · subst ejk; exact hjun
        · rw [getD_set_ne true ejk] at hku; exact hku
      · rw [Array.setIfInBounds_comm _ _ e]; exact h3.2
theorem headQ_lex {n g : Nat} {Lq : Act → Prop} (hsel : Region.noSelect ops = true) (hs : Region.sinkB .any ops n = true) (hc : Region.chainB .any ops n = true) (hn : n < ops.size) (l : List Oper) :
    ∀ (k : Nat) (listed : Array Bool) (a : Act), (∀ j, j < l.length → l[j]? = ops[k + j]?) → k + l.length = n → HeadInv .any ops n listed →
    Region.lexHead .any ops g l.length k listed = true → wpQuiet P ops C Lq l a → headQ P ops C n (fun listed' a' => Region.seqB .any ops g n listed' = true ∧ Lq a') l.length listed a := by
  induction l with
  | nil =>
    intro k listed a _ hk _ hB h
    have e : k = n := hk
    subst e; exact ⟨hB, h⟩
  | cons o l ih =>
    intro k listed a hl hk inv hB h
    rw [List.length_cons] at hk
    have h0 : ops[k]? = some o := by simpa using (hl 0 (by simp)).symm
    simp only [List.length_cons, Region.lexHead, Bool.and_eq_true] at hB
    have hr : k ∈ Region.ready .any ops listed := by simpa using hB.1.1
    have hst : qOp P ops C k (wpQuiet P ops C Lq l) a := by unfold qOp; simp only [h0]; exact h
    obtain ⟨v, hy, hK⟩ := yieldsIn_of_qOp h0 hst
    refine headQ_first h0 (Region.noSelect_spec hsel) hs hc hn (by omega) (fun _ _ hL => seqB_ready hL.1) l.length listed a inv (Region.free_spec h0 hB.1.2) hr hy ?_
    exact ih (k + 1) _ _ (fun j hj => by have := hl (j + 1) (by simp; omega); rw [List.getElem?_cons_succ] at this; rw [this]; congr 1; omega) (by omega) (inv.set hr (by omega)) hB.2 hK
/-- A region that draws its order: its first n operations are quiet in a family of worlds, the others come one behind the other. -/
theorem region_qtail {id : Nat} {Q : Exit → Act → World → Prop} {a : Act} {w : World} {l : List Oper} (n : Nat) (C : World → Prop) (hm : P.follows .mixedOrders = true) (hB : Region.lexTailB .any l.toArray n = true) (hC : C w.drew)
    (h : wpQuiet P l.toArray C (fun a' => ∀ w', C w' → wpList P l.toArray Q (l.drop n) a' w') (l.take n) a) : (Code.region id l.toArray true).wp P Q a w := by
  simp only [Region.lexTailB, Bool.and_eq_true, decide_eq_true_eq] at hB
  obtain ⟨⟨⟨⟨hsel, hn⟩, hs⟩, hc⟩, hlex⟩ := hB
  have hnl : n < l.length := by simpa using hn
  have ht : (l.take n).length = n := by rw [List.length_take]; omega
  have hd : (l.drop n).length = l.toArray.size - n := by rw [List.length_drop, List.size_toArray]
  have H := headQ_lex (P := P) (C := C) (g := l.toArray.size - n) hsel hs hc hn (l.take n) 0 (Array.replicate l.toArray.size false) a
    (fun j hj => by rw [ht] at hj; rw [List.getElem?_take, if_pos hj, Nat.zero_add, List.getElem?_toArray]) (by rw [ht, Nat.zero_add])
    ⟨Array.size_replicate, fun j oj _ hl => (by rw [getD_replicate_false] at hl; cases hl), fun t _ htl => getD_in (by rw [Array.size_replicate]; exact htl) (getD_replicate_false _ _)⟩
    (by rw [ht]; exact hlex) h
  refine wp_region_any hm ?_
  have := any_of_headQ (Q := Q) (g := l.toArray.size - n) (fun listed a' w' hw' hL => by
    have := wpAny_of_seq (md := .any) (Q' := Q) (l.drop n) n listed a' w' (fun j => by rw [List.getElem?_drop, List.getElem?_toArray]) (by rw [hd]; exact hL.1) (hL.2 w' hw')
    rwa [hd] at this) _ _ _ _ hC H
  rw [ht, show n + (l.toArray.size - n) = l.toArray.size from by omega] at this
  exact this
end
section
variable {P : Program} {ops : Array Oper} {C : World → Prop} {Q : Act → Prop} {a : Act} {o : Oper} {rest : List Oper}
/-- An operation that yields the same in whatever world. -/
theorem q_pure (hgd : o.guard = none) (v : Value) (hr : ∀ w, (execOp a.eval o).run P w = .ok (.value v) w) (h : wpQuiet P ops C Q rest (a.put o.dst v)) : wpQuiet P ops C Q (o :: rest) a := by
  refine wpQuiet_step fun K hK => ?_
  simp only [Region.wanted, hgd, if_true]
  exact ⟨v, fun w _ => by unfold Oper.quietAt; rw [hr]; exact ⟨rfl, rfl⟩, hK _ h⟩
/-- .. in whatever world of the class. -/
theorem q_read (hgd : o.guard = none) (v : Value) (hr : ∀ w, C w → (execOp a.eval o).run P w = .ok (.value v) w) (h : wpQuiet P ops C Q rest (a.put o.dst v)) : wpQuiet P ops C Q (o :: rest) a := by
  refine wpQuiet_step fun K hK => ?_
  simp only [Region.wanted, hgd, if_true]
  exact ⟨v, fun w hw => by unfold Oper.quietAt; rw [hr w hw]; exact ⟨rfl, rfl⟩, hK _ h⟩
/-- A whole array read out of its block. -/
theorem q_load (hgd : o.guard = none) (t : TypeId) (x : Operand) (ho : o.op = .load t x) (n : Nat) (e : TypeId) (ht : P.underlying t = some (.array n e)) (hi0 : (P.info? t).map (·.size) = some n)
    (b : Nat) (f : Nat → BitVec 32) (T : TypeId) (hx : a.eval x = .pointer (some ⟨b, 0, none⟩)) (hb : ∀ w, C w → Blk w b (tab n f) T)
    (h : wpQuiet P ops C Q rest (a.put o.dst (.agg (tab n f)))) : wpQuiet P ops C Q (o :: rest) a := by
  refine q_read hgd _ (fun w hw => ?_) h
  have hl := loadVar_run P w t n e ht hi0 b 0 (tab n f) T (hb w hw) (by simp [tab_size])
  rw [tab_all _ _ _ rfl] at hl
  simp only [execOp, ho, hx, Instr.loadAt, Instr.sureAddr, Sem.run_bind, Sem.run_pure, Result.andThen_ok, hl]
/-- A call whose callee leaves a world of the class. -/
theorem q_call (hgd : o.guard = none) (f : FuncId) (args : Array Value) (hr : ∀ w, (execOp a.eval o).run P w = .ok (.enter f args) w) (v : Value)
    (hc : ∀ w, C w → Calls P f args w fun e w'' => e = .returned v ∧ C w'') (h : wpQuiet P ops C Q rest (a.put o.dst v)) : wpQuiet P ops C Q (o :: rest) a := by
  refine wpQuiet_step fun K hK => ?_
  simp only [Region.wanted, hgd, if_true]
  exact ⟨v, fun w hw => by unfold Oper.quietAt; rw [hr]; exact ⟨rfl, hc w hw⟩, hK _ h⟩
end
theorem calls_below {P : Program} {f : FuncId} {args : Array Value} {w w0 : World} {v : Value} (hb : Below w0.heap.size w0 w) (h : Calls P f args w fun e w' => e = .returned v ∧ Below w.heap.size w w') :
    Calls P f args w fun e w' => e = .returned v ∧ Below w0.heap.size w0 w' := h.mono fun _ _ ⟨he, hb'⟩ => ⟨he, hb.trans (hb'.mono hb.size)⟩
/-- A region that draws its order, all of it quiet in a family of worlds. -/
theorem region_q {P : Program} {id : Nat} {Q : Exit → Act → World → Prop} {a : Act} {w : World} {l : List Oper} (C : World → Prop) (hm : P.follows .mixedOrders = true) (hB : Region.lexB .any l.toArray = true) (hC : C w.drew)
    (h : wpQuiet P l.toArray C (fun a' => ∀ w', C w' → Q .normal a' w') l a) : (Code.region id l.toArray true).wp P Q a w := wp_region_quiet hm hB hC (by simpa using h)
end Go.Proofs.YtmfbfhkhfhphfabGreatDoor
