/-
  Part of the proof: a region that draws its order, with a quiet head amid operations that look at no memory.
  Part of the proof: the bytes of a block of the stream are walked.
  Part of the proof of the statement: where the library's functions lie in this program.
  Part of the proof: Block and Xor of the code are walked, and Hex.
-/
import Derived.Test.YtkapkphhceknfaaGreatDoorB04
import Derived.Test.YtkapkphhceknfaaGreatDoorB02
import Derived.Test.YtkapkphhceknfaaGreatDoorB05
import Derived.Shelf.Strings.Builder1
import Derived.Shelf.Strings.Builder2
import Derived.Test.YtkapkphhceknfaaGreatDoorProg
namespace Go.Proofs.YtkapkphhceknfaaGreatDoor
open Go.RowKit
section
variable {P : Program} {ops : Array Oper} {C : World → Prop} {Q : Exit → Act → World → Prop}
/-- What is listed behind f further operations from k on. -/
def after (listed : Array Bool) (k : Nat) : Nat → Array Bool
  | 0 => listed
  | f + 1 => after (listed.setIfInBounds k true) (k + 1) f
def lexH (ops : Array Oper) : Nat → Nat → Array Bool → Bool
  | 0, _, _ => true
  | f + 1, k, listed => (Region.ready .any ops listed).contains k && Region.free .any ops listed k && lexH ops f (k + 1) (listed.setIfInBounds k true)
/-- A row of operations each of which yields the same in whatever world. -/
def wpPure (P : Program) (L : Act → Prop) : List Oper → Act → Prop
  | [], a => L a
  | o :: l, a => ∃ d v, o.dst = some d ∧ o.guard = none ∧ (∀ w, (execOp a.eval o).run P w = .ok (.value v) w) ∧ wpPure P L l (a.put (some d) v)
theorem wpPure_nil {L : Act → Prop} {a : Act} (h : L a) : wpPure P L [] a := h
theorem wpPure_cons {L : Act → Prop} {a : Act} {o : Oper} {l : List Oper} (d : Tmp) (hd : o.dst = some d) (hg : o.guard = none) (v : Value) (hr : ∀ w, (execOp a.eval o).run P w = .ok (.value v) w) (h : wpPure P L l (a.put (some d) v)) : wpPure P L (o :: l) a := ⟨d, v, hd, hg, hr, h⟩
theorem any_pure {L : Act → Prop} {g : Nat} {w : World} (hsel : Region.noSelect ops = true) (hQ : ∀ c a d v w, Q (.panic c) (a.put (some d) v) w → Q (.panic c) a w) (l : List Oper) :
    ∀ (k : Nat) (listed : Array Bool) (a : Act), (∀ j, j < l.length → l[j]? = ops[k + j]?) → lexH ops l.length k listed = true → wpPure P L l a →
      (∀ a', L a' → wpAny P .any ops Q g (after listed k l.length) a' w) → wpAny P .any ops Q (l.length + g) listed a w := by
  induction l with
  | nil => intro k listed a _ _ h hL; rw [List.length_nil, Nat.zero_add]; exact hL a h
  | cons o l ih =>
    intro k listed a hl hB h hL
    have h0 : ops[k]? = some o := by simpa using (hl 0 (by simp)).symm
    simp only [List.length_cons, lexH, Bool.and_eq_true] at hB
    obtain ⟨d, v, hd, hg, hv, h2⟩ := h
    rw [List.length_cons, show l.length + 1 + g = (l.length + g) + 1 from by omega]
    refine wpAny_take (v := v) h0 hsel hB.1.2 hB.1.1 (fun c a w h => by rw [hd] at h; exact hQ _ _ _ _ _ h) (Or.inl ⟨by simp [Region.wanted, hg], hv⟩) ?_
    rw [hd]
    exact ih (k + 1) _ _ (fun j hj => by have := hl (j + 1) (by simp; omega); rw [List.getElem?_cons_succ] at this; rw [this]; congr 1; omega) hB.2 h2 (fun a' h' => hL a' h')
def sinkH (ops : Array Oper) (m n : Nat) : Bool :=
  (List.range (n - 1)).all fun i => decide (i < m) || (List.range n).any fun j => decide (i < j) && Region.waitsFor .any ops j i
def chainH (ops : Array Oper) (n : Nat) : Bool :=
  (List.range ops.size).all fun t => decide (t < n) || Region.waitsFor .any ops t (n - 1)
theorem tail_waitsH {m n : Nat} {listed : Array Bool} (hs : sinkH ops m n = true) (hc : chainH ops n = true) (hn : n < ops.size) (inv : HeadInv .any ops n listed) :
    ∀ (d i : Nat), n - i = d → m ≤ i → i < n → listed.getD i true = false → ∀ t, n ≤ t → t ∉ Region.ready .any ops listed := by
  intro d
  induction d using Nat.strongRecOn with
  | _ d ih =>
    intro i hd hm hi hun t ht hr
    by_cases hin : i = n - 1
    · obtain ⟨_, ot, hot, hall⟩ := mem_ready.1 hr
      have htlt : t < ops.size := (Array.getElem?_eq_some_iff.1 hot).1
      have h1 := List.all_eq_true.1 hc t (List.mem_range.2 htlt)
      simp only [Bool.or_eq_true, decide_eq_true_eq] at h1
      rcases h1 with h1 | h1
      · omega
      · obtain ⟨o', ho', e, he, hb, hon⟩ := Region.waitsFor_spec h1
        have : o' = ot := Option.some.inj (ho'.symm.trans hot)
        subst this
        have h2 := hall e he hb
        rw [hon, ← hin, getD_both hun] at h2
        cases h2
    · have h1 := List.all_eq_true.1 hs i (List.mem_range.2 (by omega))
      simp only [Bool.or_eq_true, decide_eq_true_eq] at h1
      rcases h1 with h1 | h1
      · omega
      · obtain ⟨j, hj, hj2⟩ := List.any_eq_true.1 h1
        simp only [Bool.and_eq_true, decide_eq_true_eq] at hj2
        obtain ⟨oj, hoj, e, he, hb, hon⟩ := Region.waitsFor_spec hj2.2
        have hjn : j < n := List.mem_range.1 hj
        cases hl : listed.getD j false with
        | true =>
          have h2 := inv.closed j oj hoj hl e he hb
          rw [hon, getD_both hun] at h2
          cases h2
        | false =>
          have hjs : j < listed.size := by rw [inv.size]; omega
          exact ih (n - j) (by omega) j rfl (by omega) hjn (getD_in hjs hl) t ht hr
theorem headH_first {m n i : Nat} {oi : Oper} {v : Value} {L : Array Bool → Act → Prop} (hi : ops[i]? = some oi) (hsel : ∀ (j : Nat) (o : Oper) cs b, ops[j]? = some o → o.op ≠ .select cs b)
    (hs : sinkH ops m n = true) (hc : chainH ops n = true) (hn : n < ops.size) (him : m ≤ i) (hin : i < n) (hdone : ∀ listed a, L listed a → ∀ j ∈ Region.ready .any ops listed, n ≤ j) (f : Nat) :
    ∀ (listed : Array Bool) (a : Act), HeadInv .any ops n listed →
      (∀ j oj, ops[j]? = some oj → j ≠ i → listed.getD j true = false → (∀ e ∈ oj.after, Region.binds .any e = true → e.on ≠ i) → oi.apart ops oj = true) →
      i ∈ Region.ready .any ops listed → YieldsIn P ops C oi v a → headQ P ops C n L f (listed.setIfInBounds i true) (a.put oi.dst v) → headQ P ops C n L (f + 1) listed a := by
  induction f with
  | zero =>
    intro listed a inv _ hr hy H
    refine ⟨List.ne_nil_of_mem hr, fun j hj => ?_⟩
    have hjn : j < n := Nat.lt_of_not_le fun hge => tail_waitsH hs hc hn inv _ i rfl him hin (mem_ready.1 hr).1 j hge hj
    by_cases e : j = i
    · subst e; exact ⟨hjn, hy.qOp hi H⟩
    · exact absurd (hdone _ _ H j (ready_mono hj e)) (by omega)
  | succ f ih =>
    intro listed a inv hfree hr hy H
    have hun := (mem_ready.1 hr).1
    refine ⟨List.ne_nil_of_mem hr, fun j hj => ?_⟩
    have hjn : j < n := Nat.lt_of_not_le fun hge => tail_waitsH hs hc hn inv _ i rfl him hin hun j hge hj
    by_cases e : j = i
    · subst e; exact ⟨hjn, hy.qOp hi H⟩
    · obtain ⟨hjun, oj, hoj, hall⟩ := mem_ready.1 hj
      have hap : oi.apart ops oj = true := hfree j oj hoj e hjun fun x hx hb hxi => by
        have := hall x hx hb; rw [hxi, getD_both hun] at this; cases this
      have h2 := qOp_put hoj hap (fun cs b => hsel i oi cs b hi) (fun cs b => hsel j oj cs b hoj) hy (H.2 j (ready_mono hj e)).2
      refine ⟨hjn, qOp_mono (fun a' h3 => ih _ a' (inv.set hj hjn) (fun k ok hk hki hku hno => hfree k ok hk hki ?_ hno) (ready_mono hr (Ne.symm e)) h3.1 ?_) h2⟩
      · by_cases ejk : j = k
        · subst ejk; exact hjun
        · rw [getD_set_ne true ejk] at hku; exact hku
      · rw [Array.setIfInBounds_comm _ _ e]; exact h3.2
theorem headH_lex {m n : Nat} {Lq : Act → Prop} {fin : Array Bool} (hsel : Region.noSelect ops = true) (hs : sinkH ops m n = true) (hc : chainH ops n = true) (hn : n < ops.size) (hfin : ∀ j ∈ Region.ready .any ops fin, n ≤ j) (l : List Oper) :
    ∀ (k : Nat) (listed : Array Bool) (a : Act), (∀ j, j < l.length → l[j]? = ops[k + j]?) → m ≤ k → k + l.length = n → HeadInv .any ops n listed → after listed k l.length = fin →
    lexH ops l.length k listed = true → wpQuiet P ops C Lq l a → headQ P ops C n (fun listed' a' => listed' = fin ∧ Lq a') l.length listed a := by
  induction l with
  | nil => intro k listed a _ _ _ _ hf _ h; exact ⟨hf, h⟩
  | cons o l ih =>
    intro k listed a hl hmk hk inv hf hB h
    rw [List.length_cons] at hk
    have h0 : ops[k]? = some o := by simpa using (hl 0 (by simp)).symm
    simp only [List.length_cons, lexH, Bool.and_eq_true] at hB
    have hr : k ∈ Region.ready .any ops listed := by simpa using hB.1.1
    have hst : qOp P ops C k (wpQuiet P ops C Lq l) a := by unfold qOp; simp only [h0]; exact h
    obtain ⟨v, hy, hK⟩ := yieldsIn_of_qOp h0 hst
    refine headH_first (L := fun listed' a' => listed' = fin ∧ Lq a') h0 (Region.noSelect_spec hsel) hs hc hn hmk (by omega) (fun _ _ hL j hj => hfin j (by rw [← hL.1]; exact hj)) l.length listed a inv (Region.free_spec h0 hB.1.2) hr hy ?_
    exact ih (k + 1) _ _ (fun j hj => by have := hl (j + 1) (by simp; omega); rw [List.getElem?_cons_succ] at this; rw [this]; congr 1; omega) (by omega) (by omega) (inv.set hr (by omega)) hf hB.2 hK
def closedB (ops : Array Oper) (listed : Array Bool) : Bool :=
  (List.range ops.size).all fun j => !listed.getD j false || match ops[j]? with | some oj => oj.after.all (fun e => !Region.binds .any e || listed.getD e.on false) | none => true
def tailB (ops : Array Oper) (n : Nat) (listed : Array Bool) : Bool := (List.range ops.size).all fun t => decide (t < n) || !listed.getD t true
theorem headInv_of {n : Nat} {listed : Array Bool} (h0 : listed.size = ops.size) (h1 : closedB ops listed = true) (h2 : tailB ops n listed = true) : HeadInv .any ops n listed := by
  refine ⟨h0, fun j oj hj hl e he hb => ?_, fun t ht htl => ?_⟩
  · have := List.all_eq_true.1 h1 j (List.mem_range.2 (Array.getElem?_eq_some_iff.1 hj).1)
    simp only [hl, hj, Bool.not_true, Bool.false_or] at this
    have := Array.all_eq_true_iff_forall_mem.1 this e he
    simpa [hb] using this
  · have := List.all_eq_true.1 h2 t (List.mem_range.2 htl)
    simp only [Bool.or_eq_true, decide_eq_true_eq, Bool.not_eq_true'] at this
    rcases this with h | h
    · omega
    · exact h
theorem after_size (f : Nat) : ∀ (listed : Array Bool) (k : Nat), (after listed k f).size = listed.size := by
  induction f with
  | zero => intro _ _; rfl
  | succ f ih => intro listed k; simp only [after]; rw [ih]; simp
def checkH (ops : Array Oper) (m n p : Nat) : Bool :=
  let z := Array.replicate ops.size false
  let zm := after z 0 m
  let zn := after zm m (n - m)
  let zp := after zn n (p - n)
  Region.noSelect ops && decide (m < n) && decide (n ≤ p) && decide (n < ops.size) && decide (p ≤ ops.size) && lexH ops m 0 z && closedB ops zm && tailB ops n zm && sinkH ops m n && chainH ops n && lexH ops (n - m) m zm &&
    (Region.ready .any ops zn).all (fun j => decide (n ≤ j)) && lexH ops (p - n) n zn && Region.seqB .any ops (ops.size - p) p zp
/-- A region that draws its order: first m operations that look at no memory, then quiet ones, then again some that look at no memory, and the others one behind the other. -/
theorem region_h {id : Nat} {a : Act} {w : World} {l : List Oper} (m n p : Nat) (C : World → Prop) (hm : P.follows .mixedOrders = true) (hB : checkH l.toArray m n p = true) (hQ : ∀ c a d v w, Q (.panic c) (a.put (some d) v) w → Q (.panic c) a w) (hC : C w.drew)
    (h : wpPure P (fun a1 => wpQuiet P l.toArray C (fun a2 => ∀ w', C w' → wpPure P (fun a3 => wpList P l.toArray Q (l.drop p) a3 w') ((l.drop n).take (p - n)) a2) ((l.drop m).take (n - m)) a1) (l.take m) a) : (Code.region id l.toArray true).wp P Q a w := by
  simp only [checkH, Bool.and_eq_true, decide_eq_true_eq] at hB
  obtain ⟨⟨⟨⟨⟨⟨⟨⟨⟨⟨⟨⟨⟨hsel, hmn⟩, hnp⟩, hns⟩, hps⟩, b1⟩, b2⟩, b3⟩, b4⟩, b5⟩, b6⟩, b7⟩, b8⟩, b9⟩ := hB
  have hsz : l.toArray.size = l.length := by simp
  have t1 : (l.take m).length = m := by rw [List.length_take]; omega
  have t2 : ((l.drop m).take (n - m)).length = n - m := by rw [List.length_take, List.length_drop]; omega
  have t3 : ((l.drop n).take (p - n)).length = p - n := by rw [List.length_take, List.length_drop]; omega
  have t4 : (l.drop p).length = l.toArray.size - p := by rw [List.length_drop]; omega
  refine wp_region_any hm ?_
  have e : l.toArray.size = (l.take m).length + ((n - m) + ((p - n) + (l.toArray.size - p))) := by rw [t1]; omega
  rw [show wpAny P .any l.toArray Q l.toArray.size = wpAny P .any l.toArray Q ((l.take m).length + ((n - m) + ((p - n) + (l.toArray.size - p)))) from by rw [← e]]
  refine any_pure hsel hQ (l.take m) 0 _ a (fun j hj => by rw [t1] at hj; rw [List.getElem?_take, if_pos hj, Nat.zero_add, List.getElem?_toArray]) (by rw [t1]; exact b1) h ?_
  intro a1 h1
  rw [t1]
  have H := headH_lex (P := P) (C := C) (fin := after (after (Array.replicate l.toArray.size false) 0 m) m (n - m)) hsel b4 b5 hns (fun j hj => by simpa using List.all_eq_true.1 b7 j hj) ((l.drop m).take (n - m)) m (after (Array.replicate l.toArray.size false) 0 m) a1
    (fun j hj => by rw [t2] at hj; rw [List.getElem?_take, if_pos hj, List.getElem?_drop, List.getElem?_toArray]) (Nat.le_refl _) (by rw [t2]; omega) (headInv_of (by rw [after_size]; simp) b2 b3) (by rw [t2]) (by rw [t2]; exact b6) h1
  rw [t2] at H
  refine any_of_headQ (Q := Q) (fun listed a2 w' hw' hL => ?_) _ _ _ _ hC H
  obtain ⟨rfl, h2⟩ := hL
  have h3 := h2 w' hw'
  have := any_pure (g := l.toArray.size - p) (w := w') hsel hQ ((l.drop n).take (p - n)) n _ a2 (fun j hj => by rw [t3] at hj; rw [List.getElem?_take, if_pos hj, List.getElem?_drop, List.getElem?_toArray]) (by rw [t3]; exact b8) h3 (fun a3 h4 => by
    rw [t3]
    have := wpAny_of_seq (md := .any) (Q' := Q) (l.drop p) p _ a3 w' (fun j => by rw [List.getElem?_drop, List.getElem?_toArray]) (by rw [t4]; exact b9) h4
    rwa [t4] at this)
  rwa [t3] at this
end
theorem Upd.refl (w : World) (b : Nat) : Upd w w b := ⟨rfl, rfl, rfl, rfl, fun _ _ => rfl⟩
theorem Upd.trans {w w' w'' : World} {b : Nat} (h : Upd w w' b) (g : Upd w' w'' b) : Upd w w'' b :=
  ⟨g.os.trans h.os, g.tape.trans h.tape, g.output.trans h.output, g.size.trans h.size, fun k hk => (g.block k hk).trans (h.block k hk)⟩
section
variable {P : Program} {ops : Array Oper} {Q : Exit → Act → World → Prop} {a : Act} {w : World} {rest : List Oper} {o : Oper}
theorem wpl_putU (hgd : o.guard = none) (hdn : o.dst = none) (t : TypeId) (x y : Operand) (ho : o.op = .store t x y) (hi0 : (P.info? t).map (·.size) = some 1)
    (b j : Nat) (arr : Array Value) (T : TypeId) (k : IntKind) (z : Int) (hx : a.eval x = .pointer (some ⟨b, j, none⟩)) (hy : a.eval y = .int k z) (hb : Blk w b arr T) (hj : j < arr.size) {w0 : World} (hu : Upd w0 w b)
    (h : ∀ w', Upd w0 w' b → Blk w' b (arr.setIfInBounds j (.int k z)) T → wpList P ops Q rest a w') : wpList P ops Q (o :: rest) a w :=
  wpl_put hgd hdn t x y ho hi0 b j arr T k z hx hy hb hj fun w' hu' hb' => h w' (hu.trans hu') hb'
end
theorem tb_one (n : Nat) (f : Nat → UInt8) : ∀ v ∈ (tb n f).toList, v.oneCell' = true := by
  intro v hv; simp [tb] at hv; obtain ⟨j, _, rfl⟩ := hv; rfl
theorem tb_all (n m : Nat) (f : Nat → UInt8) (h : 0 + n = m) : (tb n f).extract 0 m = tb n f := by
  subst h; rw [Nat.zero_add]
  have := Array.extract_size (xs := tb n f)
  rw [tb_size] at this; exact this
section
variable {P : Program} {ops : Array Oper} {Q : Exit → Act → World → Prop} {a : Act} {w : World} {rest : List Oper} {o : Oper}
/-- A whole array of bytes written into its block. -/
theorem wpl_storeB (hgd : o.guard = none) (hdn : o.dst = none) (t : TypeId) (x y : Operand) (ho : o.op = .store t x y) (n : Nat) (hi0 : (P.info? t).map (·.size) = some n)
    (b : Nat) (arr : Array Value) (T : TypeId) (f : Nat → UInt8) (hx : a.eval x = .pointer (some ⟨b, 0, none⟩)) (hy : a.eval y = .agg (tb n f)) (hb : Blk w b arr T) (hn : arr.size = n)
    (h : ∀ w', Upd w w' b → Blk w' b (tb n f) T → wpList P ops Q rest a w') : wpList P ops Q (o :: rest) a w := by
  refine wpList_plain hgd fun K hK => ?_
  obtain ⟨i, hi, hsize⟩ := Option.map_eq_some_iff.1 hi0
  unfold Oper.wp execOp
  have hl := storeCells_run P w b hb.lt T (tb n f).toList 0 arr (by simp [tb_size, hn]) (tb_one n f)
  rw [putBlk_self hb, foldset_all _ _ (by simp [tb_size, hn])] at hl
  simp only [ho, hx, hy, Instr.storeAt, Instr.sureAddr, storeVar, sizeOf, typeInfo, hi, hsize, Sem.run_bind, Sem.run_pure, run_program, Result.andThen_ok, Value.cells, tb_size, ne_eq, not_true, if_false, hl]
  simp only [Oper.upon_skip, hdn, Act.put]
  exact hK _ _ (h _ (putBlk_upd _ _ _) (putBlk_blk hb))
end
/-- A result that is a row of bytes in its block. -/
theorem ret_cellB {P : Program} {fn : Func} {R : Ending → World → Prop} {a : Act} {w : World} (p : Tmp) (t : TypeId) (hf : fn.results = #[.cell p t]) (n : Nat) (e : TypeId) (ht : P.underlying t = some (.array n e)) (hi0 : (P.info? t).map (·.size) = some n)
    (b : Nat) (f : Nat → UInt8) (T : TypeId) (hx : a.tmps.getD p undef = .pointer (some ⟨b, 0, none⟩)) (hb : Blk w b (tb n f) T) (hd : a.defers = []) (hR : R (.returned (.agg (tb n f))) w) : bodyPost P fn R .ret a w := by
  refine bodyPost_ret ?_ hd hR
  have hl := loadVar_run P w t n e ht hi0 b 0 (tb n f) T hb (by simp [tb_size])
  rw [tb_all _ _ _ rfl] at hl
  have hx' : a.tmps[p]?.getD undef = .pointer (some ⟨b, 0, none⟩) := by rw [← hx]; simp
  simp only [results, hf]
  simp [hx', asAddr, hl]
end Go.Proofs.YtkapkphhceknfaaGreatDoor
namespace Go.Proofs.YtkapkphhceknfaaGreatDoor
open Go.RowKit
attribute [local go_sem] I_addm
theorem szU : (Tryz.prog.info? 155).map (·.size) = some 1 := by kernel_rfl
theorem quarter_q (a b c d : BitVec 32) (w : World) :
    Calls Tryz.prog 109 #[.int .u32 (I a), .int .u32 (I b), .int .u32 (I c), .int .u32 (I d)] w fun e w' => e = .returned (.tuple #[.int .u32 (I (qr a b c d).a), .int .u32 (I (qr a b c d).b), .int .u32 (I (qr a b c d).c), .int .u32 (I (qr a b c d).d)]) ∧ ∃ n, w' = w.drewN n :=
  (quarter_any a b c d w).mono fun _ _ ⟨h1, h2⟩ => ⟨h1, 0, h2⟩
theorem tab_qat (f : Nat → BitVec 32) (i j k l : Nat) : ((((tab 16 f).setIfInBounds i (.int .u32 (I (qr (f i) (f j) (f k) (f l)).a))).setIfInBounds j (.int .u32 (I (qr (f i) (f j) (f k) (f l)).b))).setIfInBounds k (.int .u32 (I (qr (f i) (f j) (f k) (f l)).c))).setIfInBounds l (.int .u32 (I (qr (f i) (f j) (f k) (f l)).d)) = tab 16 (qat f i j k l) := by
  rw [tab_set, tab_set, tab_set, tab_set]; rfl
set_option maxRecDepth 100000 in
set_option maxHeartbeats 1000000 in
theorem bytes_any (f : Nat → BitVec 32) (w : World) :
    Calls Tryz.prog 94 #[.agg (tab 16 f)] w fun e w' => e = .returned (.agg (tb 64 (blkB f))) ∧ Below w.heap.size w w' := by
  go_enter Tryz.func94, Tryz.ntmps94
  go_wp2_with (first
    | (refine wpl_load rfl 166 _ rfl 16 155 Tryz.underlying166 szS _ _ _ _ rfl ((Blk.new w (tab 16 f) 166).alloc _) (by simp [tab_size]) ?_; rw [tab_all _ _ _ (Nat.zero_add _)])
    | (refine wpl_store_u rfl rfl 166 _ _ rfl 16 szS _ _ _ f rfl rfl (Blk.new' _ _ _ (by simp)) rfl ?_; intro w1 hu1 j1)
    | fail)
  have j0 : Blk w1 w.heap.size (tab 16 f) 166 := (((Blk.new w (tab 16 f) 166).alloc _).alloc _).upd hu1 (by omega)
  have jz : Blk w1 (w.heap.size + 1) (tb 64 (fun _ => 0)) 168 := ((Blk.new' _ (tb 64 (fun _ => 0)) 168 (by simp)).alloc _).upd hu1 (by omega)
  have jb : Below w.heap.size w w1 := below_upd ((((Below.refl _ _).alloc (Nat.le_refl _) _).alloc (by simp) _).alloc (by simp; omega) _) hu1 (by omega)
  clear hu1
  go_loopw [16] (fun i wr => ∃ r : Nat, r ≤ 10 ∧ i = .int .i64 r ∧ Blk wr (w.heap.size + 1 + 1) (tab 16 (dbl f r)) 166 ∧ Blk wr w.heap.size (tab 16 f) 166 ∧ Blk wr (w.heap.size + 1) (tb 64 (fun _ => 0)) 168 ∧ Below w.heap.size w wr) (fun i _ => 10 - (intOf i).toNat)
  case atStart => exact ⟨0, by omega, rfl, j1, j0, jz, jb⟩
  case round =>
    clear j1 j0 jz jb
    obtain ⟨r, hr, rfl, j1, j0, jz, jb⟩ := hrel
    by_cases hlt : r < 10
    · go_wp2_with fail
      go_loopw [18] (fun i wr => ∃ m : Nat, m ≤ 4 ∧ i = .int .i64 m ∧ Blk wr (w.heap.size + 1 + 1) (tab 16 (col (dbl f r) m)) 166 ∧ Blk wr w.heap.size (tab 16 f) 166 ∧ Blk wr (w.heap.size + 1) (tb 64 (fun _ => 0)) 168 ∧ Below w.heap.size w wr) (fun i _ => 4 - (intOf i).toNat)
      case atStart => exact ⟨0, by omega, rfl, j1, j0, jz, jb⟩
      case round =>
        clear j1 j0 jz jb
        obtain ⟨m, hm, rfl, j1, j0, jz, jb⟩ := hrel
        by_cases hlm : m < 4
        · have c0 := j1.tcell m (by omega)
          have c1 := j1.tcell (4 + m) (by omega)
          have c2 := j1.tcell (8 + m) (by omega)
          have c3 := j1.tcell (12 + m) (by omega)
          go_wp2_with fail
          refine region_h 4 18 22 (fun w' => ∃ n, w' = wr.drewN n) mixed (by kernel_rfl) (fun _ _ _ _ _ h => h) ⟨1, rfl⟩ ?_
          simp only [List.take_succ_cons, List.take_zero, List.drop_succ_cons, List.drop_zero, Nat.reduceSub]
          repeat (refine wpPure_cons _ rfl rfl _ (fun w' => by go_simp; rfl) ?_)
          refine wpPure_nil ?_
          simp only [Act.put, List.setIfInBounds_toArray, List.set_cons_succ, List.set_cons_zero]
          repeat (go_big_quiet_step ((go_at_call 109; refine Calls.quiet_of (quarter_q _ _ _ _ _))))
          refine wpQuiet_nil ?_
          rintro w' ⟨n2, rfl⟩
          repeat (refine wpPure_cons _ rfl rfl _ (fun w' => by go_simp; rfl) ?_)
          refine wpPure_nil ?_
          simp only [Act.put, List.setIfInBounds_toArray, List.set_cons_succ, List.set_cons_zero]
          have hu := Upd.refl (wr.drewN n2) (w.heap.size + 1 + 1)
          have jj := j1.drewN n2
          clear j1 c0 c1 c2 c3
          go_wp2_with (refine wpl_putU rfl rfl 155 _ _ rfl szU _ _ _ _ _ _ rfl rfl jj (by simp [tab_size]; omega) hu ?_; clear hu jj; intro w' hu jj)
          go_roundw
          case rel =>
            rw [tab_qat] at jj
            exact ⟨m + 1, by omega, by go_num, jj, (j0.drewN n2).upd hu (by omega), (jz.drewN n2).upd hu (by omega), below_upd (below_drewN jb n2) hu (by omega)⟩
          case measure => simp [intOf]; omega
        · have hm' : m = 4 := by omega
          subst hm'
          go_wp2_with fail
          rw [show (((4 : Nat) : Int)) = 4 from rfl]
          go_loopw [54] (fun i wr => ∃ m : Nat, m ≤ 4 ∧ i = .int .i64 m ∧ Blk wr (w.heap.size + 1 + 1) (tab 16 (dia (col (dbl f r) 4) m)) 166 ∧ Blk wr w.heap.size (tab 16 f) 166 ∧ Blk wr (w.heap.size + 1) (tb 64 (fun _ => 0)) 168 ∧ Below w.heap.size w wr) (fun i _ => 4 - (intOf i).toNat)
          case atStart => exact ⟨0, by omega, rfl, j1, j0, jz, jb⟩
          case round =>
            clear j1 j0 jz jb
            obtain ⟨m, hm, rfl, j1, j0, jz, jb⟩ := hrel
            by_cases hlm : m < 4
            · have c0 := fun j (hj : j < 16) => j1.tcell j hj
              have EM : Hid (dia (col (dbl f r) 4) (m + 1) = qat (dia (col (dbl f r) 4) m) m (4 + (m + 1) % 4) (8 + (m + 2) % 4) (12 + (m + 3) % 4)) := rfl
              obtain ⟨m1, em1⟩ : ∃ m1, Hid (m1 = m + 1) := ⟨_, rfl⟩
              generalize dia (col (dbl f r) 4) m = g at *
              obtain rfl | rfl | rfl | rfl : m = 0 ∨ m = 1 ∨ m = 2 ∨ m = 3 := by omega
              all_goals
                go_wp2_with fail
                refine region_h 4 18 22 (fun w' => ∃ n, w' = wr.drewN n) mixed (by kernel_rfl) (fun _ _ _ _ _ h => h) ⟨1, rfl⟩ ?_
                simp only [List.take_succ_cons, List.take_zero, List.drop_succ_cons, List.drop_zero, Nat.reduceSub]
                repeat (refine wpPure_cons _ rfl rfl _ (fun w' => by go_simp; rfl) ?_)
                refine wpPure_nil ?_
                simp only [Act.put, List.setIfInBounds_toArray, List.set_cons_succ, List.set_cons_zero]
                repeat (go_big_quiet_step ((go_at_call 109; refine Calls.quiet_of (quarter_q _ _ _ _ _))))
                refine wpQuiet_nil ?_
                rintro w' ⟨n2, rfl⟩
                repeat (refine wpPure_cons _ rfl rfl _ (fun w' => by go_simp; rfl) ?_)
                refine wpPure_nil ?_
                simp only [Act.put, List.setIfInBounds_toArray, List.set_cons_succ, List.set_cons_zero]
                have hu := Upd.refl (wr.drewN n2) (w.heap.size + 1 + 1)
                have jj := j1.drewN n2
                clear j1 c0
                go_wp2_with (refine wpl_putU rfl rfl 155 _ _ rfl szU _ _ _ _ _ _ rfl rfl jj (by simp [tab_size]) hu ?_; clear hu jj; intro w' hu jj)
                go_light
                rw [tab_qat] at jj
                refine ⟨⟨m1, by rw [em1.out]; omega, by rw [em1.out]; go_num, by rw [em1.out, EM.out]; exact jj, (j0.drewN n2).upd hu (by omega), (jz.drewN n2).upd hu (by omega), below_upd (below_drewN jb n2) hu (by omega)⟩, by simp [intOf]⟩
            · have hm' : m = 4 := by omega
              subst hm'
              go_wp2_with fail
              go_light
              exact ⟨⟨r + 1, by omega, by go_num, j1, j0, jz, jb⟩, by simp [intOf]; omega⟩
    · have hr' : r = 10 := by omega
      subst hr'
      go_wp2_with fail
      rw [show (((10 : Nat) : Int)) = 10 from rfl]
      have l1 := j1.lt
      have k1 := j1.alloc (.cells (tb 64 (uptoB (blkB f) 0)) 168)
      have k0 := j0.alloc (.cells (tb 64 (uptoB (blkB f) 0)) 168)
      have kz := jz.alloc (.cells (tb 64 (uptoB (blkB f) 0)) 168)
      have kb := jb.alloc (by omega) (.cells (tb 64 (uptoB (blkB f) 0)) 168)
      have kn := Blk.new wr (tb 64 (uptoB (blkB f) 0)) 168
      obtain ⟨B, hB⟩ : ∃ B, Hid (B = wr.heap.size) := ⟨_, rfl⟩
      rw [← hB.out] at kn l1
      rw [← hB.out]
      clear j1 j0 jz jb
      go_loopw [97] (fun i wr => ∃ k : Nat, k ≤ 64 ∧ i = .int .i64 k ∧ Blk wr B (tb 64 (uptoB (blkB f) k)) 168 ∧ Blk wr (w.heap.size + 1 + 1) (tab 16 (dbl f 10)) 166 ∧ Blk wr w.heap.size (tab 16 f) 166 ∧ Blk wr (w.heap.size + 1) (tb 64 (fun _ => 0)) 168 ∧ Below w.heap.size w wr) (fun i _ => 64 - (intOf i).toNat)
      case atStart => exact ⟨0, by omega, rfl, kn, k1, k0, kz, kb⟩
      case round =>
        clear kn k1 k0 kz kb
        obtain ⟨k, hk, rfl, kn, k1, k0, kz, kb⟩ := hrel
        by_cases hlk : k < 64
        · have c1 := fun j (hj : j < 16) => k1.tcell j hj
          have c0 := fun j (hj : j < 16) => k0.tcell j hj
          have b0 : (k : Int) / 4 < 16 := by omega
          have b2 : k / 4 < 16 := by omega
          have b1 : 0 ≤ 8 * ((k : Int) % 4) := by omega
          go_wp2_with fail
          go_quiet (fail)
          have jj := kn.drewN nq
          clear c1 c0
          have hc := fun j (hj : j < 64) => jj.bcell j hj
          have hf := fun j => jj.frozen j
          go_wp2
          go_roundw
          case rel =>
            refine ⟨k + 1, by omega, by go_num, ?_, (k1.drewN nq).setOther _ (by simp; omega) _, (k0.drewN nq).setOther _ (by simp; omega) _, (kz.drewN nq).setOther _ (by simp; omega) _, (below_drewN kb nq).setCell (by simp; omega) _⟩
            rw [← blkB_eq f k]
            have := jj.set k (.int .u8 ((blkB f k).toNat : Int))
            rw [tb_upto_succ _ _ _ _ rfl] at this
            exact this
          case measure => simp [intOf]; omega
        · have hk' : k = 64 := by omega
          subst hk'
          rw [tb_full] at kn
          go_wp2_with (first
            | (refine wpl_load rfl 168 _ rfl 64 5 Tryz.underlying168 szB _ _ _ _ rfl kn (by simp [tb_size]) ?_; rw [tb_all _ _ _ (Nat.zero_add _)])
            | (refine wpl_storeB rfl rfl 168 _ _ rfl 64 szB _ _ _ _ rfl rfl kz (by simp [tb_size]) ?_; intro w3 hu3 j5))
          refine ret_cellB 2 168 rfl 64 5 Tryz.underlying168 szB _ _ _ rfl j5 rfl ⟨rfl, below_upd kb hu3 (by omega)⟩
end Go.Proofs.YtkapkphhceknfaaGreatDoor
namespace Go.Proofs.YtkapkphhceknfaaGreatDoor
open Go.Shelf Go.RowKit
def lr : Go.Shelf.Ren := ⟨fun | 165 => 76 | 169 => 79 | 240 => 96 | 241 => 97 | 276 => 112 | 277 => 113 | 167 => 77 | n => n, fun | 72 => 150 | 70 => 148 | 37 => 87 | 75 => 36 | 127 => 171 | 164 => 98 | 80 => 154 | n => n, fun | n => n⟩
theorem lays167 : Go.Proofs.Lays.n167 Tryz.prog lr := {
  mixed := by kernel_rfl
  f167 := Tryz.func77.trans (congrArg some (by kernel_rfl))
  f240 := Tryz.func96.trans (congrArg some (by kernel_rfl))
  f276 := Tryz.func112.trans (congrArg some (by kernel_rfl))
  t0 := Tryz.underlying0
  a0 := Tryz.isAgg0
  z0 := Tryz.sizeOf0
  v0 := Tryz.zeroValue0
  t4 := Tryz.underlying4
  a4 := Tryz.isAgg4
  z4 := Tryz.sizeOf4
  v4 := Tryz.zeroValue4
  t5 := Tryz.underlying5
  a5 := Tryz.isAgg5
  z5 := Tryz.sizeOf5
  v5 := Tryz.zeroValue5
  t9 := Tryz.underlying9
  a9 := Tryz.isAgg9
  z9 := Tryz.sizeOf9
  v9 := Tryz.zeroValue9
  t20 := Tryz.underlying20
  a20 := Tryz.isAgg20
  z20 := Tryz.sizeOf20
  v20 := Tryz.zeroValue20
  t37 := Tryz.underlying87
  a37 := Tryz.isAgg87
  z37 := Tryz.sizeOf87
  v37 := Tryz.zeroValue87
  t70 := Tryz.underlying148
  a70 := Tryz.isAgg148
  z70 := Tryz.sizeOf148
  v70 := Tryz.zeroValue148
  t72 := Tryz.underlying150
  a72 := Tryz.isAgg150
  z72 := Tryz.sizeOf150
  v72 := Tryz.zeroValue150
  t75 := Tryz.underlying36
  a75 := Tryz.isAgg36
  z75 := Tryz.sizeOf36
  v75 := Tryz.zeroValue36
  t164 := Tryz.underlying98
  a164 := Tryz.isAgg98
  z164 := Tryz.sizeOf98
  v164 := Tryz.zeroValue98 }
theorem lays165 : Go.Proofs.Lays.n165 Tryz.prog lr := {
  mixed := by kernel_rfl
  f165 := Tryz.func76.trans (congrArg some (by kernel_rfl))
  f240 := Tryz.func96.trans (congrArg some (by kernel_rfl))
  f241 := Tryz.func97.trans (congrArg some (by kernel_rfl))
  f276 := Tryz.func112.trans (congrArg some (by kernel_rfl))
  f277 := Tryz.func113.trans (congrArg some (by kernel_rfl))
  t0 := Tryz.underlying0
  a0 := Tryz.isAgg0
  z0 := Tryz.sizeOf0
  v0 := Tryz.zeroValue0
  t3 := Tryz.underlying3
  a3 := Tryz.isAgg3
  z3 := Tryz.sizeOf3
  v3 := Tryz.zeroValue3
  t4 := Tryz.underlying4
  a4 := Tryz.isAgg4
  z4 := Tryz.sizeOf4
  v4 := Tryz.zeroValue4
  t9 := Tryz.underlying9
  a9 := Tryz.isAgg9
  z9 := Tryz.sizeOf9
  v9 := Tryz.zeroValue9
  t20 := Tryz.underlying20
  a20 := Tryz.isAgg20
  z20 := Tryz.sizeOf20
  v20 := Tryz.zeroValue20
  t37 := Tryz.underlying87
  a37 := Tryz.isAgg87
  z37 := Tryz.sizeOf87
  v37 := Tryz.zeroValue87
  t70 := Tryz.underlying148
  a70 := Tryz.isAgg148
  z70 := Tryz.sizeOf148
  v70 := Tryz.zeroValue148
  t72 := Tryz.underlying150
  a72 := Tryz.isAgg150
  z72 := Tryz.sizeOf150
  v72 := Tryz.zeroValue150
  t164 := Tryz.underlying98
  a164 := Tryz.isAgg98
  z164 := Tryz.sizeOf98
  v164 := Tryz.zeroValue98 }
theorem lays169 : Go.Proofs.Lays.n169 Tryz.prog lr := {
  mixed := by kernel_rfl
  f169 := Tryz.func79.trans (congrArg some (by kernel_rfl))
  t0 := Tryz.underlying0
  a0 := Tryz.isAgg0
  z0 := Tryz.sizeOf0
  v0 := Tryz.zeroValue0
  t3 := Tryz.underlying3
  a3 := Tryz.isAgg3
  z3 := Tryz.sizeOf3
  v3 := Tryz.zeroValue3
  t9 := Tryz.underlying9
  a9 := Tryz.isAgg9
  z9 := Tryz.sizeOf9
  v9 := Tryz.zeroValue9
  t37 := Tryz.underlying87
  a37 := Tryz.isAgg87
  z37 := Tryz.sizeOf87
  v37 := Tryz.zeroValue87
  t70 := Tryz.underlying148
  a70 := Tryz.isAgg148
  z70 := Tryz.sizeOf148
  v70 := Tryz.zeroValue148
  t72 := Tryz.underlying150
  a72 := Tryz.isAgg150
  z72 := Tryz.sizeOf150
  v72 := Tryz.zeroValue150
  t127 := Tryz.underlying171
  a127 := Tryz.isAgg171
  z127 := Tryz.sizeOf171
  v127 := Tryz.zeroValue171 }
theorem extra : Builder.Extra Tryz.prog lr := {
  sizeBuilder := by kernel_rfl
  liesBuilder := by kernel_rfl
  t5 := Tryz.underlying5
  a5 := Tryz.isAgg5
  z5 := Tryz.sizeOf5
  v5 := Tryz.zeroValue5
  infoByte := by kernel_rfl
  cellsByte := by kernel_rfl
  sizeByte := by kernel_rfl
  neB5 := by decide }
theorem c_grow (B b n : Nat) (w : World) (hB : B ≤ b) (hbk : w.heap[b]? = some (.cells #[.pointer none, .slice none 0 0] 150 (0, 0))) (hBw : B ≤ w.heap.size) (hn : n ≤ 281474976710656) :
    Calls Tryz.prog 76 #[.pointer (some ⟨b, 0, none⟩), .int .i64 n] w fun e w' => e = .returned (.tuple #[]) ∧ (Lib.BuilderAt 150 5 B b (.pointer (some ⟨b, 0, none⟩)) [] w' ∧ Below B w w') := Any.Builder_Grow_fresh lays165 extra B b n w hB hbk hBw hn
theorem c_writeByte (B b : Nat) (bs : List Value) (c : Int) (w : World) (h : Lib.IsBuilder 150 5 B b bs w) (hlen : bs.length + 1 ≤ 140737488355328) (hBw : B ≤ w.heap.size) :
    Calls Tryz.prog 77 #[.pointer (some ⟨b, 0, none⟩), .int .u8 c] w fun e w' => e = .returned .nilIface ∧ (Lib.BuilderAt 150 5 B b (.pointer (some ⟨b, 0, none⟩)) (bs ++ [.int .u8 c]) w' ∧ Below B w w') := Any.Builder_WriteByte lays167 extra B b bs c w h hlen hBw
theorem c_string (B b : Nat) (l : List UInt8) (w : World) (h : Lib.IsBuilder 150 5 B b (Lib.byteCells l) w) (hBw : B ≤ w.heap.size) :
    Calls Tryz.prog 79 #[.pointer (some ⟨b, 0, none⟩)] w fun e w' => e = .returned (.string ⟨l.toArray⟩) ∧ Below B w w' := Any.Builder_String_any lays169 extra B b l w h hBw
end Go.Proofs.YtkapkphhceknfaaGreatDoor
namespace Go.Proofs.YtkapkphhceknfaaGreatDoor
open Go.RowKit
set_option maxHeartbeats 400000 in
theorem holds_any (key nonce : ByteArray) (w : World) (_h1 : key.size ≤ 10000) (_h2 : nonce.size ≤ 10000) :
    Calls Tryz.prog 92 #[.string key, .string nonce] w fun e w' => e = .returned (.bool (decide (key.size = 32 ∧ nonce.size = 12))) ∧ w' = w := by
  by_cases c1 : key.size = 32
  · by_cases c2 : nonce.size = 12
    · go_enter Tryz.func92, Tryz.ntmps92
      go_wp2
      go_ret
      simp [c1, c2]
    · have d2 : decide ((nonce.size : Int) = 12) = false := by simp; omega
      go_enter Tryz.func92, Tryz.ntmps92
      go_wp2
      go_ret
      simp [c1, c2]; omega
  · have d1 : decide ((key.size : Int) = 32) = false := by simp; omega
    go_enter Tryz.func92, Tryz.ntmps92
    go_wp2
    go_ret
    simp [c1]
/-- What is told where a size is not as it must be. -/
def errArg : Value := .tuple #[.string ByteArray.empty, .iface 41 (.int .i64 1)]
theorem start_any' (key : ByteArray) (z : Int) (n : BitVec 32) (nonce : ByteArray) (w : World) (hz : z = I n) (hk : key.size = 32) (hn : nonce.size = 12) :
    Calls Tryz.prog 93 #[.string key, .int .u32 z, .string nonce] w fun e w' => e = .returned (.agg (tab 16 (stW key n nonce))) ∧ Below w.heap.size w w' := by
  subst hz; exact start_any key n nonce w hk hn
/-- What Block answers. -/
def blockV (key : ByteArray) (n : Int) (nonce : ByteArray) : Value :=
  if key.size = 32 ∧ nonce.size = 12 ∧ 0 ≤ n ∧ n ≤ 4294967295 then .tuple #[.string (sb 64 (blkB (stW key (BitVec.ofNat 32 n.toNat) nonce))), .nilIface] else errArg
end Go.Proofs.YtkapkphhceknfaaGreatDoor
