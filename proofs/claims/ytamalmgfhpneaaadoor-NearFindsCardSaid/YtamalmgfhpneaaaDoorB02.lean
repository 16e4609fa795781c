/-
  Part of the proof: a region that draws its order, with a quiet head amid operations that look at no memory.
  Part of the proof: a region that draws its order: some operations that look at no memory, or at such as stays while they wait, are taken first; the others come one behind the other.
-/
import Derived.Test.YtamalmgfhpneaaaDoorB01
import Derived.OrdersHeld
namespace Go.Proofs.YtamalmgfhpneaaaDoor
open Go.RowKit
section
variable {P : Program} {ops : Array Oper} {C : World → Prop} {Q : Exit → Act → World → Prop}
/-- What is listed behind f further operations from k on. -/
def after (listed : Array Bool) (k : Nat) : Nat → Array Bool
  | 0 => listed
  | f + 1 => after (listed.setIfInBounds k true) (k + 1) f
def lexH (ops : Array Oper) : Nat → Nat → Array Bool → Bool
  | 0, _, _ => true
  | f + 1, k, listed => (Region.ready .any ops listed).contains k && Region.free .any ops listed k && lexH ops f (k + 1) (listed.setIfInBounds k true)
/-- A row of operations each of which yields the same in whatever world. -/
def wpPure (P : Program) (L : Act → Prop) : List Oper → Act → Prop
  | [], a => L a
  | o :: l, a => ∃ d v, o.dst = some d ∧ o.guard = none ∧ (∀ w, (execOp a.eval o).run P w = .ok (.value v) w) ∧ wpPure P L l (a.put (some d) v)
theorem wpPure_nil {L : Act → Prop} {a : Act} (h : L a) : wpPure P L [] a := h
theorem wpPure_cons {L : Act → Prop} {a : Act} {o : Oper} {l : List Oper} (d : Tmp) (hd : o.dst = some d) (hg : o.guard = none) (v : Value) (hr : ∀ w, (execOp a.eval o).run P w = .ok (.value v) w) (h : wpPure P L l (a.put (some d) v)) : wpPure P L (o :: l) a := ⟨d, v, hd, hg, hr, h⟩
theorem any_pure {L : Act → Prop} {g : Nat} {w : World} (hsel : Region.noSelect ops = true) (hQ : ∀ c a d v w, Q (.panic c) (a.put (some d) v) w → Q (.panic c) a w) (l : List Oper) :
    ∀ (k : Nat) (listed : Array Bool) (a : Act), (∀ j, j < l.length → l[j]? = ops[k + j]?) → lexH ops l.length k listed = true → wpPure P L l a →
      (∀ a', L a' → wpAny P .any ops Q g (after listed k l.length) a' w) → wpAny P .any ops Q (l.length + g) listed a w := by
  induction l with
  | nil => intro k listed a _ _ h hL; rw [List.length_nil, Nat.zero_add]; exact hL a h
  | cons o l ih =>
    intro k listed a hl hB h hL
    have h0 : ops[k]? = some o := by simpa using (hl 0 (by simp)).symm
    simp only [List.length_cons, lexH, Bool.and_eq_true] at hB
    obtain ⟨d, v, hd, hg, hv, h2⟩ := h
    rw [List.length_cons, show l.length + 1 + g = (l.length + g) + 1 from by omega]
    refine wpAny_take (v := v) h0 hsel hB.1.2 hB.1.1 (fun c a w h => by rw [hd] at h; exact hQ _ _ _ _ _ h) (Or.inl ⟨by simp [Region.wanted, hg], hv⟩) ?_
    rw [hd]
    exact ih (k + 1) _ _ (fun j hj => by have := hl (j + 1) (by simp; omega); rw [List.getElem?_cons_succ] at this; rw [this]; congr 1; omega) hB.2 h2 (fun a' h' => hL a' h')
def sinkH (ops : Array Oper) (m n : Nat) : Bool :=
  (List.range (n - 1)).all fun i => decide (i < m) || (List.range n).any fun j => decide (i < j) && Region.waitsFor .any ops j i
def chainH (ops : Array Oper) (n : Nat) : Bool :=
  (List.range ops.size).all fun t => decide (t < n) || Region.waitsFor .any ops t (n - 1)
theorem tail_waitsH {m n : Nat} {listed : Array Bool} (hs : sinkH ops m n = true) (hc : chainH ops n = true) (hn : n < ops.size) (inv : HeadInv .any ops n listed) :
    ∀ (d i : Nat), n - i = d → m ≤ i → i < n → listed.getD i true = false → ∀ t, n ≤ t → t ∉ Region.ready .any ops listed := by
  intro d
  induction d using Nat.strongRecOn with
  | _ d ih =>
    intro i hd hm hi hun t ht hr
    by_cases hin : i = n - 1
    · obtain ⟨_, ot, hot, hall⟩ := mem_ready.1 hr
      have htlt : t < ops.size := (Array.getElem?_eq_some_iff.1 hot).1
      have h1 := List.all_eq_true.1 hc t (List.mem_range.2 htlt)
      simp only [Bool.or_eq_true, decide_eq_true_eq] at h1
      rcases h1 with h1 | h1
      · omega
      · obtain ⟨o', ho', e, he, hb, hon⟩ := Region.waitsFor_spec h1
        have : o' = ot := Option.some.inj (ho'.symm.trans hot)
        subst this
        have h2 := hall e he hb
        rw [hon, ← hin, getD_both hun] at h2
        cases h2
    · have h1 := List.all_eq_true.1 hs i (List.mem_range.2 (by omega))
      simp only [Bool.or_eq_true, decide_eq_true_eq] at h1
      rcases h1 with h1 | h1
      · omega
      · obtain ⟨j, hj, hj2⟩ := List.any_eq_true.1 h1
        simp only [Bool.and_eq_true, decide_eq_true_eq] at hj2
        obtain ⟨oj, hoj, e, he, hb, hon⟩ := Region.waitsFor_spec hj2.2
        have hjn : j < n := List.mem_range.1 hj
        cases hl : listed.getD j false with
        | true =>
          have h2 := inv.closed j oj hoj hl e he hb
          rw [hon, getD_both hun] at h2
          cases h2
        | false =>
          have hjs : j < listed.size := by rw [inv.size]; omega
          exact ih (n - j) (by omega) j rfl (by omega) hjn (getD_in hjs hl) t ht hr
theorem headH_first {m n i : Nat} {oi : Oper} {v : Value} {L : Array Bool → Act → Prop} (hi : ops[i]? = some oi) (hsel : ∀ (j : Nat) (o : Oper) cs b, ops[j]? = some o → o.op ≠ .select cs b)
    (hs : sinkH ops m n = true) (hc : chainH ops n = true) (hn : n < ops.size) (him : m ≤ i) (hin : i < n) (hdone : ∀ listed a, L listed a → ∀ j ∈ Region.ready .any ops listed, n ≤ j) (f : Nat) :
    ∀ (listed : Array Bool) (a : Act), HeadInv .any ops n listed →
      (∀ j oj, ops[j]? = some oj → j ≠ i → listed.getD j true = false → (∀ e ∈ oj.after, Region.binds .any e = true → e.on ≠ i) → oi.apart ops oj = true) →
      i ∈ Region.ready .any ops listed → YieldsIn P ops C oi v a → headQ P ops C n L f (listed.setIfInBounds i true) (a.put oi.dst v) → headQ P ops C n L (f + 1) listed a := by
  induction f with
  | zero =>
    intro listed a inv _ hr hy H
    refine ⟨List.ne_nil_of_mem hr, fun j hj => ?_⟩
    have hjn : j < n := Nat.lt_of_not_le fun hge => tail_waitsH hs hc hn inv _ i rfl him hin (mem_ready.1 hr).1 j hge hj
    by_cases e : j = i
    · subst e; exact ⟨hjn, hy.qOp hi H⟩
    · exact absurd (hdone _ _ H j (ready_mono hj e)) (by omega)
  | succ f ih =>
    intro listed a inv hfree hr hy H
    have hun := (mem_ready.1 hr).1
    refine ⟨List.ne_nil_of_mem hr, fun j hj => ?_⟩
    have hjn : j < n := Nat.lt_of_not_le fun hge => tail_waitsH hs hc hn inv _ i rfl him hin hun j hge hj
    by_cases e : j = i
    · subst e; exact ⟨hjn, hy.qOp hi H⟩
    · obtain ⟨hjun, oj, hoj, hall⟩ := mem_ready.1 hj
      have hap : oi.apart ops oj = true := hfree j oj hoj e hjun fun x hx hb hxi => by
        have := hall x hx hb; rw [hxi, getD_both hun] at this; cases this
      have h2 := qOp_put hoj hap (fun cs b => hsel i oi cs b hi) (fun cs b => hsel j oj cs b hoj) hy (H.2 j (ready_mono hj e)).2
      refine ⟨hjn, qOp_mono (fun a' h3 => ih _ a' (inv.set hj hjn) (fun k ok hk hki hku hno => hfree k ok hk hki ?_ hno) (ready_mono hr (Ne.symm e)) h3.1 ?_) h2⟩
      · by_cases ejk : j = k
        · subst ejk; exact hjun
        · rw [getD_set_ne true ejk] at hku; exact hku
      · rw [Array.setIfInBounds_comm _ _ e]; exact h3.2
theorem headH_lex {m n : Nat} {Lq : Act → Prop} {fin : Array Bool} (hsel : Region.noSelect ops = true) (hs : sinkH ops m n = true) (hc : chainH ops n = true) (hn : n < ops.size) (hfin : ∀ j ∈ Region.ready .any ops fin, n ≤ j) (l : List Oper) :
    ∀ (k : Nat) (listed : Array Bool) (a : Act), (∀ j, j < l.length → l[j]? = ops[k + j]?) → m ≤ k → k + l.length = n → HeadInv .any ops n listed → after listed k l.length = fin →
    lexH ops l.length k listed = true → wpQuiet P ops C Lq l a → headQ P ops C n (fun listed' a' => listed' = fin ∧ Lq a') l.length listed a := by
  induction l with
  | nil => intro k listed a _ _ _ _ hf _ h; exact ⟨hf, h⟩
  | cons o l ih =>
    intro k listed a hl hmk hk inv hf hB h
    rw [List.length_cons] at hk
    have h0 : ops[k]? = some o := by simpa using (hl 0 (by simp)).symm
    simp only [List.length_cons, lexH, Bool.and_eq_true] at hB
    have hr : k ∈ Region.ready .any ops listed := by simpa using hB.1.1
    have hst : qOp P ops C k (wpQuiet P ops C Lq l) a := by unfold qOp; simp only [h0]; exact h
    obtain ⟨v, hy, hK⟩ := yieldsIn_of_qOp h0 hst
    refine headH_first (L := fun listed' a' => listed' = fin ∧ Lq a') h0 (Region.noSelect_spec hsel) hs hc hn hmk (by omega) (fun _ _ hL j hj => hfin j (by rw [← hL.1]; exact hj)) l.length listed a inv (Region.free_spec h0 hB.1.2) hr hy ?_
    exact ih (k + 1) _ _ (fun j hj => by have := hl (j + 1) (by simp; omega); rw [List.getElem?_cons_succ] at this; rw [this]; congr 1; omega) (by omega) (by omega) (inv.set hr (by omega)) hf hB.2 hK
def closedB (ops : Array Oper) (listed : Array Bool) : Bool :=
  (List.range ops.size).all fun j => !listed.getD j false || match ops[j]? with | some oj => oj.after.all (fun e => !Region.binds .any e || listed.getD e.on false) | none => true
def tailB (ops : Array Oper) (n : Nat) (listed : Array Bool) : Bool := (List.range ops.size).all fun t => decide (t < n) || !listed.getD t true
theorem headInv_of {n : Nat} {listed : Array Bool} (h0 : listed.size = ops.size) (h1 : closedB ops listed = true) (h2 : tailB ops n listed = true) : HeadInv .any ops n listed := by
  refine ⟨h0, fun j oj hj hl e he hb => ?_, fun t ht htl => ?_⟩
  · have := List.all_eq_true.1 h1 j (List.mem_range.2 (Array.getElem?_eq_some_iff.1 hj).1)
    simp only [hl, hj, Bool.not_true, Bool.false_or] at this
    have := Array.all_eq_true_iff_forall_mem.1 this e he
    simpa [hb] using this
  · have := List.all_eq_true.1 h2 t (List.mem_range.2 htl)
    simp only [Bool.or_eq_true, decide_eq_true_eq, Bool.not_eq_true'] at this
    rcases this with h | h
    · omega
    · exact h
theorem after_size (f : Nat) : ∀ (listed : Array Bool) (k : Nat), (after listed k f).size = listed.size := by
  induction f with
  | zero => intro _ _; rfl
  | succ f ih => intro listed k; simp only [after]; rw [ih]; simp
def checkH (ops : Array Oper) (m n p : Nat) : Bool :=
  let z := Array.replicate ops.size false
  let zm := after z 0 m
  let zn := after zm m (n - m)
  let zp := after zn n (p - n)
  Region.noSelect ops && decide (m < n) && decide (n ≤ p) && decide (n < ops.size) && decide (p ≤ ops.size) && lexH ops m 0 z && closedB ops zm && tailB ops n zm && sinkH ops m n && chainH ops n && lexH ops (n - m) m zm &&
    (Region.ready .any ops zn).all (fun j => decide (n ≤ j)) && lexH ops (p - n) n zn && Region.seqB .any ops (ops.size - p) p zp
/-- A region that draws its order: first m operations that look at no memory, then quiet ones, then again some that look at no memory, and the others one behind the other. -/
theorem region_h {id : Nat} {a : Act} {w : World} {l : List Oper} (m n p : Nat) (C : World → Prop) (hm : P.follows .mixedOrders = true) (hB : checkH l.toArray m n p = true) (hQ : ∀ c a d v w, Q (.panic c) (a.put (some d) v) w → Q (.panic c) a w) (hC : C w.drew)
    (h : wpPure P (fun a1 => wpQuiet P l.toArray C (fun a2 => ∀ w', C w' → wpPure P (fun a3 => wpList P l.toArray Q (l.drop p) a3 w') ((l.drop n).take (p - n)) a2) ((l.drop m).take (n - m)) a1) (l.take m) a) : (Code.region id l.toArray true).wp P Q a w := by
  simp only [checkH, Bool.and_eq_true, decide_eq_true_eq] at hB
  obtain ⟨⟨⟨⟨⟨⟨⟨⟨⟨⟨⟨⟨⟨hsel, hmn⟩, hnp⟩, hns⟩, hps⟩, b1⟩, b2⟩, b3⟩, b4⟩, b5⟩, b6⟩, b7⟩, b8⟩, b9⟩ := hB
  have hsz : l.toArray.size = l.length := by simp
  have t1 : (l.take m).length = m := by rw [List.length_take]; omega
  have t2 : ((l.drop m).take (n - m)).length = n - m := by rw [List.length_take, List.length_drop]; omega
  have t3 : ((l.drop n).take (p - n)).length = p - n := by rw [List.length_take, List.length_drop]; omega
  have t4 : (l.drop p).length = l.toArray.size - p := by rw [List.length_drop]; omega
  refine wp_region_any hm ?_
  have e : l.toArray.size = (l.take m).length + ((n - m) + ((p - n) + (l.toArray.size - p))) := by rw [t1]; omega
  rw [show wpAny P .any l.toArray Q l.toArray.size = wpAny P .any l.toArray Q ((l.take m).length + ((n - m) + ((p - n) + (l.toArray.size - p)))) from by rw [← e]]
  refine any_pure hsel hQ (l.take m) 0 _ a (fun j hj => by rw [t1] at hj; rw [List.getElem?_take, if_pos hj, Nat.zero_add, List.getElem?_toArray]) (by rw [t1]; exact b1) h ?_
  intro a1 h1
  rw [t1]
  have H := headH_lex (P := P) (C := C) (fin := after (after (Array.replicate l.toArray.size false) 0 m) m (n - m)) hsel b4 b5 hns (fun j hj => by simpa using List.all_eq_true.1 b7 j hj) ((l.drop m).take (n - m)) m (after (Array.replicate l.toArray.size false) 0 m) a1
    (fun j hj => by rw [t2] at hj; rw [List.getElem?_take, if_pos hj, List.getElem?_drop, List.getElem?_toArray]) (Nat.le_refl _) (by rw [t2]; omega) (headInv_of (by rw [after_size]; simp) b2 b3) (by rw [t2]) (by rw [t2]; exact b6) h1
  rw [t2] at H
  refine any_of_headQ (Q := Q) (fun listed a2 w' hw' hL => ?_) _ _ _ _ hC H
  obtain ⟨rfl, h2⟩ := hL
  have h3 := h2 w' hw'
  have := any_pure (g := l.toArray.size - p) (w := w') hsel hQ ((l.drop n).take (p - n)) n _ a2 (fun j hj => by rw [t3] at hj; rw [List.getElem?_take, if_pos hj, List.getElem?_drop, List.getElem?_toArray]) (by rw [t3]; exact b8) h3 (fun a3 h4 => by
    rw [t3]
    have := wpAny_of_seq (md := .any) (Q' := Q) (l.drop p) p _ a3 w' (fun j => by rw [List.getElem?_drop, List.getElem?_toArray]) (by rw [t4]; exact b9) h4
    rwa [t4] at this)
  rwa [t3] at this
end
theorem Upd.refl (w : World) (b : Nat) : Upd w w b := ⟨rfl, rfl, rfl, rfl, fun _ _ => rfl⟩
theorem Upd.trans {w w' w'' : World} {b : Nat} (h : Upd w w' b) (g : Upd w' w'' b) : Upd w w'' b :=
  ⟨g.os.trans h.os, g.tape.trans h.tape, g.output.trans h.output, g.size.trans h.size, fun k hk => (g.block k hk).trans (h.block k hk)⟩
section
variable {P : Program} {ops : Array Oper} {Q : Exit → Act → World → Prop} {a : Act} {w : World} {rest : List Oper} {o : Oper}
theorem wpl_putU (hgd : o.guard = none) (hdn : o.dst = none) (t : TypeId) (x y : Operand) (ho : o.op = .store t x y) (hi0 : (P.info? t).map (·.size) = some 1)
    (b j : Nat) (arr : Array Value) (T : TypeId) (k : IntKind) (z : Int) (hx : a.eval x = .pointer (some ⟨b, j, none⟩)) (hy : a.eval y = .int k z) (hb : Blk w b arr T) (hj : j < arr.size) {w0 : World} (hu : Upd w0 w b)
    (h : ∀ w', Upd w0 w' b → Blk w' b (arr.setIfInBounds j (.int k z)) T → wpList P ops Q rest a w') : wpList P ops Q (o :: rest) a w :=
  wpl_put hgd hdn t x y ho hi0 b j arr T k z hx hy hb hj fun w' hu' hb' => h w' (hu.trans hu') hb'
end
theorem tb_one (n : Nat) (f : Nat → UInt8) : ∀ v ∈ (tb n f).toList, v.oneCell' = true := by
  intro v hv; simp [tb] at hv; obtain ⟨j, _, rfl⟩ := hv; rfl
theorem tb_all (n m : Nat) (f : Nat → UInt8) (h : 0 + n = m) : (tb n f).extract 0 m = tb n f := by
  subst h; rw [Nat.zero_add]
  have := Array.extract_size (xs := tb n f)
  rw [tb_size] at this; exact this
section
variable {P : Program} {ops : Array Oper} {Q : Exit → Act → World → Prop} {a : Act} {w : World} {rest : List Oper} {o : Oper}
/-- A whole array of bytes written into its block. -/
theorem wpl_storeB (hgd : o.guard = none) (hdn : o.dst = none) (t : TypeId) (x y : Operand) (ho : o.op = .store t x y) (n : Nat) (hi0 : (P.info? t).map (·.size) = some n)
    (b : Nat) (arr : Array Value) (T : TypeId) (f : Nat → UInt8) (hx : a.eval x = .pointer (some ⟨b, 0, none⟩)) (hy : a.eval y = .agg (tb n f)) (hb : Blk w b arr T) (hn : arr.size = n)
    (h : ∀ w', Upd w w' b → Blk w' b (tb n f) T → wpList P ops Q rest a w') : wpList P ops Q (o :: rest) a w := by
  refine wpList_plain hgd fun K hK => ?_
  obtain ⟨i, hi, hsize⟩ := Option.map_eq_some_iff.1 hi0
  unfold Oper.wp execOp
  have hl := storeCells_run P w b hb.lt T (tb n f).toList 0 arr (by simp [tb_size, hn]) (tb_one n f)
  rw [putBlk_self hb, foldset_all _ _ (by simp [tb_size, hn])] at hl
  simp only [ho, hx, hy, Instr.storeAt, Instr.sureAddr, storeVar, sizeOf, typeInfo, hi, hsize, Sem.run_bind, Sem.run_pure, run_program, Result.andThen_ok, Value.cells, tb_size, ne_eq, not_true, if_false, hl]
  simp only [Oper.upon_skip, hdn, Act.put]
  exact hK _ _ (h _ (putBlk_upd _ _ _) (putBlk_blk hb))
end
/-- A result that is a row of bytes in its block. -/
theorem ret_cellB {P : Program} {fn : Func} {R : Ending → World → Prop} {a : Act} {w : World} (p : Tmp) (t : TypeId) (hf : fn.results = #[.cell p t]) (n : Nat) (e : TypeId) (ht : P.underlying t = some (.array n e)) (hi0 : (P.info? t).map (·.size) = some n)
    (b : Nat) (f : Nat → UInt8) (T : TypeId) (hx : a.tmps.getD p undef = .pointer (some ⟨b, 0, none⟩)) (hb : Blk w b (tb n f) T) (hd : a.defers = []) (hR : R (.returned (.agg (tb n f))) w) : bodyPost P fn R .ret a w := by
  refine bodyPost_ret ?_ hd hR
  have hl := loadVar_run P w t n e ht hi0 b 0 (tb n f) T hb (by simp [tb_size])
  rw [tb_all _ _ _ rfl] at hl
  have hx' : a.tmps[p]?.getD undef = .pointer (some ⟨b, 0, none⟩) := by rw [← hx]; simp
  simp only [results, hf]
  simp [hx', asAddr, hl]
end Go.Proofs.YtamalmgfhpneaaaDoor
namespace Go.Proofs.YtamalmgfhpneaaaDoor
open Go.RowKit
section
variable {P : Program} {ops : Array Oper} {Q : Exit → Act → World → Prop} {S : World → Prop} {keep : Nat → Bool}
/-- Whatever order is picked from here on; S holds behind each operation that keeps it. -/
def wpAnyS (P : Program) (ops : Array Oper) (Q : Exit → Act → World → Prop) (keep : Nat → Bool) (S : World → Prop) : Nat → Array Bool → Act → World → Prop
  | 0, listed, a, w => Region.ready .any ops listed = [] ∧ Q .normal a w
  | fuel + 1, listed, a, w =>
    (Region.ready .any ops listed = [] → Q .normal a w) ∧
    ∀ i ∈ Region.ready .any ops listed, wpOp P ops Q i (fun a' w' => (keep i = true → S w → S w') ∧ wpAnyS P ops Q keep S fuel (listed.setIfInBounds i true) a' w') a w
theorem wpAny_of_S : ∀ (fuel : Nat) (listed : Array Bool) (a : Act) (w : World), wpAnyS P ops Q keep S fuel listed a w → wpAny P .any ops Q fuel listed a w
  | 0, _, _, _, h => h
  | fuel + 1, _, _, _, h => ⟨h.1, fun i hi => wpOp_mono (fun a' w' h' => wpAny_of_S fuel _ a' w' h'.2) (h.2 i hi)⟩
def Clo (ops : Array Oper) (listed : Array Bool) : Prop := ∀ j oj, ops[j]? = some oj → listed.getD j false = true → ∀ e ∈ oj.after, Region.binds .any e = true → listed.getD e.on false = true
theorem getD_tf {l : Array Bool} {i : Nat} (h : l.getD i true = false) : l.getD i false = false := by
  rcases Nat.lt_or_ge i l.size with h' | h'
  · simp [h'] at h ⊢; exact h
  · simp [Array.getElem?_eq_none h'] at h
theorem Clo.set {listed : Array Bool} {i : Nat} (h : Clo ops listed) (hr : i ∈ Region.ready .any ops listed) : Clo ops (listed.setIfInBounds i true) := by
  intro j oj hj hl e he hb
  obtain ⟨hun, oi, hoi, hall⟩ := mem_ready.1 hr
  have up : ∀ k, listed.getD k false = true → (listed.setIfInBounds i true).getD k false = true := by
    intro k hk
    by_cases e : i = k
    · subst e; rw [getD_tf hun] at hk; cases hk
    · rw [getD_set_ne false e]; exact hk
  by_cases e' : i = j
  · subst e'
    obtain rfl : oi = oj := Option.some.inj (hoi.symm.trans hj)
    exact up _ (hall e he hb)
  · rw [getD_set_ne false e'] at hl
    exact up _ (h j oj hj hl e he hb)
theorem any_mem {α : Type} {p : α → Bool} {l : Array α} (h : l.any p = true) : ∃ x ∈ l, p x = true := by
  rw [← Array.any_toList, List.any_eq_true] at h
  obtain ⟨x, hx, h⟩ := h
  exact ⟨x, by simpa using hx, h⟩
/-- Number j waits for number i, through others perhaps. -/
def reach (ops : Array Oper) : Nat → Nat → Nat → Bool
  | 0, _, _ => false
  | f + 1, j, i => match ops[j]? with
    | none => false
    | some o => o.after.any fun e => Region.binds .any e && (e.on == i || reach ops f e.on i)
theorem reach_clo {listed : Array Bool} (hc : Clo ops listed) : ∀ (f j i : Nat), reach ops f j i = true → listed.getD j false = true → listed.getD i false = true
  | 0, _, _, h, _ => by simp [reach] at h
  | f + 1, j, i, h, hl => by
    unfold reach at h
    cases ho : ops[j]? with
    | none => simp [ho] at h
    | some o =>
      simp only [ho] at h
      obtain ⟨e, he, h2⟩ := any_mem h
      simp only [Bool.and_eq_true, Bool.or_eq_true, beq_iff_eq] at h2
      have hk := hc j o ho hl e he h2.1
      rcases h2.2 with h3 | h3
      · rw [h3] at hk; exact hk
      · exact reach_clo hc f e.on i h3 hk
theorem reach_ready {listed : Array Bool} (hc : Clo ops listed) {f j i : Nat} (h : reach ops f j i = true) (hr : j ∈ Region.ready .any ops listed) : listed.getD i false = true := by
  cases f with
  | zero => simp [reach] at h
  | succ f =>
    obtain ⟨_, oj, hoj, hall⟩ := mem_ready.1 hr
    unfold reach at h
    simp only [hoj] at h
    obtain ⟨e, he, h2⟩ := any_mem h
    simp only [Bool.and_eq_true, Bool.or_eq_true, beq_iff_eq] at h2
    have hk := hall e he h2.1
    rcases h2.2 with h3 | h3
    · rw [h3] at hk; exact hk
    · exact reach_clo hc f e.on i h3 hk
/-- What may come up, and yields the same wherever it comes up, may be taken first. -/
theorem wpAnyS_first {i : Nat} {oi : Oper} {v : Value} {S' : World → Prop} (hi : ops[i]? = some oi) (hsel : ∀ (j : Nat) (o : Oper) cs b, ops[j]? = some o → o.op ≠ .select cs b)
    (hQ : ∀ c a w, Q (.panic c) (a.put oi.dst v) w → Q (.panic c) a w) (hS' : ∀ (j : Nat) (listed : Array Bool) (w w' : World), Clo ops listed → listed.getD i true = false → j ∈ Region.ready .any ops listed → S' w → (keep j = true → S w → S w') → S' w') :
    ∀ (fuel : Nat) (listed : Array Bool) (a : Act) (w : World), Clo ops listed →
      (∀ j oj, ops[j]? = some oj → j ≠ i → listed.getD j true = false → (∀ e ∈ oj.after, Region.binds .any e = true → e.on ≠ i) → oi.apart ops oj = true) →
      i ∈ Region.ready .any ops listed → YieldsIf P ops S' oi v a → S' w →
      wpAnyS P ops Q keep S fuel (listed.setIfInBounds i true) (a.put oi.dst v) w → wpAnyS P ops Q keep S (fuel + 1) listed a w := by
  intro fuel
  induction fuel with
  | zero =>
    intro listed a w _ _ hr hy hS H
    refine ⟨fun h => (by rw [h] at hr; cases hr), fun j hj => ?_⟩
    by_cases hji : j = i
    · subst hji; exact hy.wpOp hi hS ⟨fun _ h => h, H⟩
    · have := ready_mono hj hji
      rw [H.1] at this
      cases this
  | succ fuel ih =>
    intro listed a w hc hfree hr hy hS H
    refine ⟨fun h => (by rw [h] at hr; cases hr), fun j hj => ?_⟩
    by_cases hji : j = i
    · subst hji; exact hy.wpOp hi hS ⟨fun _ h => h, H⟩
    · have h1 := H.2 j (ready_mono hj hji)
      have hun := (mem_ready.1 hr).1
      obtain ⟨hjun, oj, hoj, hall⟩ := mem_ready.1 hj
      have hnot : ∀ e ∈ oj.after, Region.binds .any e = true → e.on ≠ i := fun e he hb heq => by
        have h1 := hall e he hb
        rw [heq, getD_tf hun] at h1
        cases h1
      have h2 := wpOp_putIf hoj (hfree j oj hoj hji hjun hnot) (fun cs b => hsel i oi cs b hi) (fun cs b => hsel j oj cs b hoj) hQ hy h1
      have hfree' : ∀ k ok, ops[k]? = some ok → k ≠ i → (listed.setIfInBounds j true).getD k true = false →
          (∀ e ∈ ok.after, Region.binds .any e = true → e.on ≠ i) → oi.apart ops ok = true := fun k ok hk hki hun hno => by
        refine hfree k ok hk hki ?_ hno
        by_cases hjk : j = k
        · subst hjk; exact hjun
        · rw [getD_set_ne true hjk] at hun; exact hun
      refine wpOp_mono (fun a' w' h3 => ⟨h3.2.1, ih (listed.setIfInBounds j true) a' w' (hc.set hj) hfree' (ready_mono hr (Ne.symm hji)) h3.1 (hS' j listed w w' hc hun hj hS h3.2.1) ?_⟩) h2
      rw [Array.setIfInBounds_comm _ _ hji]
      exact h3.2.2
/-- The operations that are taken first, one behind the other: each looks at no memory, or at what S tells. -/
def wpLead (P : Program) (ops : Array Oper) (S : World → Prop) (L : Act → Prop) : List (Nat × Bool) → Act → Prop
  | [], a => L a
  | (i, pure) :: l, a => ∃ o d v, ops[i]? = some o ∧ o.dst = some d ∧ o.guard = none ∧ (∀ w, (pure = false → S w) → (execOp a.eval o).run P w = .ok (.value v) w) ∧ wpLead P ops S L l (a.put (some d) v)
theorem lead_nil {L : Act → Prop} {a : Act} (h : L a) : wpLead P ops S L [] a := h
theorem lead_nil_eq {L : Act → Prop} {a : Act} : wpLead P ops S L [] a = L a := rfl
theorem lead_pure {L : Act → Prop} {a : Act} {i : Nat} {l : List (Nat × Bool)} (o : Oper) (ho : ops[i]? = some o) (d : Tmp) (hd : o.dst = some d) (hg : o.guard = none) (v : Value) (hr : ∀ w, (execOp a.eval o).run P w = .ok (.value v) w) (h : wpLead P ops S L l (a.put (some d) v)) : wpLead P ops S L ((i, true) :: l) a :=
  ⟨o, d, v, ho, hd, hg, fun w _ => hr w, h⟩
theorem lead_read {L : Act → Prop} {a : Act} {i : Nat} {l : List (Nat × Bool)} (o : Oper) (ho : ops[i]? = some o) (d : Tmp) (hd : o.dst = some d) (hg : o.guard = none) (v : Value) (hr : ∀ w, S w → (execOp a.eval o).run P w = .ok (.value v) w) (h : wpLead P ops S L l (a.put (some d) v)) : wpLead P ops S L ((i, false) :: l) a :=
  ⟨o, d, v, ho, hd, hg, fun w hS => hr w (hS rfl), h⟩
/-- Those that come behind: first those that keep S, then the others. -/
def wpMid (P : Program) (ops : Array Oper) (Q : Exit → Act → World → Prop) (S : World → Prop) (L : Act → World → Prop) : List Nat → Act → World → Prop
  | [], a, w => L a w
  | j :: js, a, w => wpOp P ops Q j (fun a' w' => S w' ∧ wpMid P ops Q S L js a' w') a w
theorem mid_nil {L : Act → World → Prop} {a : Act} {w : World} (h : L a w) : wpMid P ops Q S L [] a w := h
theorem mid_nil_eq {L : Act → World → Prop} {a : Act} {w : World} : wpMid P ops Q S L [] a w = L a w := rfl
theorem mid_cons {L : Act → World → Prop} {a : Act} {w : World} {j : Nat} {js : List Nat} (o : Oper) (ho : ops[j]? = some o) (hg : o.guard = none) (h : ∀ K : Act → World → Prop, (∀ a' w', S w' → wpMid P ops Q S L js a' w' → K a' w') → o.wp P a w K Q) : wpMid P ops Q S L (j :: js) a w := by
  unfold wpMid wpOp
  simp only [ho, Region.wanted, hg, if_true]
  exact Or.inl (h _ fun a' w' h1 h2 => ⟨h1, h2⟩)
def leadB (ops : Array Oper) (js : List Nat) : List (Nat × Bool) → Array Bool → Bool
  | [], _ => true
  | (i, pure) :: l, listed => (Region.ready .any ops listed).contains i && Region.free .any ops listed i && (pure || js.all fun j => reach ops ops.size j i) && leadB ops js l (listed.setIfInBounds i true)
def leadL : List (Nat × Bool) → Array Bool → Array Bool
  | [], listed => listed
  | (i, _) :: l, listed => leadL l (listed.setIfInBounds i true)
def seqI (ops : Array Oper) : List Nat → Array Bool → Bool
  | [], listed => (Region.ready .any ops listed).isEmpty
  | j :: js, listed => (Region.ready .any ops listed == [j]) && seqI ops js (listed.setIfInBounds j true)
def outB (ops : Array Oper) (ms js : List Nat) (is : List (Nat × Bool)) : Bool :=
  (List.range ops.size).all fun k => ms.contains k || js.contains k || is.any fun p => p.1 == k
/-- The check of a region: a closed Bool. -/
def checkS (ops : Array Oper) (is : List (Nat × Bool)) (ms js : List Nat) : Bool :=
  let z := Array.replicate ops.size false
  Region.noSelect ops && outB ops ms js is && leadB ops js is z && seqI ops (ms ++ js) (leadL is z) && (is.length + (ms.length + js.length) == ops.size)
theorem seqI_any (keep : Nat → Bool) (S : World → Prop) : ∀ (js : List Nat) (listed : Array Bool) (a : Act) (w : World), (∀ j ∈ js, keep j = false) → seqI ops js listed = true → wpList P ops Q (js.filterMap (ops[·]?)) a w → (∀ j ∈ js, (ops[j]?).isSome = true) → wpAnyS P ops Q keep S js.length listed a w
  | [], listed, a, w, _, hB, h, _ => ⟨by simpa [seqI] using hB, h⟩
  | j :: js, listed, a, w, hk, hB, h, hs => by
    simp only [seqI, Bool.and_eq_true, beq_iff_eq] at hB
    refine ⟨fun h1 => (by rw [hB.1] at h1; cases h1), fun i hi => ?_⟩
    rw [hB.1] at hi
    have hij : i = j := by simpa using hi
    subst hij
    obtain ⟨o, ho⟩ := Option.isSome_iff_exists.1 (hs i (by simp))
    have hw : wpOp P ops Q i (wpList P ops Q (js.filterMap (ops[·]?))) a w := by
      unfold wpOp; simp only [List.filterMap_cons, ho] at h ⊢; exact h
    exact wpOp_mono (fun a' w' h' => ⟨fun hh _ => (by rw [hk i (by simp)] at hh; cases hh), seqI_any keep S js _ a' w' (fun k hk' => hk k (by simp [hk'])) hB.2 h' (fun k hk' => hs k (by simp [hk']))⟩) hw
theorem seqM_any (keep : Nat → Bool) (js : List Nat) (hkj : ∀ j ∈ js, keep j = false) (hsj : ∀ j ∈ js, (ops[j]?).isSome = true) : ∀ (ms : List Nat) (listed : Array Bool) (a : Act) (w : World), seqI ops (ms ++ js) listed = true →
    wpMid P ops Q S (fun a' w' => wpList P ops Q (js.filterMap (ops[·]?)) a' w') ms a w → wpAnyS P ops Q keep S (ms.length + js.length) listed a w
  | [], listed, a, w, hB, h => by rw [List.length_nil, Nat.zero_add]; exact seqI_any keep S js listed a w hkj hB h hsj
  | m :: ms, listed, a, w, hB, h => by
    simp only [List.cons_append, seqI, Bool.and_eq_true, beq_iff_eq] at hB
    rw [List.length_cons, Nat.add_right_comm]
    refine ⟨fun h1 => (by rw [hB.1] at h1; cases h1), fun i hi => ?_⟩
    rw [hB.1] at hi
    have hij : i = m := by simpa using hi
    subst hij
    unfold wpMid at h
    exact wpOp_mono (fun a' w' h' => ⟨fun _ _ => h'.1, seqM_any keep js hkj hsj ms _ a' w' hB.2 h'.2⟩) h
theorem lead_any (keep : Nat → Bool) {L : Act → Prop} {g : Nat} {w : World} (js : List Nat) (hsel : Region.noSelect ops = true) (hQ : ∀ c a d v w, Q (.panic c) (a.put (some d) v) w → Q (.panic c) a w) (hS : S w) (hkeep : ∀ j, j < ops.size → keep j = false → j ∈ js) : ∀ (is : List (Nat × Bool)) (listed : Array Bool) (a : Act), Clo ops listed → leadB ops js is listed = true → wpLead P ops S L is a →
    (∀ a', L a' → wpAnyS P ops Q keep S g (leadL is listed) a' w) → wpAnyS P ops Q keep S (is.length + g) listed a w
  | [], listed, a, _, _, h, hL => by rw [List.length_nil, Nat.zero_add]; exact hL a h
  | (i, pure) :: is, listed, a, hc, hB, h, hL => by
    simp only [leadB, Bool.and_eq_true] at hB
    obtain ⟨o, d, v, ho, hd, hg, hv, h2⟩ := h
    have hr : i ∈ Region.ready .any ops listed := by simpa using hB.1.1.1
    rw [List.length_cons, Nat.add_right_comm]
    refine wpAnyS_first (v := v) (S' := fun w' => pure = false → S w') ho (Region.noSelect_spec hsel) (fun c a w h => by rw [hd] at h; exact hQ _ _ _ _ _ h) ?_ _ listed a w hc (Region.free_spec ho hB.1.1.2) hr (Or.inl ⟨by simp [Region.wanted, hg], hv⟩) (fun _ => hS) ?_
    · intro j listed' w0 w' hc' hun hj h0 hk hp
      refine hk ?_ (h0 hp)
      cases hkj : keep j with
      | true => rfl
      | false =>
        exfalso
        have hjs : j < ops.size := by
          obtain ⟨_, oj, hoj, _⟩ := mem_ready.1 hj
          exact (Array.getElem?_eq_some_iff.1 hoj).1
        have hb := hB.1.2
        simp only [hp, Bool.false_or] at hb
        have h3 := reach_ready hc' (List.all_eq_true.1 hb j (hkeep j hjs hkj)) hj
        rw [getD_tf hun] at h3; cases h3
    · rw [hd]
      exact lead_any keep js hsel hQ hS hkeep is _ _ (hc.set hr) hB.2 h2 hL
/-- A region that draws its order: 'is' are taken first (true: looks at no memory), then come 'ms', behind each of which S holds, then 'js'. -/
theorem region_s {id : Nat} {a : Act} {w : World} {l : List Oper} (is : List (Nat × Bool)) (ms js : List Nat) (S : World → Prop) (hm : P.follows .mixedOrders = true) (hB : checkS l.toArray is ms js = true) (hQ : ∀ c a d v w, Q (.panic c) (a.put (some d) v) w → Q (.panic c) a w) (hS : S w.drew)
    (h : wpLead P l.toArray S (fun a' => wpMid P l.toArray Q S (fun a' w' => wpList P l.toArray Q (js.filterMap (l.toArray[·]?)) a' w') ms a' w.drew) is a) : (Code.region id l.toArray true).wp P Q a w := by
  simp only [checkS, Bool.and_eq_true, beq_iff_eq] at hB
  obtain ⟨⟨⟨⟨hsel, hout⟩, hlead⟩, hseq⟩, hlen⟩ := hB
  have hsj : ∀ j ∈ ms ++ js, (l.toArray[j]?).isSome = true := by
    have : ∀ (ks : List Nat) (listed : Array Bool), seqI l.toArray ks listed = true → ∀ j ∈ ks, (l.toArray[j]?).isSome = true := by
      intro ks
      induction ks with
      | nil => intro _ _ j hj; cases hj
      | cons k ks ih =>
        intro listed hB j hj
        simp only [seqI, Bool.and_eq_true, beq_iff_eq] at hB
        rcases List.mem_cons.1 hj with rfl | hj
        · have : j ∈ Region.ready .any l.toArray listed := by rw [hB.1]; simp
          obtain ⟨_, oj, hoj, _⟩ := mem_ready.1 this
          rw [hoj]; rfl
        · exact ih _ hB.2 j hj
    exact this _ _ hseq
  refine wp_region_any hm ?_
  rw [show wpAny P .any l.toArray Q l.toArray.size = wpAny P .any l.toArray Q (is.length + (ms.length + js.length)) from by rw [hlen]]
  refine wpAny_of_S (keep := fun j => !js.contains j) (S := S) _ _ _ _ ?_
  refine lead_any _ js hsel hQ hS (fun j _ hk => by simpa using hk) is _ a (fun j oj _ hl => by rw [getD_replicate_false] at hl; cases hl) hlead h ?_
  intro a' h'
  exact seqM_any _ js (fun j hj => by simpa using hj) (fun j hj => hsj j (by simp [hj])) ms _ a' w.drew hseq h'
end
end Go.Proofs.YtamalmgfhpneaaaDoor
