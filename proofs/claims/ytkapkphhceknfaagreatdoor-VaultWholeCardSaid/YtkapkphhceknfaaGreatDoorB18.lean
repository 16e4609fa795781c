/-
  Part of the proof: a region that draws its order: some operations that look at no memory, or at such as stays while they wait, are taken first; the others come one behind the other.
  Part of the proof: a region that draws its order, operation by operation, while a condition on the memory is kept: what yields the same wherever it holds is taken first; else what may come up is looked at.
-/
import Derived.Test.YtkapkphhceknfaaGreatDoorB09
import Derived.OrdersHeld
import Derived.Test.YtkapkphhceknfaaGreatDoorB03
namespace Go.Proofs.YtkapkphhceknfaaGreatDoor
open Go.RowKit
section
variable {P : Program} {ops : Array Oper} {Q : Exit → Act → World → Prop} {S : World → Prop} {keep : Nat → Bool}
/-- Whatever order is picked from here on; S holds behind each operation that keeps it. -/
def wpAnyS (P : Program) (ops : Array Oper) (Q : Exit → Act → World → Prop) (keep : Nat → Bool) (S : World → Prop) : Nat → Array Bool → Act → World → Prop
  | 0, listed, a, w => Region.ready .any ops listed = [] ∧ Q .normal a w
  | fuel + 1, listed, a, w =>
    (Region.ready .any ops listed = [] → Q .normal a w) ∧
    ∀ i ∈ Region.ready .any ops listed, wpOp P ops Q i (fun a' w' => (keep i = true → S w → S w') ∧ wpAnyS P ops Q keep S fuel (listed.setIfInBounds i true) a' w') a w
theorem wpAny_of_S : ∀ (fuel : Nat) (listed : Array Bool) (a : Act) (w : World), wpAnyS P ops Q keep S fuel listed a w → wpAny P .any ops Q fuel listed a w
  | 0, _, _, _, h => h
  | fuel + 1, _, _, _, h => ⟨h.1, fun i hi => wpOp_mono (fun a' w' h' => wpAny_of_S fuel _ a' w' h'.2) (h.2 i hi)⟩
def Clo (ops : Array Oper) (listed : Array Bool) : Prop := ∀ j oj, ops[j]? = some oj → listed.getD j false = true → ∀ e ∈ oj.after, Region.binds .any e = true → listed.getD e.on false = true
theorem getD_tf {l : Array Bool} {i : Nat} (h : l.getD i true = false) : l.getD i false = false := by
  rcases Nat.lt_or_ge i l.size with h' | h'
  · simp [h'] at h ⊢; exact h
  · simp [Array.getElem?_eq_none h'] at h
theorem Clo.set {listed : Array Bool} {i : Nat} (h : Clo ops listed) (hr : i ∈ Region.ready .any ops listed) : Clo ops (listed.setIfInBounds i true) := by
  intro j oj hj hl e he hb
  obtain ⟨hun, oi, hoi, hall⟩ := mem_ready.1 hr
  have up : ∀ k, listed.getD k false = true → (listed.setIfInBounds i true).getD k false = true := by
    intro k hk
    by_cases e : i = k
    · subst e; rw [getD_tf hun] at hk; cases hk
    · rw [getD_set_ne false e]; exact hk
  by_cases e' : i = j
  · subst e'
    obtain rfl : oi = oj := Option.some.inj (hoi.symm.trans hj)
    exact up _ (hall e he hb)
  · rw [getD_set_ne false e'] at hl
    exact up _ (h j oj hj hl e he hb)
theorem any_mem {α : Type} {p : α → Bool} {l : Array α} (h : l.any p = true) : ∃ x ∈ l, p x = true := by
  rw [← Array.any_toList, List.any_eq_true] at h
  obtain ⟨x, hx, h⟩ := h
  exact ⟨x, by simpa using hx, h⟩
/-- Number j waits for number i, through others perhaps. -/
def reach (ops : Array Oper) : Nat → Nat → Nat → Bool
  | 0, _, _ => false
  | f + 1, j, i => match ops[j]? with
    | none => false
    | some o => o.after.any fun e => Region.binds .any e && (e.on == i || reach ops f e.on i)
theorem reach_clo {listed : Array Bool} (hc : Clo ops listed) : ∀ (f j i : Nat), reach ops f j i = true → listed.getD j false = true → listed.getD i false = true
  | 0, _, _, h, _ => by simp [reach] at h
  | f + 1, j, i, h, hl => by
    unfold reach at h
    cases ho : ops[j]? with
    | none => simp [ho] at h
    | some o =>
      simp only [ho] at h
      obtain ⟨e, he, h2⟩ := any_mem h
      simp only [Bool.and_eq_true, Bool.or_eq_true, beq_iff_eq] at h2
      have hk := hc j o ho hl e he h2.1
      rcases h2.2 with h3 | h3
      · rw [h3] at hk; exact hk
      · exact reach_clo hc f e.on i h3 hk
theorem reach_ready {listed : Array Bool} (hc : Clo ops listed) {f j i : Nat} (h : reach ops f j i = true) (hr : j ∈ Region.ready .any ops listed) : listed.getD i false = true := by
  cases f with
  | zero => simp [reach] at h
  | succ f =>
    obtain ⟨_, oj, hoj, hall⟩ := mem_ready.1 hr
    unfold reach at h
    simp only [hoj] at h
    obtain ⟨e, he, h2⟩ := any_mem h
    simp only [Bool.and_eq_true, Bool.or_eq_true, beq_iff_eq] at h2
    have hk := hall e he h2.1
    rcases h2.2 with h3 | h3
    · rw [h3] at hk; exact hk
    · exact reach_clo hc f e.on i h3 hk
/-- What may come up, and yields the same wherever it comes up, may be taken first. -/
theorem wpAnyS_first {i : Nat} {oi : Oper} {v : Value} {S' : World → Prop} (hi : ops[i]? = some oi) (hsel : ∀ (j : Nat) (o : Oper) cs b, ops[j]? = some o → o.op ≠ .select cs b)
    (hQ : ∀ c a w, Q (.panic c) (a.put oi.dst v) w → Q (.panic c) a w) (hS' : ∀ (j : Nat) (listed : Array Bool) (w w' : World), Clo ops listed → listed.getD i true = false → j ∈ Region.ready .any ops listed → S' w → (keep j = true → S w → S w') → S' w') :
    ∀ (fuel : Nat) (listed : Array Bool) (a : Act) (w : World), Clo ops listed →
      (∀ j oj, ops[j]? = some oj → j ≠ i → listed.getD j true = false → (∀ e ∈ oj.after, Region.binds .any e = true → e.on ≠ i) → oi.apart ops oj = true) →
      i ∈ Region.ready .any ops listed → YieldsIf P ops S' oi v a → S' w →
      wpAnyS P ops Q keep S fuel (listed.setIfInBounds i true) (a.put oi.dst v) w → wpAnyS P ops Q keep S (fuel + 1) listed a w := by
  intro fuel
  induction fuel with
  | zero =>
    intro listed a w _ _ hr hy hS H
    refine ⟨fun h => (by rw [h] at hr; cases hr), fun j hj => ?_⟩
    by_cases hji : j = i
    · subst hji; exact hy.wpOp hi hS ⟨fun _ h => h, H⟩
    · have := ready_mono hj hji
      rw [H.1] at this
      cases this
  | succ fuel ih =>
    intro listed a w hc hfree hr hy hS H
    refine ⟨fun h => (by rw [h] at hr; cases hr), fun j hj => ?_⟩
    by_cases hji : j = i
    · subst hji; exact hy.wpOp hi hS ⟨fun _ h => h, H⟩
    · have h1 := H.2 j (ready_mono hj hji)
      have hun := (mem_ready.1 hr).1
      obtain ⟨hjun, oj, hoj, hall⟩ := mem_ready.1 hj
      have hnot : ∀ e ∈ oj.after, Region.binds .any e = true → e.on ≠ i := fun e he hb heq => by
        have h1 := hall e he hb
        rw [heq, getD_tf hun] at h1
        cases h1
      have h2 := wpOp_putIf hoj (hfree j oj hoj hji hjun hnot) (fun cs b => hsel i oi cs b hi) (fun cs b => hsel j oj cs b hoj) hQ hy h1
      have hfree' : ∀ k ok, ops[k]? = some ok → k ≠ i → (listed.setIfInBounds j true).getD k true = false →
          (∀ e ∈ ok.after, Region.binds .any e = true → e.on ≠ i) → oi.apart ops ok = true := fun k ok hk hki hun hno => by
        refine hfree k ok hk hki ?_ hno
        by_cases hjk : j = k
        · subst hjk; exact hjun
        · rw [getD_set_ne true hjk] at hun; exact hun
      refine wpOp_mono (fun a' w' h3 => ⟨h3.2.1, ih (listed.setIfInBounds j true) a' w' (hc.set hj) hfree' (ready_mono hr (Ne.symm hji)) h3.1 (hS' j listed w w' hc hun hj hS h3.2.1) ?_⟩) h2
      rw [Array.setIfInBounds_comm _ _ hji]
      exact h3.2.2
/-- The operations that are taken first, one behind the other: each looks at no memory, or at what S tells. -/
def wpLead (P : Program) (ops : Array Oper) (S : World → Prop) (L : Act → Prop) : List (Nat × Bool) → Act → Prop
  | [], a => L a
  | (i, pure) :: l, a => ∃ o d v, ops[i]? = some o ∧ o.dst = some d ∧ o.guard = none ∧ (∀ w, (pure = false → S w) → (execOp a.eval o).run P w = .ok (.value v) w) ∧ wpLead P ops S L l (a.put (some d) v)
theorem lead_nil {L : Act → Prop} {a : Act} (h : L a) : wpLead P ops S L [] a := h
theorem lead_nil_eq {L : Act → Prop} {a : Act} : wpLead P ops S L [] a = L a := rfl
theorem lead_pure {L : Act → Prop} {a : Act} {i : Nat} {l : List (Nat × Bool)} (o : Oper) (ho : ops[i]? = some o) (d : Tmp) (hd : o.dst = some d) (hg : o.guard = none) (v : Value) (hr : ∀ w, (execOp a.eval o).run P w = .ok (.value v) w) (h : wpLead P ops S L l (a.put (some d) v)) : wpLead P ops S L ((i, true) :: l) a :=
  ⟨o, d, v, ho, hd, hg, fun w _ => hr w, h⟩
theorem lead_read {L : Act → Prop} {a : Act} {i : Nat} {l : List (Nat × Bool)} (o : Oper) (ho : ops[i]? = some o) (d : Tmp) (hd : o.dst = some d) (hg : o.guard = none) (v : Value) (hr : ∀ w, S w → (execOp a.eval o).run P w = .ok (.value v) w) (h : wpLead P ops S L l (a.put (some d) v)) : wpLead P ops S L ((i, false) :: l) a :=
  ⟨o, d, v, ho, hd, hg, fun w hS => hr w (hS rfl), h⟩
/-- Those that come behind: first those that keep S, then the others. -/
def wpMid (P : Program) (ops : Array Oper) (Q : Exit → Act → World → Prop) (S : World → Prop) (L : Act → World → Prop) : List Nat → Act → World → Prop
  | [], a, w => L a w
  | j :: js, a, w => wpOp P ops Q j (fun a' w' => S w' ∧ wpMid P ops Q S L js a' w') a w
theorem mid_nil {L : Act → World → Prop} {a : Act} {w : World} (h : L a w) : wpMid P ops Q S L [] a w := h
theorem mid_nil_eq {L : Act → World → Prop} {a : Act} {w : World} : wpMid P ops Q S L [] a w = L a w := rfl
theorem mid_cons {L : Act → World → Prop} {a : Act} {w : World} {j : Nat} {js : List Nat} (o : Oper) (ho : ops[j]? = some o) (hg : o.guard = none) (h : ∀ K : Act → World → Prop, (∀ a' w', S w' → wpMid P ops Q S L js a' w' → K a' w') → o.wp P a w K Q) : wpMid P ops Q S L (j :: js) a w := by
  unfold wpMid wpOp
  simp only [ho, Region.wanted, hg, if_true]
  exact Or.inl (h _ fun a' w' h1 h2 => ⟨h1, h2⟩)
def leadB (ops : Array Oper) (js : List Nat) : List (Nat × Bool) → Array Bool → Bool
  | [], _ => true
  | (i, pure) :: l, listed => (Region.ready .any ops listed).contains i && Region.free .any ops listed i && (pure || js.all fun j => reach ops ops.size j i) && leadB ops js l (listed.setIfInBounds i true)
def leadL : List (Nat × Bool) → Array Bool → Array Bool
  | [], listed => listed
  | (i, _) :: l, listed => leadL l (listed.setIfInBounds i true)
def seqI (ops : Array Oper) : List Nat → Array Bool → Bool
  | [], listed => (Region.ready .any ops listed).isEmpty
  | j :: js, listed => (Region.ready .any ops listed == [j]) && seqI ops js (listed.setIfInBounds j true)
def outB (ops : Array Oper) (ms js : List Nat) (is : List (Nat × Bool)) : Bool :=
  (List.range ops.size).all fun k => ms.contains k || js.contains k || is.any fun p => p.1 == k
/-- The check of a region: a closed Bool. -/
def checkS (ops : Array Oper) (is : List (Nat × Bool)) (ms js : List Nat) : Bool :=
  let z := Array.replicate ops.size false
  Region.noSelect ops && outB ops ms js is && leadB ops js is z && seqI ops (ms ++ js) (leadL is z) && (is.length + (ms.length + js.length) == ops.size)
theorem seqI_any (keep : Nat → Bool) (S : World → Prop) : ∀ (js : List Nat) (listed : Array Bool) (a : Act) (w : World), (∀ j ∈ js, keep j = false) → seqI ops js listed = true → wpList P ops Q (js.filterMap (ops[·]?)) a w → (∀ j ∈ js, (ops[j]?).isSome = true) → wpAnyS P ops Q keep S js.length listed a w
  | [], listed, a, w, _, hB, h, _ => ⟨by simpa [seqI] using hB, h⟩
  | j :: js, listed, a, w, hk, hB, h, hs => by
    simp only [seqI, Bool.and_eq_true, beq_iff_eq] at hB
    refine ⟨fun h1 => (by rw [hB.1] at h1; cases h1), fun i hi => ?_⟩
    rw [hB.1] at hi
    have hij : i = j := by simpa using hi
    subst hij
    obtain ⟨o, ho⟩ := Option.isSome_iff_exists.1 (hs i (by simp))
    have hw : wpOp P ops Q i (wpList P ops Q (js.filterMap (ops[·]?))) a w := by
      unfold wpOp; simp only [List.filterMap_cons, ho] at h ⊢; exact h
    exact wpOp_mono (fun a' w' h' => ⟨fun hh _ => (by rw [hk i (by simp)] at hh; cases hh), seqI_any keep S js _ a' w' (fun k hk' => hk k (by simp [hk'])) hB.2 h' (fun k hk' => hs k (by simp [hk']))⟩) hw
theorem seqM_any (keep : Nat → Bool) (js : List Nat) (hkj : ∀ j ∈ js, keep j = false) (hsj : ∀ j ∈ js, (ops[j]?).isSome = true) : ∀ (ms : List Nat) (listed : Array Bool) (a : Act) (w : World), seqI ops (ms ++ js) listed = true →
    wpMid P ops Q S (fun a' w' => wpList P ops Q (js.filterMap (ops[·]?)) a' w') ms a w → wpAnyS P ops Q keep S (ms.length + js.length) listed a w
  | [], listed, a, w, hB, h => by rw [List.length_nil, Nat.zero_add]; exact seqI_any keep S js listed a w hkj hB h hsj
  | m :: ms, listed, a, w, hB, h => by
    simp only [List.cons_append, seqI, Bool.and_eq_true, beq_iff_eq] at hB
    rw [List.length_cons, Nat.add_right_comm]
    refine ⟨fun h1 => (by rw [hB.1] at h1; cases h1), fun i hi => ?_⟩
    rw [hB.1] at hi
    have hij : i = m := by simpa using hi
    subst hij
    unfold wpMid at h
    exact wpOp_mono (fun a' w' h' => ⟨fun _ _ => h'.1, seqM_any keep js hkj hsj ms _ a' w' hB.2 h'.2⟩) h
theorem lead_any (keep : Nat → Bool) {L : Act → Prop} {g : Nat} {w : World} (js : List Nat) (hsel : Region.noSelect ops = true) (hQ : ∀ c a d v w, Q (.panic c) (a.put (some d) v) w → Q (.panic c) a w) (hS : S w) (hkeep : ∀ j, j < ops.size → keep j = false → j ∈ js) : ∀ (is : List (Nat × Bool)) (listed : Array Bool) (a : Act), Clo ops listed → leadB ops js is listed = true → wpLead P ops S L is a →
    (∀ a', L a' → wpAnyS P ops Q keep S g (leadL is listed) a' w) → wpAnyS P ops Q keep S (is.length + g) listed a w
  | [], listed, a, _, _, h, hL => by rw [List.length_nil, Nat.zero_add]; exact hL a h
  | (i, pure) :: is, listed, a, hc, hB, h, hL => by
    simp only [leadB, Bool.and_eq_true] at hB
    obtain ⟨o, d, v, ho, hd, hg, hv, h2⟩ := h
    have hr : i ∈ Region.ready .any ops listed := by simpa using hB.1.1.1
    rw [List.length_cons, Nat.add_right_comm]
    refine wpAnyS_first (v := v) (S' := fun w' => pure = false → S w') ho (Region.noSelect_spec hsel) (fun c a w h => by rw [hd] at h; exact hQ _ _ _ _ _ h) ?_ _ listed a w hc (Region.free_spec ho hB.1.1.2) hr (Or.inl ⟨by simp [Region.wanted, hg], hv⟩) (fun _ => hS) ?_
    · intro j listed' w0 w' hc' hun hj h0 hk hp
      refine hk ?_ (h0 hp)
      cases hkj : keep j with
      | true => rfl
      | false =>
        exfalso
        have hjs : j < ops.size := by
          obtain ⟨_, oj, hoj, _⟩ := mem_ready.1 hj
          exact (Array.getElem?_eq_some_iff.1 hoj).1
        have hb := hB.1.2
        simp only [hp, Bool.false_or] at hb
        have h3 := reach_ready hc' (List.all_eq_true.1 hb j (hkeep j hjs hkj)) hj
        rw [getD_tf hun] at h3; cases h3
    · rw [hd]
      exact lead_any keep js hsel hQ hS hkeep is _ _ (hc.set hr) hB.2 h2 hL
/-- A region that draws its order: 'is' are taken first (true: looks at no memory), then come 'ms', behind each of which S holds, then 'js'. -/
theorem region_s {id : Nat} {a : Act} {w : World} {l : List Oper} (is : List (Nat × Bool)) (ms js : List Nat) (S : World → Prop) (hm : P.follows .mixedOrders = true) (hB : checkS l.toArray is ms js = true) (hQ : ∀ c a d v w, Q (.panic c) (a.put (some d) v) w → Q (.panic c) a w) (hS : S w.drew)
    (h : wpLead P l.toArray S (fun a' => wpMid P l.toArray Q S (fun a' w' => wpList P l.toArray Q (js.filterMap (l.toArray[·]?)) a' w') ms a' w.drew) is a) : (Code.region id l.toArray true).wp P Q a w := by
  simp only [checkS, Bool.and_eq_true, beq_iff_eq] at hB
  obtain ⟨⟨⟨⟨hsel, hout⟩, hlead⟩, hseq⟩, hlen⟩ := hB
  have hsj : ∀ j ∈ ms ++ js, (l.toArray[j]?).isSome = true := by
    have : ∀ (ks : List Nat) (listed : Array Bool), seqI l.toArray ks listed = true → ∀ j ∈ ks, (l.toArray[j]?).isSome = true := by
      intro ks
      induction ks with
      | nil => intro _ _ j hj; cases hj
      | cons k ks ih =>
        intro listed hB j hj
        simp only [seqI, Bool.and_eq_true, beq_iff_eq] at hB
        rcases List.mem_cons.1 hj with rfl | hj
        · have : j ∈ Region.ready .any l.toArray listed := by rw [hB.1]; simp
          obtain ⟨_, oj, hoj, _⟩ := mem_ready.1 this
          rw [hoj]; rfl
        · exact ih _ hB.2 j hj
    exact this _ _ hseq
  refine wp_region_any hm ?_
  rw [show wpAny P .any l.toArray Q l.toArray.size = wpAny P .any l.toArray Q (is.length + (ms.length + js.length)) from by rw [hlen]]
  refine wpAny_of_S (keep := fun j => !js.contains j) (S := S) _ _ _ _ ?_
  refine lead_any _ js hsel hQ hS (fun j _ hk => by simpa using hk) is _ a (fun j oj _ hl => by rw [getD_replicate_false] at hl; cases hl) hlead h ?_
  intro a' h'
  exact seqM_any _ js (fun j hj => by simpa using hj) (fun j hj => hsj j (by simp [hj])) ms _ a' w.drew hseq h'
end
end Go.Proofs.YtkapkphhceknfaaGreatDoor
namespace Go.Proofs.YtkapkphhceknfaaGreatDoor
open Go.RowKit
section
variable {P : Program} {l : List Oper} {Q : Exit → Act → World → Prop} {S : World → Prop} {fuel : Nat} {listed : Array Bool} {a : Act} {w : World}
/-- Whatever order is picked from here on; S holds behind each operation. -/
def wpS (P : Program) (l : List Oper) (Q : Exit → Act → World → Prop) (S : World → Prop) : Nat → Array Bool → Act → World → Prop := wpAnyS P l.toArray Q (fun _ => true) S
theorem regS_in {id : Nat} (n : Nat) (S : World → Prop) (hm : P.follows .mixedOrders = true) (hn : l.length = n) (h : wpS P l Q S n (Array.replicate n false) a w.drew) : (Code.region id l.toArray true).wp P Q a w := by
  refine wp_region_any hm ?_
  rw [List.size_toArray, hn]
  exact wpAny_of_S _ _ _ _ h
theorem clo_of {ops : Array Oper} {listed : Array Bool} (h1 : closedB ops listed = true) : Clo ops listed := by
  intro j oj hj hl e he hb
  have := List.all_eq_true.1 h1 j (List.mem_range.2 (Array.getElem?_eq_some_iff.1 hj).1)
  simp only [hl, hj, Bool.not_true, Bool.false_or] at this
  have := Array.all_eq_true_iff_forall_mem.1 this e he
  simpa [hb] using this
theorem regS_first (i : Nat) (d : Tmp) (v : Value) {o : Oper} (hi : l[i]? = some o) (hd : o.dst = some d) (hB : (Region.noSelect l.toArray && Region.free .any l.toArray listed i && (Region.ready .any l.toArray listed).contains i && closedB l.toArray listed) = true)
    (hQ : ∀ c a w, Q (.panic c) (a.put (some d) v) w → Q (.panic c) a w) (hy : YieldsIf P l.toArray S o v a) (hS : S w)
    (h : wpS P l Q S fuel (listed.setIfInBounds i true) (a.put (some d) v) w) : wpS P l Q S (fuel + 1) listed a w := by
  simp only [Bool.and_eq_true] at hB
  have hi' : l.toArray[i]? = some o := by rw [List.getElem?_toArray]; exact hi
  have hr : i ∈ Region.ready .any l.toArray listed := by simpa using hB.1.2
  refine wpAnyS_first (v := v) (S' := S) hi' (Region.noSelect_spec hB.1.1.1) (by rw [hd]; exact hQ) (fun _ _ _ _ _ _ _ h0 hk => hk rfl h0) fuel listed a w (clo_of hB.2) (Region.free_spec hi' hB.1.1.2) hr hy hS ?_
  rw [hd]; exact h
/-- What yields the same wherever S holds is taken first. -/
theorem regS_take (i : Nat) (d : Tmp) (v : Value) {o : Oper} (hi : l[i]? = some o) (hd : o.dst = some d) (hB : (Region.noSelect l.toArray && Region.free .any l.toArray listed i && (Region.ready .any l.toArray listed).contains i && closedB l.toArray listed) = true)
    (hQ : ∀ c a w, Q (.panic c) (a.put (some d) v) w → Q (.panic c) a w) (hw : Region.wanted o (yielded l.toArray a.tmps) = true) (hv : ∀ w, S w → (execOp a.eval o).run P w = .ok (.value v) w) (hS : S w)
    (h : wpS P l Q S fuel (listed.setIfInBounds i true) (a.put (some d) v) w) : wpS P l Q S (fuel + 1) listed a w :=
  regS_first i d v hi hd hB hQ (Or.inl ⟨hw, hv⟩) hS h
/-- What its guard leaves out. -/
theorem regS_skip (i : Nat) (d : Tmp) {o : Oper} (hi : l[i]? = some o) (hd : o.dst = some d) (hB : (Region.noSelect l.toArray && Region.free .any l.toArray listed i && (Region.ready .any l.toArray listed).contains i && closedB l.toArray listed) = true)
    (hQ : ∀ c a w, Q (.panic c) (a.put (some d) undef) w → Q (.panic c) a w) (hw : Region.wanted o (yielded l.toArray a.tmps) = false) (hS : S w)
    (h : wpS P l Q S fuel (listed.setIfInBounds i true) (a.put (some d) undef) w) : wpS P l Q S (fuel + 1) listed a w :=
  regS_first i d undef hi hd hB hQ (Or.inr ⟨hw, rfl⟩) hS h
theorem regS_op (i : Nat) {o : Oper} (hi : l[i]? = some o) (hw : Region.wanted o (yielded l.toArray a.tmps) = true) {K0 : Act → World → Prop} (h : ∀ K : Act → World → Prop, (∀ a' w', S w' → K0 a' w' → K a' w') → o.wp P a w K Q) : wpOp P l.toArray Q i (fun a' w' => (true = true → S w → S w') ∧ K0 a' w') a w := by
  have hi' : l.toArray[i]? = some o := by rw [List.getElem?_toArray]; exact hi
  unfold wpOp
  simp only [hi', hw, if_true]
  exact Or.inl (h _ fun _ _ hS hk => ⟨fun _ _ => hS, hk⟩)
/-- One operation alone may come up. -/
theorem regS_one (i : Nat) {o : Oper} (hi : l[i]? = some o) (hr : (Region.ready .any l.toArray listed == [i]) = true) (hw : Region.wanted o (yielded l.toArray a.tmps) = true)
    (h : ∀ K : Act → World → Prop, (∀ a' w', S w' → wpS P l Q S fuel (listed.setIfInBounds i true) a' w' → K a' w') → o.wp P a w K Q) : wpS P l Q S (fuel + 1) listed a w := by
  rw [beq_iff_eq] at hr
  refine ⟨fun h0 => (by rw [hr] at h0; cases h0), fun j hj => ?_⟩
  rw [hr] at hj
  obtain rfl := List.mem_singleton.1 hj
  exact regS_op _ hi hw h
theorem regS_two (i j : Nat) {o o' : Oper} (hi : l[i]? = some o) (hj : l[j]? = some o') (hr : (Region.ready .any l.toArray listed == [i, j]) = true) (hw : Region.wanted o (yielded l.toArray a.tmps) = true) (hw' : Region.wanted o' (yielded l.toArray a.tmps) = true)
    (h : ∀ K : Act → World → Prop, (∀ a' w', S w' → wpS P l Q S fuel (listed.setIfInBounds i true) a' w' → K a' w') → o.wp P a w K Q)
    (h' : ∀ K : Act → World → Prop, (∀ a' w', S w' → wpS P l Q S fuel (listed.setIfInBounds j true) a' w' → K a' w') → o'.wp P a w K Q) : wpS P l Q S (fuel + 1) listed a w := by
  rw [beq_iff_eq] at hr
  refine ⟨fun h0 => (by rw [hr] at h0; cases h0), fun k hk => ?_⟩
  rw [hr] at hk
  rcases List.mem_cons.1 hk with rfl | hk
  · exact regS_op _ hi hw h
  · obtain rfl := List.mem_singleton.1 hk
    exact regS_op _ hj hw' h'
theorem regS_end (hr : (Region.ready .any l.toArray listed == []) = true) (h : Q .normal a w) : wpS P l Q S fuel listed a w := by
  rw [beq_iff_eq] at hr
  cases fuel with
  | zero => exact ⟨hr, h⟩
  | succ n => exact ⟨fun _ => h, fun i hi => by rw [hr] at hi; cases hi⟩
/-- The last operation. -/
theorem regS_last (i : Nat) {o : Oper} (hi : l[i]? = some o) (hB : ((Region.ready .any l.toArray listed == [i]) && (Region.ready .any l.toArray (listed.setIfInBounds i true) == [])) = true) (hw : Region.wanted o (yielded l.toArray a.tmps) = true)
    (h : ∀ K : Act → World → Prop, (∀ a' w', S w' → Q .normal a' w' → K a' w') → o.wp P a w K Q) : wpS P l Q S (fuel + 1) listed a w := by
  rw [Bool.and_eq_true] at hB
  exact regS_one i hi hB.1 hw fun K hK => h K fun a' w' hS hQ => hK a' w' hS (regS_end hB.2 hQ)
end
end Go.Proofs.YtkapkphhceknfaaGreatDoor
