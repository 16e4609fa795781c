/-
  Part of the proof: a region that draws its order, operation by operation, while a condition on the memory is kept: what yields the same wherever it holds is taken first; else what may come up is looked at.
  Part of the proof: a slice of one-cell elements that the call itself has made, and append to it.
  Part of the proof: what the library's functions tell, over the variables that a run reads.
  Part of the proof: names, numbers, and which items may be, are walked.
  Part of the proof: which items may be, is walked.
-/
import Derived.Test.YtmfbfhkhfhphfabDoorB03
import Derived.Test.YtmfbfhkhfhphfabDoorB02
import Derived.Deep.AppendLies
import Derived.Test.YtmfbfhkhfhphfabDoorB01
import Derived.Lib.AppendIntMem
import Derived.Lib.SmallJoins
namespace Go.Proofs.YtmfbfhkhfhphfabDoor
open Go.RowKit
section
variable {P : Program} {l : List Oper} {Q : Exit → Act → World → Prop} {S : World → Prop} {fuel : Nat} {listed : Array Bool} {a : Act} {w : World}
/-- Whatever order is picked from here on; S holds behind each operation. -/
def wpS (P : Program) (l : List Oper) (Q : Exit → Act → World → Prop) (S : World → Prop) : Nat → Array Bool → Act → World → Prop := wpAnyS P l.toArray Q (fun _ => true) S
theorem regS_in {id : Nat} (n : Nat) (S : World → Prop) (hm : P.follows .mixedOrders = true) (hn : l.length = n) (h : wpS P l Q S n (Array.replicate n false) a w.drew) : (Code.region id l.toArray true).wp P Q a w := by
  refine wp_region_any hm ?_
  rw [List.size_toArray, hn]
  exact wpAny_of_S _ _ _ _ h
theorem clo_of {ops : Array Oper} {listed : Array Bool} (h1 : closedB ops listed = true) : Clo ops listed := by
  intro j oj hj hl e he hb
  have := List.all_eq_true.1 h1 j (List.mem_range.2 (Array.getElem?_eq_some_iff.1 hj).1)
  simp only [hl, hj, Bool.not_true, Bool.false_or] at this
  have := Array.all_eq_true_iff_forall_mem.1 this e he
  simpa [hb] using this
theorem regS_first (i : Nat) (d : Tmp) (v : Value) {o : Oper} (hi : l[i]? = some o) (hd : o.dst = some d) (hB : (Region.noSelect l.toArray && Region.free .any l.toArray listed i && (Region.ready .any l.toArray listed).contains i && closedB l.toArray listed) = true)
    (hQ : ∀ c a w, Q (.panic c) (a.put (some d) v) w → Q (.panic c) a w) (hy : YieldsIf P l.toArray S o v a) (hS : S w)
    (h : wpS P l Q S fuel (listed.setIfInBounds i true) (a.put (some d) v) w) : wpS P l Q S (fuel + 1) listed a w := by
  simp only [Bool.and_eq_true] at hB
  have hi' : l.toArray[i]? = some o := by rw [List.getElem?_toArray]; exact hi
  have hr : i ∈ Region.ready .any l.toArray listed := by simpa using hB.1.2
  refine wpAnyS_first (v := v) (S' := S) hi' (Region.noSelect_spec hB.1.1.1) (by rw [hd]; exact hQ) (fun _ _ _ _ _ _ _ h0 hk => hk rfl h0) fuel listed a w (clo_of hB.2) (Region.free_spec hi' hB.1.1.2) hr hy hS ?_
  rw [hd]; exact h
/-- What yields the same wherever S holds is taken first. -/
theorem regS_take (i : Nat) (d : Tmp) (v : Value) {o : Oper} (hi : l[i]? = some o) (hd : o.dst = some d) (hB : (Region.noSelect l.toArray && Region.free .any l.toArray listed i && (Region.ready .any l.toArray listed).contains i && closedB l.toArray listed) = true)
    (hQ : ∀ c a w, Q (.panic c) (a.put (some d) v) w → Q (.panic c) a w) (hw : Region.wanted o (yielded l.toArray a.tmps) = true) (hv : ∀ w, S w → (execOp a.eval o).run P w = .ok (.value v) w) (hS : S w)
    (h : wpS P l Q S fuel (listed.setIfInBounds i true) (a.put (some d) v) w) : wpS P l Q S (fuel + 1) listed a w :=
  regS_first i d v hi hd hB hQ (Or.inl ⟨hw, hv⟩) hS h
/-- What its guard leaves out. -/
theorem regS_skip (i : Nat) (d : Tmp) {o : Oper} (hi : l[i]? = some o) (hd : o.dst = some d) (hB : (Region.noSelect l.toArray && Region.free .any l.toArray listed i && (Region.ready .any l.toArray listed).contains i && closedB l.toArray listed) = true)
    (hQ : ∀ c a w, Q (.panic c) (a.put (some d) undef) w → Q (.panic c) a w) (hw : Region.wanted o (yielded l.toArray a.tmps) = false) (hS : S w)
    (h : wpS P l Q S fuel (listed.setIfInBounds i true) (a.put (some d) undef) w) : wpS P l Q S (fuel + 1) listed a w :=
  regS_first i d undef hi hd hB hQ (Or.inr ⟨hw, rfl⟩) hS h
theorem regS_op (i : Nat) {o : Oper} (hi : l[i]? = some o) (hw : Region.wanted o (yielded l.toArray a.tmps) = true) {K0 : Act → World → Prop} (h : ∀ K : Act → World → Prop, (∀ a' w', S w' → K0 a' w' → K a' w') → o.wp P a w K Q) : wpOp P l.toArray Q i (fun a' w' => (true = true → S w → S w') ∧ K0 a' w') a w := by
  have hi' : l.toArray[i]? = some o := by rw [List.getElem?_toArray]; exact hi
  unfold wpOp
  simp only [hi', hw, if_true]
  exact Or.inl (h _ fun _ _ hS hk => ⟨fun _ _ => hS, hk⟩)
/-- One operation alone may come up. -/
theorem regS_one (i : Nat) {o : Oper} (hi : l[i]? = some o) (hr : (Region.ready .any l.toArray listed == [i]) = true) (hw : Region.wanted o (yielded l.toArray a.tmps) = true)
    (h : ∀ K : Act → World → Prop, (∀ a' w', S w' → wpS P l Q S fuel (listed.setIfInBounds i true) a' w' → K a' w') → o.wp P a w K Q) : wpS P l Q S (fuel + 1) listed a w := by
  rw [beq_iff_eq] at hr
  refine ⟨fun h0 => (by rw [hr] at h0; cases h0), fun j hj => ?_⟩
  rw [hr] at hj
  obtain rfl := List.mem_singleton.1 hj
  exact regS_op _ hi hw h
theorem regS_two (i j : Nat) {o o' : Oper} (hi : l[i]? = some o) (hj : l[j]? = some o') (hr : (Region.ready .any l.toArray listed == [i, j]) = true) (hw : Region.wanted o (yielded l.toArray a.tmps) = true) (hw' : Region.wanted o' (yielded l.toArray a.tmps) = true)
    (h : ∀ K : Act → World → Prop, (∀ a' w', S w' → wpS P l Q S fuel (listed.setIfInBounds i true) a' w' → K a' w') → o.wp P a w K Q)
    (h' : ∀ K : Act → World → Prop, (∀ a' w', S w' → wpS P l Q S fuel (listed.setIfInBounds j true) a' w' → K a' w') → o'.wp P a w K Q) : wpS P l Q S (fuel + 1) listed a w := by
  rw [beq_iff_eq] at hr
  refine ⟨fun h0 => (by rw [hr] at h0; cases h0), fun k hk => ?_⟩
  rw [hr] at hk
  rcases List.mem_cons.1 hk with rfl | hk
  · exact regS_op _ hi hw h
  · obtain rfl := List.mem_singleton.1 hk
    exact regS_op _ hj hw' h'
theorem regS_end (hr : (Region.ready .any l.toArray listed == []) = true) (h : Q .normal a w) : wpS P l Q S fuel listed a w := by
  rw [beq_iff_eq] at hr
  cases fuel with
  | zero => exact ⟨hr, h⟩
  | succ n => exact ⟨fun _ => h, fun i hi => by rw [hr] at hi; cases hi⟩
/-- The last operation. -/
theorem regS_last (i : Nat) {o : Oper} (hi : l[i]? = some o) (hB : ((Region.ready .any l.toArray listed == [i]) && (Region.ready .any l.toArray (listed.setIfInBounds i true) == [])) = true) (hw : Region.wanted o (yielded l.toArray a.tmps) = true)
    (h : ∀ K : Act → World → Prop, (∀ a' w', S w' → Q .normal a' w' → K a' w') → o.wp P a w K Q) : wpS P l Q S (fuel + 1) listed a w := by
  rw [Bool.and_eq_true] at hB
  exact regS_one i hi hB.1 hw fun K hK => h K fun a' w' hS hQ => hK a' w' hS (regS_end hB.2 hQ)
end
end Go.Proofs.YtmfbfhkhfhphfabDoor
namespace Go.Proofs.YtmfbfhkhfhphfabDoor
open Go.RowKit
/-- A slice of one-cell elements that the call has made. -/
def Row (w : World) (B : Nat) (e : TypeId) (v : Value) (xs : List Value) : Prop := w.ownsRow B e 1 v xs.length xs
theorem Row.nil (w : World) (B : Nat) (e : TypeId) : Row w B e (.slice none 0 0) [] := ⟨rfl, Or.inl ⟨rfl, rfl⟩⟩
theorem Row.below {w w' : World} {B : Nat} {e : TypeId} {v : Value} {xs : List Value} (h : Row w B e v xs) (hb : Below w.heap.size w w') : Row w' B e v xs := by
  obtain ⟨h1, h2⟩ := h
  refine ⟨h1, ?_⟩
  rcases h2 with h2 | ⟨g, cap, cur, hv, hg, hh, r⟩
  · exact Or.inl h2
  · refine Or.inr ⟨g, cap, cur, hv, hg, ?_, r⟩
    have lt : g < w.heap.size := by
      rcases Nat.lt_or_ge g w.heap.size with h' | h'
      · exact h'
      · simp [Array.getElem?_eq_none h'] at hh
    rw [hb.block _ lt]; exact hh
theorem Row.grown {w w' : World} {B g : Nat} {e : TypeId} {n cap : Nat} {xs : List Value} {row : Option Nat} (h : Row w B e (.slice (some ⟨g, 0, none⟩) n cap) xs) (hg : w.grownBy w' row) (hne : some g ≠ row) : Row w' B e (.slice (some ⟨g, 0, none⟩) n cap) xs := by
  obtain ⟨h1, h2⟩ := h
  refine ⟨h1, ?_⟩
  rcases h2 with h2 | ⟨g', cap', cur, hv, hgB, hh, r⟩
  · exact Or.inl h2
  · refine Or.inr ⟨g', cap', cur, hv, hgB, ?_, r⟩
    have lt : g' < w.heap.size := by
      rcases Nat.lt_or_ge g' w.heap.size with h' | h'
      · exact h'
      · simp [Array.getElem?_eq_none h'] at hh
    have e : g = g' := by injection hv with a1; injection a1 with a2; injection a2
    rw [hg.block _ lt (e ▸ hne)]; exact hh
theorem Row.cell {w : World} {B g n cap : Nat} {e : TypeId} {xs : List Value} (h : Row w B e (.slice (some ⟨g, 0, none⟩) n cap) xs) (j : Nat) (u : Value) (hj : xs[j]? = some u) : w.cell? ⟨g, j, none⟩ = some u := by
  obtain ⟨h1, h2⟩ := h
  rcases h2 with ⟨h2, _⟩ | ⟨g', cap', cur, hv, hgB, hh, _, _, _, ht⟩
  · injection h2 with a1; cases a1
  · have e : g = g' := by injection hv with a1; injection a1 with a2; injection a2
    subst e
    simp only [World.cell?, hh]
    rw [← ht, List.getElem?_take] at hj
    split at hj
    · simpa using hj
    · cases hj
theorem Row.form {w : World} {B : Nat} {e : TypeId} {v : Value} {xs : List Value} (h : Row w B e v xs) : (v = .slice none 0 0 ∧ xs = []) ∨ ∃ g cap, v = .slice (some ⟨g, 0, none⟩) xs.length cap ∧ B ≤ g ∧ g < w.heap.size := by
  obtain ⟨h1, h2⟩ := h
  rcases h2 with ⟨h2, h3⟩ | ⟨g', cap', cur, hv, hgB, hh, _⟩
  · exact Or.inl ⟨h2, List.eq_nil_of_length_eq_zero h3⟩
  · refine Or.inr ⟨g', cap', hv, hgB, ?_⟩
    rcases Nat.lt_or_ge g' w.heap.size with h' | h'
    · exact h'
    · simp [Array.getElem?_eq_none h'] at hh
/-- What an append leaves of all that stands below. -/
theorem below_grown {B : Nat} {a w w' : World} {e : TypeId} {v : Value} {xs : List Value} (h : Below B a w) (hr : Row w B e v xs) (hg : w.grownBy w' v.ownBlock) (hB : B ≤ w.heap.size) : Below B a w' :=
  h.grown hg hB fun k hk => by
    rcases hr.form with ⟨e1, _⟩ | ⟨g, cap, e1, hgB, _⟩
    · rw [e1] at hk; cases hk
    · rw [e1] at hk; simp only [Value.ownBlock, Option.some.injEq] at hk; omega
section
variable {P : Program} {ops : Array Oper} {Q : Exit → Act → World → Prop} {a : Act} {w : World} {rest : List Oper} {o : Oper}
/-- One element appended to a slice that the call has made. -/
theorem wpl_push (hgd : o.guard = none) (s x : Operand) (t : TypeId) (ho : o.op = .call { callee := .builtin .append, args := #[s, x], argTypes := #[t, t] })
    (B : Nat) (e : TypeId) (z : Value) (bytes : Nat) (ht : P.underlying t = some (.slice e)) (hinfo : (P.info? e).map (fun i => (i.zero, i.size, i.bytes)) = some (some z, 1, bytes)) (hz1 : z.cells.size = 1)
    (v : Value) (xs : List Value) (hs : a.eval s = v) (hown : Row w B e v xs) (sb c : Nat) (u : Value) (hx : a.eval x = .slice (some ⟨sb, 0, none⟩) 1 c) (hu : w.cell? ⟨sb, 0, none⟩ = some u) (hu1 : u.oneCell' = true)
    (hlen : xs.length < 100000) (hby : bytes ≤ 8) (hbase : B ≤ w.heap.size)
    (h : ∀ g cap w', Row w' B e (.slice (some ⟨g, 0, none⟩) (xs.length + 1) cap) (xs ++ [u]) → w.grownBy w' v.ownBlock → (v.ownBlock = some g ∨ g = w.heap.size) → g < w'.heap.size → wpList P ops Q rest (a.put o.dst (.slice (some ⟨g, 0, none⟩) (xs.length + 1) cap)) w') :
    wpList P ops Q (o :: rest) a w := by
  obtain ⟨i, hi, hp⟩ := Option.map_eq_some_iff.1 hinfo
  simp only [Prod.mk.injEq] at hp
  obtain ⟨p1, p2, p3⟩ := hp
  refine wpList_append_lies w hgd s x t ho B e i z 1 bytes ht hi p1 p2 p3 hz1 (by decide) v xs.length xs hs hown ⟨sb, 0, none⟩ 1 c [u] hx rfl ?_ ?_ (by decide) (by unfold maxLen; omega) ?_ hbase w.heap.size rfl ?_
  · intro j u' hj
    match j with
    | 0 => simp only [List.getElem?_cons_zero, Option.some.injEq] at hj; subst hj; exact hu
    | j + 1 => simp at hj
  · intro u' hu'; simp at hu'; subst hu'; exact hu1
  · have := Nat.mul_le_mul (Nat.succ_le_of_lt hlen) hby; simp only [Nat.succ_eq_add_one] at this; omega
  · intro g cap w' h1 h2 h3 h4
    exact h g cap w' (by unfold Row; simpa using h1) h2 h3 h4
end
end Go.Proofs.YtmfbfhkhfhphfabDoor
namespace Go.Proofs.YtmfbfhkhfhphfabDoor.It
open Go.RowKit
/-- What a run reads of the packages' variables. -/
def LB (w : World) : Prop := (∃ m, w.cell? ⟨0, 0, none⟩ = some (.int .i64 m)) ∧ (∃ te pe, w.cell? ⟨2, 0, none⟩ = some (.iface te pe)) ∧ (∃ te pe, w.cell? ⟨3, 0, none⟩ = some (.iface te pe)) ∧ Lib.TabBelow Tryd.prog w.heap.size w "internal/strconv.uint64pow10" .u64 Lib.pow10Tab
theorem cell_below {w w' : World} (hb : Below w.heap.size w w') {b o : Nat} {v : Value} (h : w.cell? ⟨b, o, none⟩ = some v) : w'.cell? ⟨b, o, none⟩ = some v := by
  rw [hb.cell (World.block_lt_of_cell? w _ h)]; exact h
theorem LB.below {w w' : World} (h : LB w) (hb : Below w.heap.size w w') : LB w' := by
  obtain ⟨⟨m, h1⟩, ⟨t1, p1, h2⟩, ⟨t2, p2, h3⟩, h4⟩ := h
  refine ⟨⟨m, cell_below hb h1⟩, ⟨t1, p1, cell_below hb h2⟩, ⟨t2, p2, cell_below hb h3⟩, fun w2 hb2 => ?_⟩
  exact h4.on hb w2 (hb2.mono hb.size)
theorem below_alloc (w : World) (o : Obj) : Below w.heap.size w (w.alloc o) := (Below.refl _ _).alloc (Nat.le_refl _) o
theorem below_drawn (w : World) (n : Nat) : Below w.heap.size w (w.drewN n) := below_drewN (Below.refl _ _) n
theorem itoa_any (n : Int) (w : World) (h0 : -9223372036854775808 ≤ n) (h1 : n ≤ 9223372036854775807) (hL : LB w) : Calls Tryd.prog 18 #[.int .i64 n] w fun e w' => e = .returned (.string ⟨(Lib.itoa n).toArray⟩) ∧ Below w.heap.size w w' := by
  refine (Any.strconv_Itoa laysM171 n h0 h1 w hL.2.2.2.here).mono ?_
  rintro e w' ⟨rfl, k, os, rfl⟩
  exact ⟨rfl, Lib.below_grow _ _ (Nat.le_refl _) k os⟩
theorem cut_any (s : ByteArray) (w : World) (hs : s.size ≤ 1000000) (hL : LB w) : Calls Tryd.prog 28 #[.string s, .string ⟨#[10]⟩] w fun e w' => e = .returned (.tuple #[.string ⟨(Lib.cut s.data.toList [10]).1.toArray⟩, .string ⟨(Lib.cut s.data.toList [10]).2.1.toArray⟩, .bool (Lib.cut s.data.toList [10]).2.2]) ∧ Below w.heap.size w w' := by
  obtain ⟨m, hm⟩ := hL.1
  refine (Any.strings_Cut lays145 s ⟨#[10]⟩ m w (by omega) hm).mono ?_
  rintro e w' ⟨rfl, n, rfl⟩
  exact ⟨rfl, below_drawn _ _⟩
theorem count_any (s : ByteArray) (w : World) : Calls Tryd.prog 11 #[.string s, .string ⟨#[10]⟩] w fun e w' => e = .returned (.int .i64 ((s.data.toList.count 10 : Nat) : Int)) ∧ w' = w :=
  Any.strings_Count_one lays138 s 10 w
theorem trim_any (s : ByteArray) (w : World) : Calls Tryd.prog 30 #[.string s, .string ⟨#[100, 105, 109, 32]⟩] w fun e w' => e = .returned (.string ⟨(trimP s.data.toList).toArray⟩) ∧ w' = w :=
  Any.strings_TrimPrefix lays101 s ⟨#[100, 105, 109, 32]⟩ w
/-- The pieces of a line. -/
def pcs (s : ByteArray) : List ByteArray := Lib.splitB ⟨#[32]⟩ 0 (min 10 (s.size + 1) - 1) s
theorem pcs_data (s : ByteArray) : (pcs s).map (·.data.toList) = Lib.splitN s.data.toList [32] 10 := by
  unfold pcs Lib.splitN
  rw [Lib.splitB_data, Lib.size_eq]
theorem pcs_len (s : ByteArray) : (pcs s).length ≤ 10 := by
  have := Lib.splitB_length_le ⟨#[32]⟩ 0 (min 10 (s.size + 1) - 1) s
  unfold pcs; omega
theorem split_any (s : ByteArray) (w : World) (hs : s.size ≤ 1000000) (hL : LB w) : Calls Tryd.prog 42 #[.string s, .string ⟨#[32]⟩, .int .i64 10] w fun e w' => (∃ b c, e = .returned (.slice (some ⟨b, 0, none⟩) (pcs s).length c) ∧ w.heap.size ≤ b ∧ b < w'.heap.size ∧ (pcs s).length ≤ c ∧ ∀ (j : Nat) x, (pcs s)[j]? = some x → w'.cell? ⟨b, j, none⟩ = some (.string x)) ∧ Below w.heap.size w w' := by
  obtain ⟨m, hm⟩ := hL.1
  refine (Any.strings_SplitN lays147 (by kernel_rfl) s ⟨#[32]⟩ 10 m w (by omega) hm (by decide) (by decide) (by decide)).mono ?_
  rintro e w' ⟨rfl, rfl⟩
  refine ⟨⟨w.heap.size, _, rfl, Nat.le_refl _, by simp, ?_, fun j x hj => ?_⟩, below_alloc _ _⟩
  · have := Lib.splitB_length_le ⟨#[32]⟩ 0 (min 10 (s.size + 1) - 1) s
    unfold pcs; omega
  · have hlt := (List.getElem?_eq_some_iff.1 hj).1
    have hj' : (Lib.splitB ⟨#[32]⟩ 0 (min 10 (s.size + 1) - 1) s)[j]? = some x := hj
    show World.cell? (w.alloc (.cells (Lib.cellsOf _ _) 9)) ⟨w.heap.size, j, none⟩ = _
    rw [(Blk.new w _ 9).cell]
    unfold Lib.cellsOf
    rw [List.getElem?_toArray, List.getElem?_append_left (by have := hlt; unfold pcs at this; simpa using this), List.getElem?_map, hj']; rfl
theorem join_any (b o c : Nat) (xs : List ByteArray) (w : World) (hc : ∀ (j : Nat) x, xs[j]? = some x → w.cell? ⟨b, o + j, none⟩ = some (.string x)) (hb : b < w.heap.size) (hN : xs.length ≤ 1000) (hcap : xs.length ≤ c) (hlen : (Lib.join (xs.map (·.data.toList)) [32]).length ≤ 140737488355328) :
    Calls Tryd.prog 37 #[.slice (some ⟨b, o, none⟩) xs.length c, .string ⟨#[32]⟩] w fun e w' => e = .returned (.string ⟨(Lib.join (xs.map (·.data.toList)) [32]).toArray⟩) ∧ Below w.heap.size w w' :=
  Any.strings_Join lays156 Builder_Extra_156 b o c xs ⟨#[32]⟩ w hc hb (by omega) hcap hlen
theorem atoi_ok (s : ByteArray) (w : World) (hs : s.size ≤ 1000000) (n : Int) (h : numP s.data.toList = some n) : Calls Tryd.prog 40 #[.string s] w fun e w' => e = .returned (.tuple #[.int .i64 n, .nilIface]) ∧ Below w.heap.size w w' := by
  have h' : Lib.atoiAll s.data.toList = .ok n := by
    unfold numP at h
    split at h
    · rename_i v e; injection h with h; subst h; exact e
    · cases h
  refine (Any.strconv_Atoi_ok laysC172 s (by omega) n h' w).mono ?_
  rintro e w' ⟨rfl, rfl | ⟨t, rfl⟩⟩
  · exact ⟨rfl, Below.refl _ _⟩
  · exact ⟨rfl, Lib.bytesWorld_below _ _ _⟩
theorem atoi_no (s : ByteArray) (w : World) (hs : s.size ≤ 1000000) (hL : LB w) (h : numP s.data.toList = none) : Calls Tryd.prog 40 #[.string s] w fun e w' => (∃ (v : Int) (t : TypeId) (p : Value), e = .returned (.tuple #[.int .i64 v, .iface t p])) ∧ Below w.heap.size w w' := by
  obtain ⟨_, ⟨t1, p1, h1⟩, ⟨t2, p2, h2⟩, _⟩ := hL
  cases e : Lib.atoiAll s.data.toList with
  | ok v => simp [numP, e] at h
  | «syntax» =>
    refine (Any.strconv_Atoi_syntax laysC172 s (by omega) e _ w h1 (Or.inr ⟨t1, p1, rfl⟩)).mono ?_
    rintro e w' ⟨N, rfl, _, _, hb⟩
    exact ⟨⟨_, _, _, rfl⟩, hb⟩
  | range =>
    refine (Any.strconv_Atoi_range laysC172 s (by omega) e _ w h2 (Or.inr ⟨t2, p2, rfl⟩)).mono ?_
    rintro e w' ⟨N, rfl, _, _, hb⟩
    exact ⟨⟨_, _, _, rfl⟩, hb⟩
/-- A slice of numbers reads as zs. -/
def Ints (w : World) (a : Option Addr) (zs : List Int) : Prop := ∀ (i : Nat) z, zs[i]? = some z → ∃ g o, a = some ⟨g, o, none⟩ ∧ w.cell? ⟨g, o + i, none⟩ = some (.int .i64 z)
theorem Ints.below {w w' : World} {a : Option Addr} {zs : List Int} (h : Ints w a zs) (hb : Below w.heap.size w w') : Ints w' a zs := by
  intro i z hz
  obtain ⟨g, o, h1, h2⟩ := h i z hz
  exact ⟨g, o, h1, cell_below hb h2⟩
theorem equal_any (a b : Option Addr) (c d : Nat) (zs : List Int) (w : World) (ha : Ints w a zs) (hb : Ints w b zs) (hl : zs.length ≤ 1000) :
    Calls Tryd.prog 23 #[.slice a zs.length c, .slice b zs.length d] w fun e w' => e = .returned (.bool true) ∧ Below w.heap.size w w' := by
  cases zs with
  | nil =>
    refine (Any.slices_Equal_int_empty lays111 a b c 0 d w (by decide)).mono ?_
    rintro e w' ⟨rfl, rfl⟩
    exact ⟨rfl, Below.refl _ _⟩
  | cons z zs =>
    obtain ⟨g, o, rfl, _⟩ := ha 0 z rfl
    obtain ⟨g', o', rfl, _⟩ := hb 0 z rfl
    have cell : ∀ (g o : Nat), Ints w (some ⟨g, o, none⟩) (z :: zs) → ∀ j, j < (z :: zs).length → w.cell? ⟨g, o + j, none⟩ = some (.int .i64 ((z :: zs).getD j 0)) := by
      intro g o h j hj
      obtain ⟨g1, o1, e, h1⟩ := h j _ (List.getElem?_eq_getElem hj)
      injection e with e; injection e with e1 e2; subst e1; subst e2
      rw [h1, List.getD_eq_getElem?_getD, List.getElem?_eq_getElem hj]; rfl
    refine (Any.slices_Equal_int lays111 g o _ c g' o' _ d (z :: zs) (z :: zs) w (Nat.le_refl _) (Nat.le_refl _) (by omega) (by omega) (cell g o ha) (cell g' o' hb)).mono ?_
    rintro e w' ⟨rfl, q, rfl⟩
    exact ⟨by simp, below_drawn _ _⟩
theorem clone_any (s : ByteArray) (w : World) (h : s.size ≤ 1000000) : Calls Tryd.prog 43 #[.string s] w fun e w' => e = .returned (.string s) ∧ Below w.heap.size w w' := by
  go_enter Tryd.func43, Tryd.ntmps43
  go_wp2_with (go_at_call 58; refine (AnyPu.stringslite_Clone Su.lays25 s _ (by omega)).mono ?_; rintro e w1 ⟨rfl, g1⟩)
  go_ret
  exact ⟨rfl, g1⟩
/- The Builder. -/
theorem ownsRow_below {w w' : World} {B : Nat} {e : TypeId} {z : Nat} {v : Value} {n : Nat} {xs : List Value} (h : w.ownsRow B e z v n xs) (hb : Below w.heap.size w w') : w'.ownsRow B e z v n xs := by
  obtain ⟨h1, h2 | ⟨g, cap, cur, hv, hg, hh, r⟩⟩ := h
  · exact ⟨h1, Or.inl h2⟩
  · refine ⟨h1, Or.inr ⟨g, cap, cur, hv, hg, ?_, r⟩⟩
    have lt : g < w.heap.size := by
      rcases Nat.lt_or_ge g w.heap.size with h' | h'
      · exact h'
      · simp [Array.getElem?_eq_none h'] at hh
    rw [hb.block _ lt]; exact hh
theorem builder_below {T e : TypeId} {B b : Nat} {bs : List Value} {w w' : World} (h : Lib.IsBuilder T e B b bs w) (hb : Below w.heap.size w w') : Lib.IsBuilder T e B b bs w' := by
  have one : ∀ p, Lib.BuilderAt T e B b p bs w → Lib.BuilderAt T e B b p bs w' := by
    intro p hp
    have lt := hp.lt
    obtain ⟨h1, v, h2, h3, h4⟩ := hp
    exact ⟨h1, v, by rw [hb.block _ lt]; exact h2, ownsRow_below h3 hb, h4⟩
  rcases h with h | h
  · exact Or.inl (one _ h)
  · exact Or.inr (one _ h)
/-- A builder of the call's own that holds the text l. -/
def Bd (w : World) (b : Nat) (l : List UInt8) : Prop := Lib.IsBuilder 49 5 b b (Lib.byteCells l) w
theorem Bd.below {w w' : World} {b : Nat} {l : List UInt8} (h : Bd w b l) (hb : Below w.heap.size w w') : Bd w' b l := builder_below h hb
theorem Bd.lt {w : World} {b : Nat} {l : List UInt8} (h : Bd w b l) : b < w.heap.size := by
  rcases h with h | h <;> exact h.lt
theorem write_any (b : Nat) (l : List UInt8) (s : ByteArray) (w : World) (h : Bd w b l) (hl : l.length + s.size ≤ 1000000) : Calls Tryd.prog 17 #[.pointer (some ⟨b, 0, none⟩), .string s] w fun e w' => e = .returned (.tuple #[.int .i64 s.size, .nilIface]) ∧ Bd w' b (l ++ s.data.toList) ∧ Below b w w' := by
  refine (Any.Builder_WriteString { lays156 with } Builder_Extra_156 b b (Lib.byteCells l) s w h (by simp [Lib.byteCells]; omega) (by have := h.lt; omega)).mono ?_
  rintro e w' ⟨rfl, h1, h2⟩
  refine ⟨rfl, ?_, h2⟩
  have : Lib.byteCells (l ++ s.data.toList) = Lib.byteCells l ++ Lib.strCells s := by simp [Lib.byteCells, Lib.strCells]
  unfold Bd
  rw [this]
  exact Or.inr h1
theorem string_any (b : Nat) (l : List UInt8) (w : World) (h : Bd w b l) : Calls Tryd.prog 20 #[.pointer (some ⟨b, 0, none⟩)] w fun e w' => e = .returned (.string ⟨l.toArray⟩) ∧ Below b w w' := by
  refine (Any.Builder_String_any { lays156 with } Builder_Extra_156 b b l w h (by have := h.lt; omega)).mono ?_
  rintro e w' ⟨rfl, h2⟩
  exact ⟨rfl, by first | exact h2 | exact h2.2 | exact h2.2.1⟩
end Go.Proofs.YtmfbfhkhfhphfabDoor.It
namespace Go.Proofs.YtmfbfhkhfhphfabDoor.It
open Go.RowKit
theorem isDim_any (d : Int) (w : World) : Calls Tryd.prog 15 #[.int .i64 d] w fun e w' => e = .returned (.bool (dimB d)) ∧ w' = w := by
  go_enter Tryd.func15, Tryd.ntmps15
  by_cases h1 : 1 ≤ d <;> by_cases h2 : d ≤ 8 <;>
  · go_wp2
    go_ret
    exact ⟨by simp [dimB, h1, h2], rfl⟩
theorem isLetter_any (c : UInt8) (w : World) : Calls Tryd.prog 44 #[.int .u8 (c.toNat : Int)] w fun e w' => e = .returned (.bool (isLet c)) ∧ w' = w := by
  go_enter Tryd.func44, Tryd.ntmps44
  by_cases h1 : 97 ≤ c.toNat <;> by_cases h2 : c.toNat ≤ 122 <;>
  · have h1' : decide ((97 : Int) ≤ (c.toNat : Int)) = decide (97 ≤ c.toNat) := by congr 1; apply propext; omega
    have h2' : decide ((c.toNat : Int) ≤ 122) = decide (c.toNat ≤ 122) := by congr 1; apply propext; omega
    go_wp2
    go_ret
    exact ⟨by simp [isLet, h1, h2], rfl⟩
theorem isDigit_any (c : UInt8) (w : World) : Calls Tryd.prog 45 #[.int .u8 (c.toNat : Int)] w fun e w' => e = .returned (.bool (isDig c)) ∧ w' = w := by
  go_enter Tryd.func45, Tryd.ntmps45
  by_cases h1 : 48 ≤ c.toNat <;> by_cases h2 : c.toNat ≤ 57 <;>
  · have h1' : decide ((48 : Int) ≤ (c.toNat : Int)) = decide (48 ≤ c.toNat) := by congr 1; apply propext; omega
    have h2' : decide ((c.toNat : Int) ≤ 57) = decide (c.toNat ≤ 57) := by congr 1; apply propext; omega
    go_wp2
    go_ret
    exact ⟨by simp [isDig, h1, h2], rfl⟩
theorem numOut_any (n : Int) (w : World) : Calls Tryd.prog 34 #[.int .i64 n] w fun e w' => e = .returned (.bool (!numB n)) ∧ w' = w := by
  go_enter Tryd.func34, Tryd.ntmps34
  by_cases h1 : -1000 ≤ n <;> by_cases h2 : n ≤ 1000 <;>
  · go_wp2
    go_ret
    exact ⟨by simp [numB, h1, h2], rfl⟩
theorem number_ok (s : ByteArray) (w : World) (hs : s.size ≤ 1000000) (n : Int) (h : numP s.data.toList = some n) : Calls Tryd.prog 29 #[.string s] w fun e w' => e = .returned (.tuple #[.int .i64 n, .bool true]) ∧ Below w.heap.size w w' := by
  go_enter Tryd.func29, Tryd.ntmps29
  go_wp2_with (go_at_call 40; refine (atoi_ok s _ hs n h).mono ?_; rintro e w1 ⟨rfl, g1⟩)
  go_quiet (fail)
  go_wp2
  go_ret2
  exact ⟨rfl, below_drewN g1 _⟩
theorem number_no (s : ByteArray) (w : World) (hs : s.size ≤ 1000000) (hL : LB w) (h : numP s.data.toList = none) : Calls Tryd.prog 29 #[.string s] w fun e w' => (∃ v : Int, e = .returned (.tuple #[.int .i64 v, .bool false])) ∧ Below w.heap.size w w' := by
  go_enter Tryd.func29, Tryd.ntmps29
  go_wp2_with (go_at_call 40; refine (atoi_no s _ hs hL h).mono ?_; rintro e w1 ⟨⟨v, t, p, rfl⟩, g1⟩)
  go_quiet (fail)
  go_wp2
  go_ret2
  exact ⟨⟨v, rfl⟩, below_drewN g1 _⟩
set_option maxHeartbeats 400000 in
theorem name_any (s : ByteArray) (w : World) (hs : s.size ≤ maxLen) : Calls Tryd.prog 32 #[.string s] w fun e w' => e = .returned (.bool (nameB s)) ∧ w' = w := by
  unfold maxLen at hs
  by_cases h1 : 1 ≤ s.size
  rotate_left
  · have h1' : (s.size : Int) < 1 := by omega
    go_enter Tryd.func32, Tryd.ntmps32
    go_wp2
    go_ret
    exact ⟨by simp [nameB, h1], rfl⟩
  by_cases h2 : s.size ≤ 10
  rotate_left
  · have h1' : ¬ ((s.size : Int) < 1) := by omega
    have h2' : (10 : Int) < (s.size : Int) := by omega
    go_enter Tryd.func32, Tryd.ntmps32
    go_wp2
    go_ret
    exact ⟨by simp [nameB, h2], rfl⟩
  have h1' : ¬ ((s.size : Int) < 1) := by omega
  have h2' : ¬ ((10 : Int) < (s.size : Int)) := by omega
  have e0 : s.data.toList.getD 0 0 = s[0] := by
    rw [List.getD_eq_getElem?_getD, List.getElem?_eq_getElem (by rw [← Lib.size_eq]; omega)]; rfl
  by_cases h3 : isLet s[0] = true
  rotate_left
  · have h3' : isLet s[0] = false := by simpa using h3
    go_enter Tryd.func32, Tryd.ntmps32
    go_wp2_with (go_at_call 44; refine (isLetter_any _ _).mono ?_; rintro e w1 ⟨rfl, rfl⟩; rw [h3'])
    go_ret
    exact ⟨by unfold nameB; rw [e0, h3']; simp, rfl⟩
  have hN : Hid (nameB s = s.data.toList.all fun c => isLet c || isDig c) := by unfold Hid nameB; rw [e0, h3]; simp [h1, h2]
  clear e0
  go_enter Tryd.func32, Tryd.ntmps32
  go_wp2_with (go_at_call 44; refine (isLetter_any _ _).mono ?_; rintro e w1 ⟨rfl, rfl⟩; rw [h3])
  go_loop [20] (fun i => ∃ k : Nat, k ≤ s.size ∧ i = .int .i64 k ∧ ((s.data.toList.take k).all fun c => isLet c || isDig c) = true) (fun i => s.size - (intOf i).toNat)
  case atStart => exact ⟨0, by omega, rfl, by simp⟩
  case round =>
    obtain ⟨k, hk, rfl, hp⟩ := hrel
    by_cases hlt : k < s.size
    · have HP : Hid (((s.data.toList.take k).all fun c => isLet c || isDig c) = true) := hp
      have hgl : s.data.toList[k]? = some s[k] := by rw [List.getElem?_eq_getElem (by rw [← Lib.size_eq]; omega)]; rfl
      have HG : Hid (s.data.toList[k]? = some s[k]) := hgl
      clear hp hgl
      have hlt' : (k : Int) < (s.size : Int) := by omega
      by_cases c1 : isLet s[k] = true
      · go_wp2_with (go_at_call 44; refine (isLetter_any _ _).mono ?_; rintro e w1 ⟨rfl, rfl⟩; rw [c1])
        go_round
        case rel => exact ⟨k + 1, by omega, by go_num, by rw [List.take_add_one, HG.out, List.all_append, HP.out]; simp [c1]⟩
        case measure => simp [intOf]; omega
      · have c1' : isLet s[k] = false := by simpa using c1
        by_cases c2 : isDig s[k] = true
        · go_wp2_with (first
            | (go_at_call 44; refine (isLetter_any _ _).mono ?_; rintro e w1 ⟨rfl, rfl⟩; rw [c1'])
            | (go_at_call 45; refine (isDigit_any _ _).mono ?_; rintro e w1 ⟨rfl, rfl⟩; rw [c2]))
          go_round
          case rel => exact ⟨k + 1, by omega, by go_num, by rw [List.take_add_one, HG.out, List.all_append, HP.out]; simp [c2]⟩
          case measure => simp [intOf]; omega
        · have c2' : isDig s[k] = false := by simpa using c2
          go_wp2_with (first
            | (go_at_call 44; refine (isLetter_any _ _).mono ?_; rintro e w1 ⟨rfl, rfl⟩; rw [c1'])
            | (go_at_call 45; refine (isDigit_any _ _).mono ?_; rintro e w1 ⟨rfl, rfl⟩; rw [c2']))
          go_ret
          refine ⟨?_, rfl⟩
          have : (s.data.toList.all fun c => isLet c || isDig c) = false := by
            rw [List.all_eq_false]
            exact ⟨s[k], List.mem_of_getElem? HG.out, by simp [c1', c2']⟩
          rw [hN.out, this]; rfl
    · have hk' : k = s.size := by omega
      subst hk'
      have HP : Hid (((s.data.toList.take s.size).all fun c => isLet c || isDig c) = true) := hp
      clear hp
      go_wp2_with fail
      go_ret
      refine ⟨?_, rfl⟩
      have := HP.out
      rw [List.take_of_length_le (by rw [Lib.size_eq]; exact Nat.le_refl _)] at this
      rw [hN.out, this]; rfl
end Go.Proofs.YtmfbfhkhfhphfabDoor.It
namespace Go.Proofs.YtmfbfhkhfhphfabDoor.It
open Go.RowKit
/-- An item, and where its numbers lie. -/
structure ItD where
  x : Itm
  a : Option Addr
  c : Nat
/-- Its three cells. -/
def ItD.val (d : ItD) : Value := .slice d.a d.x.nums.length d.c
def ItD.arr (d : ItD) : Array Value := #[.string d.x.name, .string d.x.tag, d.val]
/-- What is known of it. -/
def ItD.Ok (w : World) (d : ItD) : Prop := Ints w d.a d.x.nums ∧ d.x.nums.length ≤ maxLen ∧ d.x.name.size ≤ maxLen ∧ d.x.tag.size ≤ maxLen ∧ d.x.nums.length ≤ d.c
theorem ItD.Ok.below {w w' : World} {d : ItD} (h : d.Ok w) (hb : Below w.heap.size w w') : d.Ok w' := ⟨h.1.below hb, h.2⟩
set_option maxHeartbeats 400000 in
theorem indexInts_any (a : Option Addr) (c : Nat) (zs : List Int) (w : World) (h : Ints w a zs) (hl : zs.length ≤ maxLen) :
    Calls Tryd.prog 46 #[.slice a zs.length c, .func (.func 34) #[] #[]] w fun e w' => (∃ j : Int, e = .returned (.int .i64 j) ∧ (decide (0 ≤ j) = !zs.all numB)) ∧ w' = w := by
  unfold maxLen at hl
  go_enter Tryd.func46, Tryd.ntmps46
  go_wp2_with fail
  go_loop [8] (fun i => ∃ k : Nat, k ≤ zs.length ∧ i = .int .i64 k ∧ (zs.take k).all numB = true) (fun i => zs.length - (intOf i).toNat)
  case atStart => exact ⟨0, by omega, rfl, by simp⟩
  case round =>
    obtain ⟨k, hk, rfl, hp⟩ := hrel
    by_cases hlt : k < zs.length
    · have HP : Hid ((zs.take k).all numB = true) := hp
      clear hp
      obtain ⟨g, o, rfl, hc⟩ := h k zs[k] (List.getElem?_eq_getElem hlt)
      have hg : g < w.heap.size := World.block_lt_of_cell? w _ hc
      have htk : Hid (zs[k]? = some zs[k]) := List.getElem?_eq_getElem hlt
      have hlt' : (k : Int) < (zs.length : Int) := by omega
      generalize zs[k] = x at *
      by_cases hx : numB x = true
      · go_wp2_with (go_at_call 34; refine (numOut_any _ _).mono ?_; rintro e w' ⟨rfl, rfl⟩; rw [hx])
        go_round
        case rel => exact ⟨k + 1, by omega, by go_num, by rw [List.take_add_one, htk.out, List.all_append, HP.out]; simp [hx]⟩
        case measure => simp [intOf]; omega
      · have hx' : numB x = false := by simpa using hx
        go_wp2_with (go_at_call 34; refine (numOut_any _ _).mono ?_; rintro e w' ⟨rfl, rfl⟩; rw [hx'])
        go_ret
        refine ⟨⟨k, rfl, ?_⟩, rfl⟩
        have : zs.all numB = false := by rw [List.all_eq_false]; exact ⟨x, List.mem_of_getElem? htk.out, by simp [hx']⟩
        rw [this]; simp
    · have hk' : k = zs.length := by omega
      subst hk'
      rw [List.take_length] at hp
      have HP : Hid (zs.all numB = true) := hp
      clear hp
      go_wp2_with fail
      go_ret
      exact ⟨⟨-1, rfl, by rw [HP.out]; decide⟩, rfl⟩
theorem containsInts_any (a : Option Addr) (c : Nat) (zs : List Int) (w : World) (h : Ints w a zs) (hl : zs.length ≤ maxLen) :
    Calls Tryd.prog 33 #[.slice a zs.length c, .func (.func 34) #[] #[]] w fun e w' => e = .returned (.bool (!zs.all numB)) ∧ w' = w := by
  go_enter Tryd.func33, Tryd.ntmps33
  go_wp2_with (go_at_call 46; refine (indexInts_any _ _ _ _ h hl).mono ?_; rintro e w' ⟨⟨j, rfl, hj⟩, rfl⟩)
  go_ret
  refine ⟨?_, rfl⟩
  rw [← hj]; simp
set_option maxHeartbeats 1000000 in
theorem right_any (x : ItD) (d : Int) (w : World) (h : x.Ok w) : Calls Tryd.prog 16 #[.agg x.arr, .int .i64 d] w fun e w' => e = .returned (.bool (rightB x.x d)) ∧ Below w.heap.size w w' := by
  obtain ⟨h1, h2, h3, h4, _⟩ := h
  unfold ItD.arr ItD.val
  obtain ⟨⟨nm, tg, zs⟩, a, c⟩ := x
  simp only at h1 h2 h3 h4 ⊢
  have hl : zs.length ≤ 9223372036854775807 := h2
  have hb := below_alloc w (.cells #[.string nm, .string tg, .slice a zs.length c] 39)
  have h1' := h1.below hb
  have HR : Hid (rightB ⟨nm, tg, zs⟩ d = (dimB d && decide ((zs.length : Int) = d) && nameB nm && tagB tg && zs.all numB)) := rfl
  rw [HR.out]
  by_cases c1 : dimB d = true
  rotate_left
  · have c1' : dimB d = false := by simpa using c1
    go_enter Tryd.func16, Tryd.ntmps16
    go_wp2_with (go_at_call 15; refine (isDim_any _ _).mono ?_; rintro e w' ⟨rfl, rfl⟩; rw [c1'])
    go_ret
    exact ⟨by rw [c1']; rfl, hb⟩
  by_cases c2 : (zs.length : Int) = d
  rotate_left
  · have c2' : decide ((zs.length : Int) = d) = false := by simpa using c2
    go_enter Tryd.func16, Tryd.ntmps16
    go_wp2_with (go_at_call 15; refine (isDim_any _ _).mono ?_; rintro e w' ⟨rfl, rfl⟩; rw [c1])
    go_ret
    exact ⟨by rw [c1, c2']; rfl, hb⟩
  have c2' : decide ((zs.length : Int) = d) = true := by simpa using c2
  by_cases c3 : nameB nm = true
  rotate_left
  · have c3' : nameB nm = false := by simpa using c3
    go_enter Tryd.func16, Tryd.ntmps16
    go_wp2_with (first
      | (go_at_call 15; refine (isDim_any _ _).mono ?_; rintro e w' ⟨rfl, rfl⟩; rw [c1])
      | (go_at_call 32; refine (name_any _ _ h3).mono ?_; rintro e w' ⟨rfl, rfl⟩; rw [c3']))
    go_ret
    exact ⟨by rw [c1, c2', c3']; rfl, hb⟩
  by_cases c4 : tg.size = 0
  · obtain rfl : tg = ByteArray.empty := by
      apply ByteArray.ext; apply Array.eq_empty_of_size_eq_zero; exact c4
    have c5 : tagB ByteArray.empty = true := by decide
    by_cases c6 : zs.all numB = true
    · go_enter Tryd.func16, Tryd.ntmps16
      go_wp2_with (first
        | (go_at_call 15; refine (isDim_any _ _).mono ?_; rintro e w' ⟨rfl, rfl⟩; rw [c1])
        | (go_at_call 32; refine (name_any _ _ h3).mono ?_; rintro e w' ⟨rfl, rfl⟩; rw [c3])
        | (go_at_call 33; refine (containsInts_any _ _ _ _ h1' h2).mono ?_; rintro e w' ⟨rfl, rfl⟩; rw [c6]))
      go_ret
      exact ⟨by rw [c1, c2', c3, c5, c6]; rfl, hb⟩
    · have c6' : zs.all numB = false := by simpa using c6
      go_enter Tryd.func16, Tryd.ntmps16
      go_wp2_with (first
        | (go_at_call 15; refine (isDim_any _ _).mono ?_; rintro e w' ⟨rfl, rfl⟩; rw [c1])
        | (go_at_call 32; refine (name_any _ _ h3).mono ?_; rintro e w' ⟨rfl, rfl⟩; rw [c3])
        | (go_at_call 33; refine (containsInts_any _ _ _ _ h1' h2).mono ?_; rintro e w' ⟨rfl, rfl⟩; rw [c6']))
      go_ret
      exact ⟨by rw [c1, c2', c3, c5, c6']; rfl, hb⟩
  · have c4' : ¬ tg.toList = [] := by
      intro e
      rw [Lib.toList_data] at e
      apply c4
      rw [Lib.size_eq, e]; rfl
    have c4e : tg.toList.isEmpty = false := by simpa using c4'
    have ct : tagB tg = nameB tg := by unfold tagB; simp [c4]
    rw [ct]
    by_cases c5 : nameB tg = true
    rotate_left
    · have c5' : nameB tg = false := by simpa using c5
      go_enter Tryd.func16, Tryd.ntmps16
      go_wp2_with (first
        | (go_at_call 15; refine (isDim_any _ _).mono ?_; rintro e w' ⟨rfl, rfl⟩; rw [c1])
        | (go_at_call 32; refine (name_any _ _ (by first | exact h3 | exact h4)).mono ?_; rintro e w' ⟨rfl, rfl⟩; first | rw [c3] | rw [c5']))
      go_ret
      exact ⟨by rw [c1, c2', c3, c5']; rfl, hb⟩
    · by_cases c6 : zs.all numB = true
      · go_enter Tryd.func16, Tryd.ntmps16
        go_wp2_with (first
          | (go_at_call 15; refine (isDim_any _ _).mono ?_; rintro e w' ⟨rfl, rfl⟩; rw [c1])
          | (go_at_call 32; refine (name_any _ _ (by first | exact h3 | exact h4)).mono ?_; rintro e w' ⟨rfl, rfl⟩; first | rw [c3] | rw [c5])
          | (go_at_call 33; refine (containsInts_any _ _ _ _ h1' h2).mono ?_; rintro e w' ⟨rfl, rfl⟩; rw [c6]))
        go_ret
        exact ⟨by rw [c1, c2', c3, c5, c6]; rfl, hb⟩
      · have c6' : zs.all numB = false := by simpa using c6
        go_enter Tryd.func16, Tryd.ntmps16
        go_wp2_with (first
          | (go_at_call 15; refine (isDim_any _ _).mono ?_; rintro e w' ⟨rfl, rfl⟩; rw [c1])
          | (go_at_call 32; refine (name_any _ _ (by first | exact h3 | exact h4)).mono ?_; rintro e w' ⟨rfl, rfl⟩; first | rw [c3] | rw [c5])
          | (go_at_call 33; refine (containsInts_any _ _ _ _ h1' h2).mono ?_; rintro e w' ⟨rfl, rfl⟩; rw [c6']))
        go_ret
        exact ⟨by rw [c1, c2', c3, c5, c6']; rfl, hb⟩
end Go.Proofs.YtmfbfhkhfhphfabDoor.It
