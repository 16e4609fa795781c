/-
  Part of the proof of SumTells: a row of bytes made out of a text, and append to it.
  Part of the proof of SumTells: the product of two great numbers in the reference is walked.
  Part of the proof of SumTells: plain facts on numbers kept as lists of digits, and the reference's comparison of a square with a great number is walked.
  Part of the proof of SumTells: the reference's comparison of a cube with a great number is walked.
  Part of the proof of SumTells: the reference's root is walked.
  Part of the proof of SumTells: the reference's primes are walked.
-/
import Derived.Test.YtkapkphhceknfaaGreatDoorB02
import Derived.Test.YtkapkphhceknfaaGreatDoorB03
import Derived.Lib.ConvBytes
namespace Go.Proofs.YtkapkphhceknfaaGreatDoor.Sm
open Go.RowKit
/-- A slice of bytes that the call has made: of its row nothing is frozen within its length. -/
structure MRow (w : World) (B g cap : Nat) (l : List UInt8) : Prop where
  ge : B ≤ g
  le : l.length ≤ cap
  cur : ∃ (cur : Array Value) (fz : Nat × Nat), w.heap[g]? = some (.cells cur 5 fz) ∧ cur.size = cap ∧ (∀ j, j < cap → (decide (fz.1 ≤ j) && decide (j < fz.2)) = false) ∧ cur.toList.take l.length = Lib.byteCells l
theorem MRow.lt {w : World} {B g cap : Nat} {l : List UInt8} (h : MRow w B g cap l) : g < w.heap.size := by
  obtain ⟨cur, fz, hh, _⟩ := h.cur
  rcases Nat.lt_or_ge g w.heap.size with h' | h'
  · exact h'
  · simp [Array.getElem?_eq_none h'] at hh
theorem MRow.below {w w' : World} {B g cap : Nat} {l : List UInt8} (h : MRow w B g cap l) (hb : Below w.heap.size w w') : MRow w' B g cap l := by
  have lt := h.lt
  obtain ⟨cur, fz, hh, r⟩ := h.cur
  exact ⟨h.ge, h.le, cur, fz, by rw [hb.block _ lt]; exact hh, r⟩
theorem MRow.cell {w : World} {B g cap : Nat} {l : List UInt8} (h : MRow w B g cap l) (j : Nat) (b : UInt8) (hj : l[j]? = some b) : w.cell? ⟨g, j, none⟩ = some (.int .u8 (b.toNat : Int)) := by
  obtain ⟨cur, fz, hh, _, _, ht⟩ := h.cur
  have hj' : (Lib.byteCells l)[j]? = some (.int .u8 (b.toNat : Int)) := by simp [Lib.byteCells, hj]
  rw [← ht, List.getElem?_take] at hj'
  simp only [World.cell?, hh]
  split at hj'
  · simpa using hj'
  · cases hj'
theorem info5 : (Tryz.prog.info? 5).map (fun i => (i.zero, i.size, i.bytes)) = some (some (.int .u8 0), 1, 1) := by kernel_rfl
theorem mrow_append (w : World) (B g cap : Nat) (l : List UInt8) (h : MRow w B g cap l) (ty : TypeId) (sb c : Nat) (b : UInt8) (hu : w.cell? ⟨sb, 0, none⟩ = some (.int .u8 (b.toNat : Int))) (hl : l.length < 100000) (hB : B ≤ w.heap.size) :
    ∃ g' cap' w', (Builtin.append_ #[87, 87] ty #[.slice (some ⟨g, 0, none⟩) l.length cap, .slice (some ⟨sb, 0, none⟩) 1 c]).run Tryz.prog w = .ok (.slice (some ⟨g', 0, none⟩) (l.length + 1) cap') w' ∧ MRow w' B g' cap' (l ++ [b]) ∧ Below B w w' := by
  obtain ⟨i, hi, hp⟩ := Option.map_eq_some_iff.1 info5
  simp only [Prod.mk.injEq] at hp
  obtain ⟨p1, p2, p3⟩ := hp
  have hnews : ∀ (j : Nat) (u : Value), [Value.int .u8 (b.toNat : Int)][j]? = some u → w.cell? ((⟨sb, 0, none⟩ : Addr).add j) = some u := by
    intro j u hj
    match j with
    | 0 => simp only [List.getElem?_cons_zero, Option.some.injEq] at hj; subst hj; exact hu
    | j + 1 => simp at hj
  have hge := h.ge
  have hle := h.le
  have lt := h.lt
  obtain ⟨cur, fz, hh, hcs, hfz, ht⟩ := h.cur
  by_cases hr : l.length + 1 ≤ cap
  · have hcell : ∀ j, j < cap → (w.cell? ⟨g, j, none⟩).isSome = true := fun j hj => by
      simp only [World.cell?, hh]; simp; omega
    have hfro : ∀ j, j < cap → w.frozen? ⟨g, j, none⟩ = false := fun j hj => by
      simp only [World.frozen?, hh]; exact hfz j hj
    have hrun := run_append_room_cells (P := Tryz.prog) w 87 ty 5 i Tryz.underlying87 hi g 0 l.length cap ⟨sb, 0, none⟩ 1 c [.int .u8 (b.toNat : Int)] (by rw [p2]; rfl) hnews (by intro u hu'; simp at hu'; subst hu'; rfl) hr
      (fun j hj => hcell _ (by rw [p2]; simp at hj; omega)) (fun j hj => hfro _ (by rw [p2]; simp at hj; omega))
    rw [p2] at hrun
    refine ⟨g, cap, _, hrun, ⟨hge, by simpa using hr, cur.setIfInBounds l.length (.int .u8 (b.toNat : Int)), fz, ?_, by simpa using hcs, hfz, ?_⟩, ?_⟩
    · simp [World.setCells, World.setCell, Array.getElem?_modify, hh]
    · rw [Array.toList_setIfInBounds, List.length_append, List.length_singleton, List.take_add_one, List.take_set_of_le (Nat.le_refl _), ht, List.getElem?_set_self (by simp; omega)]
      simp [Lib.byteCells]
    · simpa [World.setCells] using (Below.refl B w).setCell (p := ⟨g, l.length, none⟩) hge (.int .u8 (b.toNat : Int))
  · have holds : ∀ (j : Nat) (v : Value), (Lib.byteCells l)[j]? = some v → w.cell? ((⟨g, 0, none⟩ : Addr).add j) = some v := by
      intro j v hj
      rw [addr_add]
      rw [← ht, List.getElem?_take] at hj
      simp only [World.cell?, hh]
      split at hj
      · simpa using hj
      · cases hj
    have hbl : (Lib.byteCells l).length = l.length := by simp [Lib.byteCells]
    have hrun := run_append_grow (P := Tryz.prog) w 87 ty 5 i (.int .u8 0) Tryz.underlying87 hi p1 ⟨g, 0, none⟩ l.length cap (Lib.byteCells l) (by rw [p2, hbl]; omega) holds ⟨sb, 0, none⟩ 1 c [.int .u8 (b.toNat : Int)] (by rw [p2]; rfl) hnews (by omega) (by omega)
      (growslice_fits (by omega) (by rw [p3]; omega))
    have hgc := grownCap_ge w (l.length + 1) cap 5
    refine ⟨w.heap.size, _, _, hrun, ⟨hB, by simpa using hgc, _, (0, 0), (Blk.new w.drew _ 5), ?_, by simp, ?_⟩, ?_⟩
    · simp [Builtin.zeroCells, Value.cells, hbl]; omega
    · simp only [Array.toList_append, List.append_assoc]
      rw [List.length_append, List.length_singleton, List.take_append, hbl]
      rw [List.take_of_length_le (by rw [hbl]; omega)]
      simp [Lib.byteCells]
    · exact (Below.refl B w).drew.alloc hB _
section
variable {ops : Array Oper} {Q : Exit → Act → World → Prop} {a : Act} {w : World} {rest : List Oper} {o : Oper}
theorem wpl_mpush (hgd : o.guard = none) (s x : Operand) (ho : o.op = .call { callee := .builtin .append, args := #[s, x], argTypes := #[87, 87] })
    (B g cap : Nat) (l : List UInt8) (hs : a.eval s = .slice (some ⟨g, 0, none⟩) l.length cap) (h : MRow w B g cap l) (sb c : Nat) (b : UInt8) (hx : a.eval x = .slice (some ⟨sb, 0, none⟩) 1 c)
    (hu : w.cell? ⟨sb, 0, none⟩ = some (.int .u8 (b.toNat : Int))) (hl : l.length < 100000) (hB : B ≤ w.heap.size)
    (hK : ∀ g' cap' w', MRow w' B g' cap' (l ++ [b]) → Below B w w' → wpList Tryz.prog ops Q rest (a.put o.dst (.slice (some ⟨g', 0, none⟩) (l.length + 1) cap')) w') : wpList Tryz.prog ops Q (o :: rest) a w := by
  refine wpList_plain hgd fun K hK' => ?_
  obtain ⟨g', cap', w', hr, h2, h3⟩ := mrow_append w B g cap l h o.type sb c b hu hl hB
  unfold Oper.wp execOp
  simp only [ho, resolve, invoke, builtin, Sem.run_bind, Sem.run_pure, Result.andThen_ok, List.map_toArray, List.map_cons, List.map_nil, hs, hx, hr]
  exact hK' _ _ (hK g' cap' w' h2 h3)
theorem wpl_mbytes (hgd : o.guard = none) (x : Operand) (ho : o.op = .convert 9 87 x) (s : ByteArray) (hx : a.eval x = .string s)
    (hK : ∀ cap' w', MRow w' w.heap.size w.heap.size cap' s.data.toList → Below w.heap.size w w' → wpList Tryz.prog ops Q rest (a.put o.dst (.slice (some ⟨w.heap.size, 0, none⟩) s.size cap')) w') : wpList Tryz.prog ops Q (o :: rest) a w := by
  refine wpList_plain hgd fun K hK' => ?_
  have hr := Lib.run_convert_string_bytes (P := Tryz.prog) w 9 87 5 s Tryz.underlying9 Tryz.underlying87 Tryz.underlying5
  have hgc := grownCap_ge w s.size 0 5
  unfold Oper.wp execOp
  simp only [ho, hx, Sem.run_bind, Sem.run_pure, Result.andThen_ok, hr]
  refine hK' _ _ (hK _ _ ⟨Nat.le_refl _, by simpa using hgc, _, _, Lib.bytesWorld_at_new w 5 s, ?_, ?_, ?_⟩ ⟨rfl, rfl, rfl, by rw [Lib.bytesWorld_size]; omega, fun k hk => Lib.bytesWorld_at_old w 5 s k hk⟩)
  · simp [Lib.bytesCells]; have : s.data.size = s.size := rfl; omega
  · intro j hj; simp [Lib.bytesCells]; have : s.data.size = s.size := rfl; omega
  · simp [Lib.bytesCells, Lib.byteCells]
end
end Go.Proofs.YtkapkphhceknfaaGreatDoor.Sm
namespace Go.Proofs.YtkapkphhceknfaaGreatDoor.Sm
open Go.RowKit
/-- The number that digits of 2^16 tell, the least first. -/
def val : List Nat → Nat
  | [] => 0
  | d :: l => d + 65536 * val l
theorem val_append (l m : List Nat) : val (l ++ m) = val l + 65536 ^ l.length * val m := by
  induction l with
  | nil => simp [val]
  | cons d l ih =>
    simp only [List.cons_append, val, ih, List.length_cons, Nat.pow_succ]
    rw [Nat.mul_add, ← Nat.mul_assoc, Nat.mul_comm 65536 (65536 ^ l.length)]; omega
/-- Such digits as cells. -/
def us (l : List Nat) : List Value := l.map fun d : Nat => Value.int .u64 (d : Int)
theorem us_length (l : List Nat) : (us l).length = l.length := by simp [us]
theorem us_snoc (l : List Nat) (d : Nat) : us (l ++ [d]) = us l ++ [.int .u64 (d : Int)] := by simp [us]
theorem us_get (l : List Nat) (j d : Nat) (h : l[j]? = some d) : (us l)[j]? = some (.int .u64 (d : Int)) := by simp [us, h]
theorem info38 : (Tryz.prog.info? 146).map (fun i => (i.zero, i.size, i.bytes)) = some (some (.int .u64 0), 1, 8) := by kernel_rfl
/-- One step of the product. -/
theorem val_step (outs ds : List Nat) (k c x d : Nat) (hk : outs.length = k) (hd : ds[k]? = some d) (h : val outs + 65536 ^ k * c = val (ds.take k) * x) :
    val (outs ++ [(c + d * x) % 65536]) + 65536 ^ (k + 1) * ((c + d * x) / 65536) = val (ds.take (k + 1)) * x := by
  rw [val_append, List.take_add_one, hd, val_append, hk, Nat.add_mul]
  have hl : (ds.take k).length = k := by
    have : k < ds.length := by
      rcases Nat.lt_or_ge k ds.length with h' | h'
      · exact h'
      · rw [List.getElem?_eq_none h'] at hd; cases hd
    rw [List.length_take]; omega
  rw [hl]
  simp only [Option.toList, val, Nat.mul_zero, Nat.add_zero]
  have e := Nat.div_add_mod (c + d * x) 65536
  have : 65536 ^ k * ((c + d * x) % 65536) + 65536 ^ (k + 1) * ((c + d * x) / 65536) = 65536 ^ k * c + 65536 ^ k * d * x := by
    rw [Nat.pow_succ, Nat.mul_assoc, ← Nat.mul_add, Nat.mul_assoc, ← Nat.mul_add]
    congr 1; omega
  omega
theorem val_step2 (outs ds : List Nat) (k c x : Nat) (hk : outs.length = k) (hd : ds.length ≤ k) (h : val outs + 65536 ^ k * c = val (ds.take k) * x) :
    val (outs ++ [c % 65536]) + 65536 ^ (k + 1) * (c / 65536) = val (ds.take (k + 1)) * x := by
  rw [val_append, hk, List.take_of_length_le (by omega)]
  rw [List.take_of_length_le hd] at h
  simp only [val, Nat.mul_zero, Nat.add_zero]
  have e := Nat.div_add_mod c 65536
  have : 65536 ^ k * (c % 65536) + 65536 ^ (k + 1) * (c / 65536) = 65536 ^ k * c := by
    rw [Nat.pow_succ, Nat.mul_assoc, ← Nat.mul_add]; congr 1; omega
  omega
theorem new_cell (w : World) (u : Value) (T : TypeId) : (w.alloc (.cells #[u] T)).cell? ⟨w.heap.size, 0, none⟩ = some u := (Blk.new w #[u] T).cell 0
end Go.Proofs.YtkapkphhceknfaaGreatDoor.Sm
namespace Go.Proofs.YtkapkphhceknfaaGreatDoor.Sm
open Go.RowKit
theorem val_lt (l : List Nat) (h : ∀ d ∈ l, d < 65536) : val l < 65536 ^ l.length := by
  induction l with
  | nil => simp [val]
  | cons d l ih =>
    have h1 := ih fun x hx => h x (by simp [hx])
    have h2 := h d (by simp)
    simp only [val, List.length_cons, Nat.pow_succ]
    omega
theorem val_split (l : List Nat) (m a : Nat) (h : l[m]? = some a) : val l = val (l.take m) + 65536 ^ m * (a + 65536 * val (l.drop (m + 1))) := by
  have hm : m < l.length := by
    rcases Nat.lt_or_ge m l.length with h' | h'
    · exact h'
    · rw [List.getElem?_eq_none h'] at h; cases h
  have e : l = l.take m ++ (a :: l.drop (m + 1)) := by
    have e1 := List.take_append_drop m l
    rw [List.drop_eq_getElem_cons hm] at e1
    rw [List.getElem?_eq_getElem hm] at h
    injection h with h
    rw [h] at e1; exact e1.symm
  have hl : (l.take m).length = m := by rw [List.length_take]; omega
  calc val l = val (l.take m ++ (a :: l.drop (m + 1))) := by rw [← e]
    _ = _ := by rw [val_append, hl]; rfl
theorem drop_some (l : List Nat) (t a : Nat) (h : l[t]? = some a) : l.drop t = a :: l.drop (t + 1) := by
  have ht : t < l.length := by
    rcases Nat.lt_or_ge t l.length with h' | h'
    · exact h'
    · rw [List.getElem?_eq_none h'] at h; cases h
  rw [List.drop_eq_getElem_cons ht]
  rw [List.getElem?_eq_getElem ht] at h; injection h with h; rw [h]
/-- The greatest digit that differs decides. -/
theorem val_cmp (l r : List Nat) (m a b : Nat) (hl : l[m]? = some a) (hr : r[m]? = some b) (dl : ∀ d ∈ l, d < 65536) (dr : ∀ d ∈ r, d < 65536) (hd : l.drop (m + 1) = r.drop (m + 1)) (hne : a ≠ b) : (b < a) ↔ (val r < val l) := by
  rw [val_split l m a hl, val_split r m b hr, hd]
  have h1 := val_lt (l.take m) fun d hd' => dl d (List.mem_of_mem_take hd')
  have h2 := val_lt (r.take m) fun d hd' => dr d (List.mem_of_mem_take hd')
  have p1 : 65536 ^ (l.take m).length ≤ 65536 ^ m := Nat.pow_le_pow_right (by decide) (List.length_take_le _ _)
  have p2 : 65536 ^ (r.take m).length ≤ 65536 ^ m := Nat.pow_le_pow_right (by decide) (List.length_take_le _ _)
  generalize val (l.take m) = A at *
  generalize val (r.take m) = B at *
  generalize 65536 * val (r.drop (m + 1)) = D at *
  generalize 65536 ^ m = Pm at *
  rw [Nat.mul_add, Nat.mul_add]
  rcases Nat.lt_or_gt_of_ne hne with h | h
  · have : Pm * a + Pm ≤ Pm * b := by rw [← Nat.mul_succ]; exact Nat.mul_le_mul_left _ h
    constructor
    · intro h'; omega
    · intro h'; omega
  · have : Pm * b + Pm ≤ Pm * a := by rw [← Nat.mul_succ]; exact Nat.mul_le_mul_left _ h
    constructor
    · intro _; omega
    · intro _; exact h
theorem _root_.Go.Proofs.YtkapkphhceknfaaGreatDoor.Row.weaken {w : World} {B B' : Nat} {e : TypeId} {v : Value} {xs : List Value} (h : Row w B e v xs) (hB : B' ≤ B) : Row w B' e v xs := by
  obtain ⟨h1, h2⟩ := h
  refine ⟨h1, ?_⟩
  rcases h2 with h2 | ⟨g, cap, cur, hv, hg, r⟩
  · exact Or.inl h2
  · exact Or.inr ⟨g, cap, cur, hv, by omega, r⟩
theorem _root_.Go.Proofs.YtkapkphhceknfaaGreatDoor.Row.single (w : World) (u : Value) (e : TypeId) : Row (w.alloc (.cells #[u] e)) w.heap.size e (.slice (some ⟨w.heap.size, 0, none⟩) 1 1) [u] :=
  ⟨rfl, Or.inr ⟨w.heap.size, 1, #[u], rfl, Nat.le_refl _, Blk.new w #[u] e, Nat.le_refl 1, by unfold maxLen; omega, rfl, rfl⟩⟩
theorem made_replicate (z : Value) (hz : z.cells = #[z]) (n : Nat) : (madeCells z.cells (n * 1)).toList = List.replicate n z := by
  rw [hz, Nat.mul_one]
  apply List.ext_getElem?; intro i
  by_cases h : i < n
  · simp [madeCells, h, Nat.mod_one]
  · simp [madeCells, h]
section
variable {P : Program} {ops : Array Oper} {Q : Exit → Act → World → Prop} {a : Act} {w : World} {rest : List Oper} {o : Oper}
theorem wpl_make (hgd : o.guard = none) (l c : Operand) (t : TypeId) (ho : o.op = .makeSlice t l c) (e : TypeId) (z : Value) (bytes : Nat) (ht : P.underlying t = some (.slice e)) (hinfo : (P.info? e).map (fun i => (i.zero, i.size, i.bytes)) = some (some z, 1, bytes)) (hz : z.cells = #[z])
    (L : Int) (n : Nat) (hl : a.eval l = .int .i64 L) (hc : a.eval c = .int .i64 L) (hL : L = (n : Int)) (hn : n < 100000) (hby : bytes ≤ 8)
    (h : ∀ w', Row w' w.heap.size e (.slice (some ⟨w.heap.size, 0, none⟩) n n) (List.replicate n z) → w.grownBy w' none → wpList P ops Q rest (a.put o.dst (.slice (some ⟨w.heap.size, 0, none⟩) n n)) w') : wpList P ops Q (o :: rest) a w := by
  obtain ⟨i, hi, hp⟩ := Option.map_eq_some_iff.1 hinfo
  simp only [Prod.mk.injEq] at hp
  obtain ⟨p1, p2, p3⟩ := hp
  refine wpList_make_full w hgd l c t ho w.heap.size e i z 1 ht hi p1 p2 .i64 .i64 L L n hl hc hL hL (by rw [p3]; have := Nat.mul_le_mul hby (Nat.le_of_lt hn); omega) (by unfold maxLen; omega) (Nat.le_refl _) ?_
  intro w' h1 h2
  refine h w' ?_ h2
  rw [made_replicate z hz] at h1
  unfold Row; rw [List.length_replicate]; exact h1
end
/-- How long a slice is. -/
def lenOf : Value → Nat
  | .slice _ n _ => n
  | _ => 0
theorem below_grown0 {B : Nat} {a w w' : World} (h : Below B a w) (hg : w.grownBy w' none) (hB : B ≤ w.heap.size) : Below B a w' := h.grown hg hB fun k hk => by cases hk
end Go.Proofs.YtkapkphhceknfaaGreatDoor.Sm
namespace Go.Proofs.YtkapkphhceknfaaGreatDoor.Sm
open Go.RowKit
end Go.Proofs.YtkapkphhceknfaaGreatDoor.Sm
namespace Go.Proofs.YtkapkphhceknfaaGreatDoor.Sm
open Go.RowKit
theorem root_unique (k a b N : Nat) (h1 : a ^ k ≤ N) (h2 : N < (a + 1) ^ k) (h3 : b ^ k ≤ N) (h4 : N < (b + 1) ^ k) : a = b := by
  rcases Nat.lt_trichotomy a b with h | h | h
  · have := Nat.pow_le_pow_left (show a + 1 ≤ b from h) k; omega
  · exact h
  · have := Nat.pow_le_pow_left (show b + 1 ≤ a from h) k; omega
end Go.Proofs.YtkapkphhceknfaaGreatDoor.Sm
namespace Go.Proofs.YtkapkphhceknfaaGreatDoor.Sm
open Go.RowKit
def okP (l : List Nat) (k : Nat) : Bool := l.all fun p => decide (k % p ≠ 0)
/-- The primes below a number, one behind the other. -/
def pl : Nat → List Nat
  | 0 => []
  | k + 1 => if 2 ≤ k ∧ okP (pl k) k = true then pl k ++ [k] else pl k
theorem pl_two : pl 2 = [] := rfl
theorem pl_312 : (pl 312).length = 64 := by decide +kernel
theorem pl_mono (a d : Nat) : ∃ r, pl (a + d) = pl a ++ r := by
  induction d with
  | zero => exact ⟨[], by simp⟩
  | succ d ih =>
    obtain ⟨r, hr⟩ := ih
    rw [← Nat.add_assoc]
    simp only [pl]
    split
    · exact ⟨r ++ [a + d], by rw [hr, List.append_assoc]⟩
    · exact ⟨r, hr⟩
theorem pl_lt (k : Nat) (h : (pl k).length < 64) : k < 312 := by
  rcases Nat.lt_or_ge k 312 with h' | h'
  · exact h'
  · exfalso
    obtain ⟨r, hr⟩ := pl_mono 312 (k - 312)
    rw [show 312 + (k - 312) = k from by omega] at hr
    have : (pl k).length = 64 + r.length := by rw [hr, List.length_append, pl_312]
    omega
theorem pl_end (k : Nat) (hk : k ≤ 312) (h : 64 ≤ (pl k).length) : pl k = pl 312 := by
  obtain ⟨r, hr⟩ := pl_mono k (312 - k)
  rw [show k + (312 - k) = 312 from by omega] at hr
  have := pl_312
  rw [hr, List.length_append] at this
  have : r = [] := List.eq_nil_of_length_eq_zero (by omega)
  rw [hr, this, List.append_nil]
theorem pl_pos (k : Nat) : ∀ p ∈ pl k, 2 ≤ p ∧ p < k := by
  induction k with
  | zero => intro p hp; simp [pl] at hp
  | succ k ih =>
    intro p hp
    simp only [pl] at hp
    split at hp
    · rename_i h
      rcases List.mem_append.1 hp with h1 | h1
      · have := ih p h1; omega
      · simp at h1; omega
    · have := ih p hp; omega
def ins (l : List Nat) : List Value := l.map fun d : Nat => Value.int .i64 (d : Int)
theorem ins_length (l : List Nat) : (ins l).length = l.length := by simp [ins]
theorem ins_snoc (l : List Nat) (d : Nat) : ins (l ++ [d]) = ins l ++ [.int .i64 (d : Int)] := by simp [ins]
theorem ins_get (l : List Nat) (j d : Nat) (h : l[j]? = some d) : (ins l)[j]? = some (.int .i64 (d : Int)) := by simp [ins, h]
theorem info3 : (Tryz.prog.info? 3).map (fun i => (i.zero, i.size, i.bytes)) = some (some (.int .i64 0), 1, 8) := by kernel_rfl
theorem okP_succ (l : List Nat) (k j p : Nat) (h : l[j]? = some p) : okP (l.take (j + 1)) k = (okP (l.take j) k && decide (k % p ≠ 0)) := by
  rw [List.take_add_one, h]; simp [okP]
end Go.Proofs.YtkapkphhceknfaaGreatDoor.Sm
