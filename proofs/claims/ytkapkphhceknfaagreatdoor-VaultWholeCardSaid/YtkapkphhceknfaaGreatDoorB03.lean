/-
  Part of the proof of SumTells: plain facts on numbers kept as lists of digits, and the reference's comparison of a square with a great number is walked.
  Part of the proof of SumTells: the reference's comparison of a cube with a great number is walked.
  Part of the proof of SumTells: the reference's root is walked.
  Part of the proof of SumTells: the reference's primes are walked.
  Part of the proof of SumTells: the rotation, a word out of bytes, and the schedule of the code's sum are walked.
  Part of the proof of SumTells: one block stirred by the code's sum, as a plain function on words.
  Part of the proof of SumTells: all blocks stirred by the code's sum.
  Part of the proof of SumTells: a number's eight bytes and the state's text in the code's sum are walked.
-/
import Derived.Test.YtkapkphhceknfaaGreatDoorB02
import Derived.Test.YtkapkphhceknfaaGreatDoorB01
namespace Go.Proofs.YtkapkphhceknfaaGreatDoor.Sm
open Go.RowKit
theorem val_lt (l : List Nat) (h : ∀ d ∈ l, d < 65536) : val l < 65536 ^ l.length := by
  induction l with
  | nil => simp [val]
  | cons d l ih =>
    have h1 := ih fun x hx => h x (by simp [hx])
    have h2 := h d (by simp)
    simp only [val, List.length_cons, Nat.pow_succ]
    omega
theorem val_split (l : List Nat) (m a : Nat) (h : l[m]? = some a) : val l = val (l.take m) + 65536 ^ m * (a + 65536 * val (l.drop (m + 1))) := by
  have hm : m < l.length := by
    rcases Nat.lt_or_ge m l.length with h' | h'
    · exact h'
    · rw [List.getElem?_eq_none h'] at h; cases h
  have e : l = l.take m ++ (a :: l.drop (m + 1)) := by
    have e1 := List.take_append_drop m l
    rw [List.drop_eq_getElem_cons hm] at e1
    rw [List.getElem?_eq_getElem hm] at h
    injection h with h
    rw [h] at e1; exact e1.symm
  have hl : (l.take m).length = m := by rw [List.length_take]; omega
  calc val l = val (l.take m ++ (a :: l.drop (m + 1))) := by rw [← e]
    _ = _ := by rw [val_append, hl]; rfl
theorem drop_some (l : List Nat) (t a : Nat) (h : l[t]? = some a) : l.drop t = a :: l.drop (t + 1) := by
  have ht : t < l.length := by
    rcases Nat.lt_or_ge t l.length with h' | h'
    · exact h'
    · rw [List.getElem?_eq_none h'] at h; cases h
  rw [List.drop_eq_getElem_cons ht]
  rw [List.getElem?_eq_getElem ht] at h; injection h with h; rw [h]
/-- The greatest digit that differs decides. -/
theorem val_cmp (l r : List Nat) (m a b : Nat) (hl : l[m]? = some a) (hr : r[m]? = some b) (dl : ∀ d ∈ l, d < 65536) (dr : ∀ d ∈ r, d < 65536) (hd : l.drop (m + 1) = r.drop (m + 1)) (hne : a ≠ b) : (b < a) ↔ (val r < val l) := by
  rw [val_split l m a hl, val_split r m b hr, hd]
  have h1 := val_lt (l.take m) fun d hd' => dl d (List.mem_of_mem_take hd')
  have h2 := val_lt (r.take m) fun d hd' => dr d (List.mem_of_mem_take hd')
  have p1 : 65536 ^ (l.take m).length ≤ 65536 ^ m := Nat.pow_le_pow_right (by decide) (List.length_take_le _ _)
  have p2 : 65536 ^ (r.take m).length ≤ 65536 ^ m := Nat.pow_le_pow_right (by decide) (List.length_take_le _ _)
  generalize val (l.take m) = A at *
  generalize val (r.take m) = B at *
  generalize 65536 * val (r.drop (m + 1)) = D at *
  generalize 65536 ^ m = Pm at *
  rw [Nat.mul_add, Nat.mul_add]
  rcases Nat.lt_or_gt_of_ne hne with h | h
  · have : Pm * a + Pm ≤ Pm * b := by rw [← Nat.mul_succ]; exact Nat.mul_le_mul_left _ h
    constructor
    · intro h'; omega
    · intro h'; omega
  · have : Pm * b + Pm ≤ Pm * a := by rw [← Nat.mul_succ]; exact Nat.mul_le_mul_left _ h
    constructor
    · intro _; omega
    · intro _; exact h
theorem _root_.Go.Proofs.YtkapkphhceknfaaGreatDoor.Row.weaken {w : World} {B B' : Nat} {e : TypeId} {v : Value} {xs : List Value} (h : Row w B e v xs) (hB : B' ≤ B) : Row w B' e v xs := by
  obtain ⟨h1, h2⟩ := h
  refine ⟨h1, ?_⟩
  rcases h2 with h2 | ⟨g, cap, cur, hv, hg, r⟩
  · exact Or.inl h2
  · exact Or.inr ⟨g, cap, cur, hv, by omega, r⟩
theorem _root_.Go.Proofs.YtkapkphhceknfaaGreatDoor.Row.single (w : World) (u : Value) (e : TypeId) : Row (w.alloc (.cells #[u] e)) w.heap.size e (.slice (some ⟨w.heap.size, 0, none⟩) 1 1) [u] :=
  ⟨rfl, Or.inr ⟨w.heap.size, 1, #[u], rfl, Nat.le_refl _, Blk.new w #[u] e, Nat.le_refl 1, by unfold maxLen; omega, rfl, rfl⟩⟩
theorem made_replicate (z : Value) (hz : z.cells = #[z]) (n : Nat) : (madeCells z.cells (n * 1)).toList = List.replicate n z := by
  rw [hz, Nat.mul_one]
  apply List.ext_getElem?; intro i
  by_cases h : i < n
  · simp [madeCells, h, Nat.mod_one]
  · simp [madeCells, h]
section
variable {P : Program} {ops : Array Oper} {Q : Exit → Act → World → Prop} {a : Act} {w : World} {rest : List Oper} {o : Oper}
theorem wpl_make (hgd : o.guard = none) (l c : Operand) (t : TypeId) (ho : o.op = .makeSlice t l c) (e : TypeId) (z : Value) (bytes : Nat) (ht : P.underlying t = some (.slice e)) (hinfo : (P.info? e).map (fun i => (i.zero, i.size, i.bytes)) = some (some z, 1, bytes)) (hz : z.cells = #[z])
    (L : Int) (n : Nat) (hl : a.eval l = .int .i64 L) (hc : a.eval c = .int .i64 L) (hL : L = (n : Int)) (hn : n < 100000) (hby : bytes ≤ 8)
    (h : ∀ w', Row w' w.heap.size e (.slice (some ⟨w.heap.size, 0, none⟩) n n) (List.replicate n z) → w.grownBy w' none → wpList P ops Q rest (a.put o.dst (.slice (some ⟨w.heap.size, 0, none⟩) n n)) w') : wpList P ops Q (o :: rest) a w := by
  obtain ⟨i, hi, hp⟩ := Option.map_eq_some_iff.1 hinfo
  simp only [Prod.mk.injEq] at hp
  obtain ⟨p1, p2, p3⟩ := hp
  refine wpList_make_full w hgd l c t ho w.heap.size e i z 1 ht hi p1 p2 .i64 .i64 L L n hl hc hL hL (by rw [p3]; have := Nat.mul_le_mul hby (Nat.le_of_lt hn); omega) (by unfold maxLen; omega) (Nat.le_refl _) ?_
  intro w' h1 h2
  refine h w' ?_ h2
  rw [made_replicate z hz] at h1
  unfold Row; rw [List.length_replicate]; exact h1
end
/-- How long a slice is. -/
def lenOf : Value → Nat
  | .slice _ n _ => n
  | _ => 0
theorem below_grown0 {B : Nat} {a w w' : World} (h : Below B a w) (hg : w.grownBy w' none) (hB : B ≤ w.heap.size) : Below B a w' := h.grown hg hB fun k hk => by cases hk
end Go.Proofs.YtkapkphhceknfaaGreatDoor.Sm
namespace Go.Proofs.YtkapkphhceknfaaGreatDoor.Sm
open Go.RowKit
end Go.Proofs.YtkapkphhceknfaaGreatDoor.Sm
namespace Go.Proofs.YtkapkphhceknfaaGreatDoor.Sm
open Go.RowKit
theorem root_unique (k a b N : Nat) (h1 : a ^ k ≤ N) (h2 : N < (a + 1) ^ k) (h3 : b ^ k ≤ N) (h4 : N < (b + 1) ^ k) : a = b := by
  rcases Nat.lt_trichotomy a b with h | h | h
  · have := Nat.pow_le_pow_left (show a + 1 ≤ b from h) k; omega
  · exact h
  · have := Nat.pow_le_pow_left (show b + 1 ≤ a from h) k; omega
end Go.Proofs.YtkapkphhceknfaaGreatDoor.Sm
namespace Go.Proofs.YtkapkphhceknfaaGreatDoor.Sm
open Go.RowKit
def okP (l : List Nat) (k : Nat) : Bool := l.all fun p => decide (k % p ≠ 0)
/-- The primes below a number, one behind the other. -/
def pl : Nat → List Nat
  | 0 => []
  | k + 1 => if 2 ≤ k ∧ okP (pl k) k = true then pl k ++ [k] else pl k
theorem pl_two : pl 2 = [] := rfl
theorem pl_312 : (pl 312).length = 64 := by decide +kernel
theorem pl_mono (a d : Nat) : ∃ r, pl (a + d) = pl a ++ r := by
  induction d with
  | zero => exact ⟨[], by simp⟩
  | succ d ih =>
    obtain ⟨r, hr⟩ := ih
    rw [← Nat.add_assoc]
    simp only [pl]
    split
    · exact ⟨r ++ [a + d], by rw [hr, List.append_assoc]⟩
    · exact ⟨r, hr⟩
theorem pl_lt (k : Nat) (h : (pl k).length < 64) : k < 312 := by
  rcases Nat.lt_or_ge k 312 with h' | h'
  · exact h'
  · exfalso
    obtain ⟨r, hr⟩ := pl_mono 312 (k - 312)
    rw [show 312 + (k - 312) = k from by omega] at hr
    have : (pl k).length = 64 + r.length := by rw [hr, List.length_append, pl_312]
    omega
theorem pl_end (k : Nat) (hk : k ≤ 312) (h : 64 ≤ (pl k).length) : pl k = pl 312 := by
  obtain ⟨r, hr⟩ := pl_mono k (312 - k)
  rw [show k + (312 - k) = 312 from by omega] at hr
  have := pl_312
  rw [hr, List.length_append] at this
  have : r = [] := List.eq_nil_of_length_eq_zero (by omega)
  rw [hr, this, List.append_nil]
theorem pl_pos (k : Nat) : ∀ p ∈ pl k, 2 ≤ p ∧ p < k := by
  induction k with
  | zero => intro p hp; simp [pl] at hp
  | succ k ih =>
    intro p hp
    simp only [pl] at hp
    split at hp
    · rename_i h
      rcases List.mem_append.1 hp with h1 | h1
      · have := ih p h1; omega
      · simp at h1; omega
    · have := ih p hp; omega
def ins (l : List Nat) : List Value := l.map fun d : Nat => Value.int .i64 (d : Int)
theorem ins_length (l : List Nat) : (ins l).length = l.length := by simp [ins]
theorem ins_snoc (l : List Nat) (d : Nat) : ins (l ++ [d]) = ins l ++ [.int .i64 (d : Int)] := by simp [ins]
theorem ins_get (l : List Nat) (j d : Nat) (h : l[j]? = some d) : (ins l)[j]? = some (.int .i64 (d : Int)) := by simp [ins, h]
theorem info3 : (Tryz.prog.info? 3).map (fun i => (i.zero, i.size, i.bytes)) = some (some (.int .i64 0), 1, 8) := by kernel_rfl
theorem okP_succ (l : List Nat) (k j p : Nat) (h : l[j]? = some p) : okP (l.take (j + 1)) k = (okP (l.take j) k && decide (k % p ≠ 0)) := by
  rw [List.take_add_one, h]; simp [okP]
end Go.Proofs.YtkapkphhceknfaaGreatDoor.Sm
namespace Go.Proofs.YtkapkphhceknfaaGreatDoor.Sm
open Go.RowKit
def wordN (a b c d : Nat) : BitVec 32 := BitVec.ofNat 32 (((a * 256 + b) * 256 + c) * 256 + d)
theorem or_add (x y k : Nat) (h : y < 2 ^ k) : x * 2 ^ k ||| y = x * 2 ^ k + y := by
  rw [Nat.mul_comm, ← Nat.two_pow_add_eq_or_of_lt h]
theorem word_eq (a b c d : Nat) (ha : a < 256) (hb : b < 256) (hc : c < 256) (hd : d < 256) :
    bits BinOp.or IntKind.u32 (bits BinOp.or IntKind.u32 (bits BinOp.or IntKind.u32 ((a:Int) % 4294967296 * 16777216 % 4294967296) ((b:Int) % 4294967296 * 65536 % 4294967296))
      ((c:Int) % 4294967296 * 256 % 4294967296)) ((d:Int) % 4294967296) = I (wordN a b c d) := by
  rw [show (a:Int) % 4294967296 * 16777216 % 4294967296 = ((a * 16777216 : Nat) : Int) from by omega, show (b:Int) % 4294967296 * 65536 % 4294967296 = ((b * 65536 : Nat) : Int) from by omega,
    show (c:Int) % 4294967296 * 256 % 4294967296 = ((c * 256 : Nat) : Int) from by omega, show (d:Int) % 4294967296 = ((d : Nat) : Int) from by omega]
  have e1 : a * 16777216 ||| b * 65536 = a * 16777216 + b * 65536 := or_add a (b * 65536) 24 (by omega)
  have e2 : (a * 16777216 + b * 65536) ||| c * 256 = a * 16777216 + b * 65536 + c * 256 := by
    have := or_add (a * 256 + b) (c * 256) 16 (by omega)
    rw [show (a * 256 + b) * 2 ^ 16 = a * 16777216 + b * 65536 from by omega] at this; exact this
  have e3 : (a * 16777216 + b * 65536 + c * 256) ||| d = a * 16777216 + b * 65536 + c * 256 + d := by
    have := or_add ((a * 256 + b) * 256 + c) d 8 (by omega)
    rw [show ((a * 256 + b) * 256 + c) * 2 ^ 8 = a * 16777216 + b * 65536 + c * 256 from by omega] at this; exact this
  rw [u32_or_nat _ _ (by omega) (by omega), e1, u32_or_nat _ _ (by omega) (by omega), e2, u32_or_nat _ _ (by omega) (by omega), e3]
  unfold I wordN; rw [BitVec.toNat_ofNat, Nat.mod_eq_of_lt (by omega)]; omega
/-- Byte i of a text, a number. -/
def byteAt (s : ByteArray) (i : Nat) : Nat := (s.data.toList.getD i 0).toNat
theorem byteAt_eq (s : ByteArray) (i : Nat) (h : i < s.size) : s[i].toNat = byteAt s i := by
  have h' : i < s.data.toList.length := by simpa using h
  unfold byteAt; rw [List.getD_eq_getElem?_getD, List.getElem?_eq_getElem h', Option.getD_some]; rfl
theorem byteAt_extract (s : ByteArray) (a b i : Nat) (h : a + i < b) : byteAt (s.extract a b) i = byteAt s (a + i) := by
  unfold byteAt; simp only [ByteArray.data_extract, Array.toList_extract, List.extract_eq_take_drop, List.getD_eq_getElem?_getD, List.getElem?_take, List.getElem?_drop]
  rw [if_pos (by omega)]
set_option maxHeartbeats 400000 in
theorem word_any (s : ByteArray) (w : World) (h0 : s.size = 4) :
    Calls Tryz.prog 122 #[.string s] w fun e w' => e = .returned (.int .u32 (I (wordN (byteAt s 0) (byteAt s 1) (byteAt s 2) (byteAt s 3)))) ∧ ∃ n, w' = w.drewN n := by
  rw [← byteAt_eq s 0 (by omega), ← byteAt_eq s 1 (by omega), ← byteAt_eq s 2 (by omega), ← byteAt_eq s 3 (by omega)]
  go_enter Tryz.func122, Tryz.ntmps122
  go_wp2
  go_quiet (fail)
  go_wp2
  go_ret
  exact ⟨ret_int (word_eq _ _ _ _ s[0].toNat_lt s[1].toNat_lt s[2].toNat_lt s[3].toNat_lt), _, rfl⟩
theorem rot_any (x : BitVec 32) (k : Int) (w : World) (h0 : -31 ≤ k) (h1 : k ≤ -1) :
    Calls Tryz.prog 115 #[.int .u32 (I x), .int .i64 k] w fun e w' => e = .returned (.int .u32 (I (x.rotateRight (-k).toNat))) ∧ w' = w := by
  have ha := and31 k h0 h1
  go_enter Tryz.func115, Tryz.ntmps115
  go_wp2
  go_ret
  refine ⟨ret_int ?_, rfl⟩
  rw [I_shlm, I_shr, I_or, ← rot_eq x _ (by omega) (by omega)]
  rw [show (32 + k).toNat = 32 - (-k).toNat from by omega, show (32 - (32 + k)).toNat = (-k).toNat from by omega]
attribute [local go_sem] I_xor I_and I_or I_addm I_not I_shr3 I_shr10
def sg0 (x : BitVec 32) : BitVec 32 := x.rotateRight 7 ^^^ x.rotateRight 18 ^^^ x >>> 3
def sg1 (x : BitVec 32) : BitVec 32 := x.rotateRight 17 ^^^ x.rotateRight 19 ^^^ x >>> 10
/-- The words of a chunk, one a round. -/
def sw (m : Nat → BitVec 32) (t : Nat) : BitVec 32 :=
  if t < 16 then m t else sw m (t - 16) + sg0 (sw m (t - 15)) + sw m (t - 7) + sg1 (sw m (t - 2))
theorem sw_lo (m : Nat → BitVec 32) (t : Nat) (h : t < 16) : sw m t = m t := by rw [sw, if_pos h]
theorem sw_hi (m : Nat → BitVec 32) (t : Nat) (h : ¬ t < 16) : sw m t = sw m (t - 16) + sg0 (sw m (t - 15)) + sw m (t - 7) + sg1 (sw m (t - 2)) := by rw [sw, if_neg h]
/-- The sixteen words that a chunk of 64 bytes has. -/
def mOf (s : ByteArray) (t : Nat) : BitVec 32 := wordN (byteAt s (4 * t)) (byteAt s (4 * t + 1)) (byteAt s (4 * t + 2)) (byteAt s (4 * t + 3))
def upto (f : Nat → BitVec 32) (k : Nat) (j : Nat) : BitVec 32 := if j < k then f j else 0
theorem sz32 : (Tryz.prog.info? 186).map (·.size) = some 64 := by kernel_rfl
theorem sz31 : (Tryz.prog.info? 156).map (·.size) = some 8 := by kernel_rfl
theorem tab_upto_succ (n k : Nat) (f : Nat → BitVec 32) (v : BitVec 32) (h : v = f k) : (tab n (upto f k)).setIfInBounds k (.int .u32 (I v)) = tab n (upto f (k + 1)) := by
  rw [tab_set, h]; apply tab_congr; intro j _; unfold upto
  by_cases e : j = k
  · subst e; simp
  · simp [e]; congr 1; apply propext; omega
set_option maxHeartbeats 1000000 in
theorem sched_any (s : ByteArray) (w : World) (h0 : s.size = 64) :
    Calls Tryz.prog 114 #[.string s] w fun e w' => e = .returned (.agg (tab 64 (sw (mOf s)))) ∧ Below w.heap.size w w' := by
  go_enter Tryz.func114, Tryz.ntmps114
  go_wp2_with fail
  go_loopw [9] (fun i wr => ∃ k : Nat, k ≤ 64 ∧ i = .int .i64 k ∧ Blk wr (w.heap.size + 1) (tab 64 (upto (sw (mOf s)) k)) 186 ∧ Blk wr w.heap.size (tab 64 (fun _ => 0)) 186 ∧ Below w.heap.size w wr) (fun i _ => 64 - (intOf i).toNat)
  case atStart => 
    refine ⟨0, by omega, rfl, Blk.new' _ (tab 64 (upto (sw (mOf s)) 0)) 186 (by simp), (Blk.new w (tab 64 (fun _ => 0)) 186).alloc _, ((Below.refl _ _).alloc (Nat.le_refl _) _).alloc (by simp) _⟩
  case round =>
    obtain ⟨k, hk, rfl, hb1, hb0, hbel⟩ := hrel
    have hc := fun j (hj : j < 64) => hb1.tcell j hj
    have hf := fun j => hb1.frozen j
    by_cases hlt : k < 16
    · have hx : (s.extract (4 * k) (4 * k + 4)).size = 4 := by simp; omega
      have hk64 : k < 64 := by omega
      go_wp2_with (go_at_call 122; refine (word_any _ _ hx).mono ?_; rintro e w' ⟨rfl, n, rfl⟩)
      go_roundw
      case rel => 
        refine ⟨k + 1, by omega, by go_num, ?_, ?_, ?_⟩
        · have hb := (hb1.set k (.int .u32 (I (wordN (byteAt (s.extract (4 * k) (4 * k + 4)) 0) (byteAt (s.extract (4 * k) (4 * k + 4)) 1) (byteAt (s.extract (4 * k) (4 * k + 4)) 2) (byteAt (s.extract (4 * k) (4 * k + 4)) 3))))).drewN n
          rw [tab_upto_succ] at hb
          · exact hb
          · rw [sw_lo _ _ hlt, mOf, byteAt_extract _ _ _ _ (by omega), byteAt_extract _ _ _ _ (by omega), byteAt_extract _ _ _ _ (by omega), byteAt_extract _ _ _ _ (by omega)]; rfl
        · exact (hb0.drewN n).setOther _ (by simp) _
        · exact (below_drewN hbel n).setCell (by simp) _
      case measure => simp [intOf]; omega
    · by_cases hlt2 : k < 64
      · obtain ⟨a15, e15⟩ : ∃ a, Hid (a = k - 15) := ⟨_, rfl⟩
        obtain ⟨a2, e2⟩ : ∃ a, Hid (a = k - 2) := ⟨_, rfl⟩
        obtain ⟨a16, e16⟩ : ∃ a, Hid (a = k - 16) := ⟨_, rfl⟩
        obtain ⟨a7, e7⟩ : ∃ a, Hid (a = k - 7) := ⟨_, rfl⟩
        have q15 : IntKind.i64.wrap ((k : Int) - 15) = (a15 : Int) := by rw [e15.out, IntWalk.i64_in _ (by omega)]; omega
        have q2 : IntKind.i64.wrap ((k : Int) - 2) = (a2 : Int) := by rw [e2.out, IntWalk.i64_in _ (by omega)]; omega
        have q16 : IntKind.i64.wrap ((k : Int) - 16) = (a16 : Int) := by rw [e16.out, IntWalk.i64_in _ (by omega)]; omega
        have q7 : IntKind.i64.wrap ((k : Int) - 7) = (a7 : Int) := by rw [e7.out, IntWalk.i64_in _ (by omega)]; omega
        have l15 : a15 < 64 := by rw [e15.out]; omega
        have l2 : a2 < 64 := by rw [e2.out]; omega
        have l16 : a16 < 64 := by rw [e16.out]; omega
        have l7 : a7 < 64 := by rw [e7.out]; omega
        go_wp2_with fail
        go_quiet (fail)
        go_wp2_with (go_at_call 115; refine (rot_any _ _ _ (by omega) (by omega)).mono ?_; rintro e w' ⟨rfl, rfl⟩)
        go_region
        go_wp2
        go_roundw
        case rel =>
          refine ⟨k + 1, by omega, by go_num, ?_, ?_, ?_⟩
          · have hb := (hb1.drewN (nq + 1)).set k (.int .u32 (I (upto (sw (mOf s)) k a16 + sg0 (upto (sw (mOf s)) k a15) + upto (sw (mOf s)) k a7 + sg1 (upto (sw (mOf s)) k a2))))
            rw [tab_upto_succ] at hb
            · exact hb
            · rw [sw_hi _ _ hlt, e15.out, e2.out, e7.out, e16.out]; unfold upto
              rw [if_pos (by omega), if_pos (by omega), if_pos (by omega), if_pos (by omega)]
          · exact (hb0.drewN (nq + 1)).setOther _ (by simp) _
          · exact (below_drewN hbel _).setCell (by simp) _
        case measure => simp [intOf]; omega
      · have hk' : k = 64 := by omega
        subst hk'
        go_wp2_with (first
          | (refine wpl_load rfl 186 _ rfl 64 155 Tryz.underlying186 sz32 _ _ _ _ rfl hb1 (by simp [tab_size]) ?_; rw [tab_all _ _ _ (Nat.zero_add _)])
          | (refine wpl_store rfl rfl 186 _ _ rfl 64 sz32 _ _ _ _ rfl rfl hb0 (by simp [tab_size]) ?_))
        refine ret_cell 2 186 rfl 64 155 Tryz.underlying186 sz32 _ _ _ rfl (putBlk_blk hb0) rfl ⟨?_, below_put hbel (Nat.le_refl _) _⟩
        rw [tab_congr 64 (upto (sw (mOf s)) 64) (sw (mOf s)) (fun j hj => by unfold upto; rw [if_pos hj])]
end Go.Proofs.YtkapkphhceknfaaGreatDoor.Sm
namespace Go.Proofs.YtkapkphhceknfaaGreatDoor.Sm
open Go.RowKit
attribute [local go_sem] I_xor I_and I_or I_addm I_add3 I_add4 I_add5 I_not
/-- The round numbers as the code lays them. -/
def kList : List Nat := [1116352408, 1899447441, 3049323471, 3921009573, 961987163, 1508970993, 2453635748, 2870763221, 3624381080, 310598401, 607225278, 1426881987, 1925078388, 2162078206, 2614888103, 3248222580, 3835390401, 4022224774, 264347078, 604807628, 770255983, 1249150122, 1555081692, 1996064986, 2554220882, 2821834349, 2952996808, 3210313671, 3336571891, 3584528711, 113926993, 338241895, 666307205, 773529912, 1294757372, 1396182291, 1695183700, 1986661051, 2177026350, 2456956037, 2730485921, 2820302411, 3259730800, 3345764771, 3516065817, 3600352804, 4094571909, 275423344, 430227734, 506948616, 659060556, 883997877, 958139571, 1322822218, 1537002063, 1747873779, 1955562222, 2024104815, 2227730452, 2361852424, 2428436474, 2756734187, 3204031479, 3329325298]
def kF (i : Nat) : BitVec 32 := BitVec.ofNat 32 (kList.getD i 0)
/-- The code's round numbers lie where they should. -/
def KB (w : World) : Prop := 1 < w.heap.size ∧ ∀ i, i < 64 → w.cell? ⟨1, i, none⟩ = some (.int .u32 (I (kF i)))
theorem KB.below {w w' : World} (h : KB w) (hb : Below w.heap.size w w') : KB w' :=
  ⟨Nat.lt_of_lt_of_le h.1 hb.size, fun i hi => by rw [hb.cell h.1]; exact h.2 i hi⟩
structure St where
  a : BitVec 32
  b : BitVec 32
  c : BitVec 32
  d : BitVec 32
  e : BitVec 32
  f : BitVec 32
  g : BitVec 32
  h : BitVec 32
def bs1 (x : BitVec 32) : BitVec 32 := x.rotateRight 6 ^^^ x.rotateRight 11 ^^^ x.rotateRight 25
def bs0 (x : BitVec 32) : BitVec 32 := x.rotateRight 2 ^^^ x.rotateRight 13 ^^^ x.rotateRight 22
def ch (e f g : BitVec 32) : BitVec 32 := e &&& f ^^^ ~~~e &&& g
def maj (a b c : BitVec 32) : BitVec 32 := a &&& b ^^^ a &&& c ^^^ b &&& c
def St.step (s : St) (k w : BitVec 32) : St :=
  let t := s.h + bs1 s.e + ch s.e s.f s.g + k + w
  ⟨t + bs0 s.a + maj s.a s.b s.c, s.a, s.b, s.c, s.d + t, s.e, s.f, s.g⟩
def St.at (s : St) : Nat → BitVec 32
  | 0 => s.a | 1 => s.b | 2 => s.c | 3 => s.d | 4 => s.e | 5 => s.f | 6 => s.g | _ => s.h
def St.of (f : Nat → BitVec 32) : St := ⟨f 0, f 1, f 2, f 3, f 4, f 5, f 6, f 7⟩
def St.rounds (s : St) (m : Nat → BitVec 32) : Nat → St
  | 0 => s
  | i + 1 => (s.rounds m i).step (kF i) (sw m i)
/-- What a chunk of the words m makes of a state. -/
def stirF (f m : Nat → BitVec 32) (j : Nat) : BitVec 32 := f j + ((St.of f).rounds m 64).at j
set_option maxHeartbeats 1000000 in
set_option maxRecDepth 100000 in
theorem stir_any (f : Nat → BitVec 32) (s : ByteArray) (w : World) (h0 : s.size = 64) (hK : KB w) :
    Calls Tryz.prog 98 #[.agg (tab 8 f), .string s] w fun e w' => e = .returned (.agg (tab 8 (stirF f (mOf s)))) ∧ Below w.heap.size w w' := by
  go_enter Tryz.func98, Tryz.ntmps98
  go_wp2_with fail
  refine (sched_any s _ h0).mono ?_
  rintro e w1 ⟨rfl, hb1⟩
  have g1 : Blk w1 w.heap.size (tab 8 f) 156 := Blk.below ((Blk.new w (tab 8 f) 156).alloc _) hb1 (by simp; omega)
  have g2 : Blk w1 (w.heap.size + 1) (tab 8 (fun _ => 0)) 156 := Blk.below (Blk.new' _ _ 156 (by simp)) hb1 (by simp)
  have hbel : Below w.heap.size w w1 := (((Below.refl _ _).alloc (Nat.le_refl _) _).alloc (by simp) _).trans (hb1.mono (by simp; omega))
  clear hb1
  have hsz : w.heap.size + 1 < w1.heap.size := g2.lt
  have g3 := fun (arr : Array Value) => Blk.new w1 arr 186
  go_wp2_with (first | (refine wpl_store_u rfl rfl 186 _ _ rfl 64 sz32 _ _ _ _ rfl rfl (g3 _) rfl ?_; intro w2 hu j3) | fail)
  have j1 := (g1.alloc _).upd hu (by omega)
  have j2 := (g2.alloc _).upd hu (by omega)
  have j4 := below_upd (hbel.alloc (by omega) _) hu (by omega)
  clear hu g1 g2 g3 hbel
  have c1 := fun j (hj : j < 8) => j1.tcell j hj
  have c3 := fun j (hj : j < 64) => j3.tcell j hj
  have cK := (hK.below j4).2
  go_quiet (fail)
  go_wp2_with fail
  go_quiet (fail)
  go_wp2_with fail
  go_loopw [6, 7, 8, 9, 10, 11, 12, 13, 37] (fun a b c d e f' g h i wr => ∃ k n : Nat, k ≤ 64 ∧ i = .int .i64 k ∧ wr = w2.drewN n ∧
      a = .int .u32 (I ((St.of f).rounds (mOf s) k).a) ∧ b = .int .u32 (I ((St.of f).rounds (mOf s) k).b) ∧ c = .int .u32 (I ((St.of f).rounds (mOf s) k).c) ∧ d = .int .u32 (I ((St.of f).rounds (mOf s) k).d) ∧
      e = .int .u32 (I ((St.of f).rounds (mOf s) k).e) ∧ f' = .int .u32 (I ((St.of f).rounds (mOf s) k).f) ∧ g = .int .u32 (I ((St.of f).rounds (mOf s) k).g) ∧ h = .int .u32 (I ((St.of f).rounds (mOf s) k).h)) (fun _ _ _ _ _ _ _ _ i _ => 64 - (intOf i).toNat)
  case atStart => exact ⟨0, _, by omega, rfl, World.drewN_drewN _ _ _, rfl, rfl, rfl, rfl, rfl, rfl, rfl, rfl⟩
  case round =>
    obtain ⟨k, n, hk, rfl, rfl, rfl, rfl, rfl, rfl, rfl, rfl, rfl, rfl⟩ := hrel
    by_cases hlt : k < 64
    · have hs : (St.of f).rounds (mOf s) (k + 1) = ((St.of f).rounds (mOf s) k).step (kF k) (sw (mOf s) k) := rfl
      have HS : Hid ((St.of f).rounds (mOf s) (k + 1) = ((St.of f).rounds (mOf s) k).step (kF k) (sw (mOf s) k)) := hs
      clear hs
      generalize (St.of f).rounds (mOf s) k = S at *
      go_wp2_with (go_at_call 115; refine (rot_any _ _ _ (by omega) (by omega)).mono ?_; rintro e w' ⟨rfl, rfl⟩)
      go_quiet (fail)
      go_wp2_with (go_at_call 115; refine (rot_any _ _ _ (by omega) (by omega)).mono ?_; rintro e w' ⟨rfl, rfl⟩)
      go_roundw
      case rel =>
        refine ⟨k + 1, _, by omega, by go_num, rfl, ?_⟩
        rw [HS.out]
        exact ⟨rfl, rfl, rfl, rfl, rfl, rfl, rfl, rfl⟩
      case measure => simp [intOf]; omega
    · have hk' : k = 64 := by omega
      subst hk'
      have hF : Hid (tab 8 (stirF f (mOf s)) = #[.int .u32 (I (f 0 + ((St.of f).rounds (mOf s) 64).a)), .int .u32 (I (f 1 + ((St.of f).rounds (mOf s) 64).b)), .int .u32 (I (f 2 + ((St.of f).rounds (mOf s) 64).c)), .int .u32 (I (f 3 + ((St.of f).rounds (mOf s) 64).d)),
        .int .u32 (I (f 4 + ((St.of f).rounds (mOf s) 64).e)), .int .u32 (I (f 5 + ((St.of f).rounds (mOf s) 64).f)), .int .u32 (I (f 6 + ((St.of f).rounds (mOf s) 64).g)), .int .u32 (I (f 7 + ((St.of f).rounds (mOf s) 64).h))]) := rfl
      generalize (St.of f).rounds (mOf s) 64 = S at *
      go_wp2_with (first | (refine wpl_store_u rfl rfl 156 _ _ rfl 8 sz31 _ _ _ (stirF f (mOf s)) rfl (by rw [hF.out]; rfl) (j2.drewN n) rfl ?_; intro w3 hu3 j5) | fail)
      refine ret_cell 4 156 rfl 8 155 Tryz.underlying156 sz31 _ _ _ rfl j5 rfl ⟨rfl, below_upd (below_drewN j4 n) hu3 (by omega)⟩
end Go.Proofs.YtkapkphhceknfaaGreatDoor.Sm
namespace Go.Proofs.YtkapkphhceknfaaGreatDoor.Sm
open Go.RowKit
theorem mixed : Tryz.prog.follows .mixedOrders = true := by kernel_rfl
/-- The state behind the first k chunks of a text. -/
def chunks (f : Nat → BitVec 32) (s : ByteArray) : Nat → Nat → BitVec 32
  | 0 => f
  | k + 1 => stirF (chunks f s k) (mOf (s.extract (k * 64) ((k + 1) * 64)))
set_option maxRecDepth 100000 in
set_option maxHeartbeats 1000000 in
theorem stirAll_any (f : Nat → BitVec 32) (s : ByteArray) (w : World) (h0 : s.size < 1000000) (hK : KB w) :
    Calls Tryz.prog 80 #[.agg (tab 8 f), .string s] w fun e w' => e = .returned (.agg (tab 8 (chunks f s (s.size / 64)))) ∧ Below w.heap.size w w' := by
  go_enter Tryz.func80, Tryz.ntmps80
  go_wp2_with fail
  go_loopw [9] (fun i wr => ∃ k : Nat, k ≤ s.size / 64 ∧ i = .int .i64 k ∧ Blk wr w.heap.size (tab 8 (chunks f s k)) 156 ∧ Blk wr (w.heap.size + 1) (tab 8 (fun _ => 0)) 156 ∧ Below w.heap.size w wr) (fun i _ => s.size / 64 - (intOf i).toNat)
  case atStart =>
    refine ⟨0, by omega, rfl, (Blk.new w (tab 8 f) 156).alloc _, Blk.new' _ (tab 8 (fun _ => 0)) 156 (by simp), ((Below.refl _ _).alloc (Nat.le_refl _) _).alloc (by simp) _⟩
  case round =>
    obtain ⟨k, hk, rfl, hb1, hb0, hbel⟩ := hrel
    by_cases hlt : k < s.size / 64
    · have b1 : ((k : Int) + 1) * 64 ≤ (s.size : Int) := by omega
      have b2 : (k : Int) * 64 ≤ ((k : Int) + 1) * 64 := by omega
      have b3 : (k : Int) * 64 ≤ (s.size : Int) := by omega
      have b4 : 0 ≤ (k : Int) * 64 := by omega
      have b5 : 0 ≤ ((k : Int) + 1) * 64 := by omega
      have b6 : (k : Int) ≤ (k : Int) + 1 := by omega
      go_wp2_with fail
      refine region_tail 8 mixed (by kernel_rfl) ?_
      simp only [List.take_succ_cons, List.take_zero, List.drop_succ_cons, List.drop_zero]
      repeat (first | (refine still_load rfl 156 _ rfl 8 155 Tryz.underlying156 sz31 _ _ _ rfl (Blk.drew hb1) ?_) | (refine wpStill_step (fun K hK => ?_); go_simp; (try go_bits); refine hK _ ?_; clear hK K))
      refine wpStill_nil ?_
      go_wp2_with fail
      refine (stir_any _ _ _ (by simp; omega) (KB.below hK (Below.drew hbel))).mono ?_
      rintro e w1 ⟨rfl, hb1'⟩
      have hd : wr.drew.heap.size = wr.heap.size := rfl
      have l1 := hb1.lt; have l0 := hb0.lt
      have m1 := Blk.below (Blk.drew hb1) hb1' (by omega)
      have m0 := Blk.below (Blk.drew hb0) hb1' (by omega)
      have m2 := (Below.drew hbel).trans (hb1'.mono (by omega))
      clear hb1' hd
      go_wp2_with (first | (refine wpl_store_u rfl rfl 156 _ _ rfl 8 sz31 _ _ _ _ rfl rfl m1 rfl ?_; intro w3 hu3 j5) | fail)
      go_roundw
      case rel => exact ⟨k + 1, by omega, by go_num, j5, m0.upd hu3 (by omega), below_upd m2 hu3 (Nat.le_refl _)⟩
      case measure => simp [intOf]; omega
    · have hk' : k = s.size / 64 := by omega
      subst hk'
      go_wp2_with (first
        | (refine wpl_load rfl 156 _ rfl 8 155 Tryz.underlying156 sz31 _ _ _ _ rfl hb1 (by simp [tab_size]) ?_; rw [tab_all _ _ _ (Nat.zero_add _)])
        | (refine wpl_store_u rfl rfl 156 _ _ rfl 8 sz31 _ _ _ _ rfl rfl hb0 (by simp [tab_size]) ?_; intro w3 hu3 j5))
      refine ret_cell 4 156 rfl 8 155 Tryz.underlying156 sz31 _ _ _ rfl j5 rfl ⟨rfl, below_upd hbel hu3 (by omega)⟩
end Go.Proofs.YtkapkphhceknfaaGreatDoor.Sm
namespace Go.Proofs.YtkapkphhceknfaaGreatDoor.Sm
open Go.RowKit
/-- Byte j of the eight of a number, the greatest first. -/
def numB (N j : Nat) : UInt8 := UInt8.ofNat (N / 256 ^ (7 - j))
theorem numB_eq (N j : Nat) (hj : j < 8) : ((numB N j).toNat : Int) = (N : Int) / 2 ^ (56 - 8 * j) % 256 := by
  have e : (2 : Nat) ^ (56 - 8 * j) = 256 ^ (7 - j) := by
    rw [show (256 : Nat) = 2 ^ 8 from rfl, ← Nat.pow_mul]; congr 1; omega
  unfold numB
  rw [UInt8.toNat_ofNat', ← e]
  simp
set_option maxRecDepth 100000 in
set_option maxHeartbeats 400000 in
theorem wide_any (N : Nat) (w : World) :
    Calls Tryz.prog 75 #[.int .u64 (N : Int)] w fun e w' => e = .returned (.string (sb 8 (numB N))) ∧ Below w.heap.size w w' := by
  go_enter Tryz.func75, Tryz.ntmps75
  go_wp2_with fail
  go_loopw [5] (fun i wr => ∃ k : Nat, k ≤ 8 ∧ i = .int .i64 k ∧ Blk wr w.heap.size (tb 8 (uptoB (numB N) k)) 170 ∧ Below w.heap.size w wr) (fun i _ => 8 - (intOf i).toNat)
  case atStart => exact ⟨0, by omega, rfl, Blk.new w (tb 8 (uptoB (numB N) 0)) 170, (Below.refl _ _).alloc (Nat.le_refl _) _⟩
  case round =>
    obtain ⟨k, hk, rfl, hb1, hbel⟩ := hrel
    by_cases hlt : k < 8
    · have hc := fun j (hj : j < 8) => hb1.bcell j hj
      have hf := fun j => hb1.frozen j
      have b1 : 0 ≤ 56 - 8 * (k : Int) := by omega
      go_wp2
      go_roundw
      case rel =>
        refine ⟨k + 1, by omega, by go_num, ?_, hbel.setCell (Nat.le_refl _) _⟩
        rw [← numB_eq N k hlt]
        have := hb1.set k (.int .u8 ((numB N k).toNat : Int))
        rw [tb_upto_succ _ _ _ _ rfl] at this
        exact this
      case measure => simp [intOf]; omega
    · have hk' : k = 8 := by omega
      subst hk'
      rw [tb_full] at hb1
      go_wp2_with (refine wpl_string rfl 87 9 5 _ rfl Tryz.underlying87 Tryz.underlying5 Tryz.underlying9 _ _ _ _ _ _ rfl hb1 (by simp [tb_size]) _ (tb_bytes _ _ _ rfl) ?_)
      go_ret
      exact ⟨rfl, hbel⟩
/-- Byte j of a state's text. -/
def stB (f : Nat → BitVec 32) (j : Nat) : UInt8 := UInt8.ofNat ((f (j / 4)).toNat / 256 ^ (3 - j % 4))
theorem stB_eq (f : Nat → BitVec 32) (j : Nat) : ((stB f j).toNat : Int) = I (f (j / 4)) / 2 ^ (24 - 8 * (j % 4)) % 256 := by
  have e : (2 : Nat) ^ (24 - 8 * (j % 4)) = 256 ^ (3 - j % 4) := by
    rw [show (256 : Nat) = 2 ^ 8 from rfl, ← Nat.pow_mul]; congr 1; omega
  unfold stB I
  rw [UInt8.toNat_ofNat', ← e]
  simp
set_option maxRecDepth 100000 in
set_option maxHeartbeats 400000 in
theorem stText_any (f : Nat → BitVec 32) (w : World) :
    Calls Tryz.prog 82 #[.agg (tab 8 f)] w fun e w' => e = .returned (.string (sb 32 (stB f))) ∧ Below w.heap.size w w' := by
  go_enter Tryz.func82, Tryz.ntmps82
  go_wp2_with fail
  go_loopw [5] (fun i wr => ∃ k : Nat, k ≤ 32 ∧ i = .int .i64 k ∧ Blk wr w.heap.size (tab 8 f) 156 ∧ Blk wr (w.heap.size + 1) (tb 32 (uptoB (stB f) k)) 147 ∧ Below w.heap.size w wr) (fun i _ => 32 - (intOf i).toNat)
  case atStart => exact ⟨0, by omega, rfl, (Blk.new w (tab 8 f) 156).alloc _, Blk.new' _ (tb 32 (uptoB (stB f) 0)) 147 (by simp), ((Below.refl _ _).alloc (Nat.le_refl _) _).alloc (by simp) _⟩
  case round =>
    obtain ⟨k, hk, rfl, hb0, hb1, hbel⟩ := hrel
    by_cases hlt : k < 32
    · have hc := fun j (hj : j < 32) => hb1.bcell j hj
      have hf := fun j => hb1.frozen j
      have h0 := fun j (hj : j < 8) => hb0.tcell j hj
      have b0 : (k : Int) / 4 < 8 := by omega
      have b2 : k / 4 < 8 := by omega
      have b1 : 0 ≤ 24 - 8 * ((k : Int) % 4) := by omega
      go_wp2
      go_roundw
      case rel =>
        refine ⟨k + 1, by omega, by go_num, hb0.setOther _ (by simp) _, ?_, hbel.setCell (by simp) _⟩
        rw [← stB_eq f k]
        have := hb1.set k (.int .u8 ((stB f k).toNat : Int))
        rw [tb_upto_succ _ _ _ _ rfl] at this
        exact this
      case measure => simp [intOf]; omega
    · have hk' : k = 32 := by omega
      subst hk'
      rw [tb_full] at hb1
      go_wp2_with (refine wpl_string rfl 87 9 5 _ rfl Tryz.underlying87 Tryz.underlying5 Tryz.underlying9 _ _ _ _ _ _ rfl hb1 (by simp [tb_size]) _ (tb_bytes _ _ _ rfl) ?_)
      go_ret
      exact ⟨rfl, hbel⟩
end Go.Proofs.YtkapkphhceknfaaGreatDoor.Sm
