/-
  Part of the proof of SumTells: the reference's rotation is walked.
  Part of the proof of SumTells: a padded text's plain sum, block by block, read as one list of bytes, is the plain sum of the text.
  Part of the proof of SumTells: the reference's Sum answers the plain sum of its text (texts of at most 10000 bytes).
  Part of the proof of SumTells: the reference's Mark answers the plain mark (at most 10 texts of at most 300 bytes); a text is long if it has more than 60 bytes.
  Part of the proof: a number's eight bytes, read; a text without what was put behind it; the marks of pages.
-/
import Derived.Test.YtibkbhhenlgkeaaGreatDoorB04
import Derived.Test.YtibkbhhenlgkeaaGreatDoorB07
import Derived.Test.YtibkbhhenlgkeaaGreatDoorB03
import Derived.Laws.BitsAllLaws
namespace Go.Proofs.YtibkbhhenlgkeaaGreatDoor.Sm
open Go.RowKit
theorem rot_add (x : BitVec 32) (n : Nat) (h0 : 1 ≤ n) (h1 : n ≤ 31) : x >>> n + x <<< (32 - n) = x.rotateRight n := by
  rw [← rot_eq x n h0 h1, BitVec.or_comm, BitVec.add_eq_or_of_and_eq_zero]
  ext i hi
  simp
  intro h
  have := BitVec.getLsbD_of_ge x (n + i)
  by_cases h2 : 32 - n ≤ i
  · rw [BitVec.getLsbD_of_ge x (n + i) (by omega)] at h; cases h
  · intro h3; omega
theorem rotr_eq (x : BitVec 32) (n : Int) (h0 : 1 ≤ n) (h1 : n ≤ 31) : (I x / 2 ^ n.toNat + I x * 2 ^ (32 - n).toNat % 4294967296) % 4294967296 = I (x.rotateRight n.toNat) := by
  rw [I_shr, I_shlm, I_addm, ← rot_add x n.toNat (by omega) (by omega)]
  rw [show (32 - n).toNat = 32 - n.toNat from by omega]
end Go.Proofs.YtibkbhhenlgkeaaGreatDoor.Sm
namespace Go.Proofs.YtibkbhhenlgkeaaGreatDoor.Sm
theorem sw_congr (m m' : Nat → BitVec 32) (h : ∀ t, t < 16 → m t = m' t) (t : Nat) : sw m t = sw m' t := by
  induction t using Nat.strongRecOn with
  | _ t ih =>
    by_cases ht : t < 16
    · rw [sw_lo _ _ ht, sw_lo _ _ ht, h t ht]
    · rw [sw_hi _ _ ht, sw_hi _ _ ht, ih (t - 16) (by omega), ih (t - 15) (by omega), ih (t - 7) (by omega), ih (t - 2) (by omega)]
theorem rounds_congr (s : St) (m m' : Nat → BitVec 32) (h : ∀ t, t < 16 → m t = m' t) (k : Nat) : s.rounds m k = s.rounds m' k := by
  induction k with
  | zero => rfl
  | succ k ih => simp only [St.rounds, ih, sw_congr m m' h]
theorem stirF_congr (f m m' : Nat → BitVec 32) (h : ∀ t, t < 16 → m t = m' t) : stirF f m = stirF f m' := by
  funext j; unfold stirF; rw [rounds_congr _ m m' h]
def bL (M : List UInt8) (i : Nat) : Nat := (M.getD i 0).toNat
/-- The words of chunk c of a text. -/
def mL (M : List UInt8) (c t : Nat) : BitVec 32 := wordN (bL M (64 * c + 4 * t)) (bL M (64 * c + 4 * t + 1)) (bL M (64 * c + 4 * t + 2)) (bL M (64 * c + 4 * t + 3))
/-- The state behind c chunks of a text. -/
def chM (M : List UInt8) : Nat → Nat → BitVec 32
  | 0 => hF
  | c + 1 => stirF (chM M c) (mL M c)
theorem chunks_eq (M : List UInt8) (f : Nat → BitVec 32) (s : ByteArray) (c0 : Nat) (hf : f = chM M c0) (k : Nat) (hs : ∀ i, i < 64 * k → byteAt s i = bL M (64 * c0 + i)) : chunks f s k = chM M (c0 + k) := by
  induction k with
  | zero => exact hf
  | succ k ih =>
    show stirF (chunks f s k) (mOf (s.extract (k * 64) ((k + 1) * 64))) = stirF (chM M (c0 + k)) (mL M (c0 + k))
    rw [ih fun i hi => hs i (by omega)]
    apply stirF_congr
    intro t ht
    unfold mOf mL
    rw [byteAt_extract _ _ _ _ (by omega), byteAt_extract _ _ _ _ (by omega), byteAt_extract _ _ _ _ (by omega), byteAt_extract _ _ _ _ (by omega),
      hs _ (by omega), hs _ (by omega), hs _ (by omega), hs _ (by omega)]
    congr 2 <;> omega
/-- The text of which whole chunks come. -/
def msgL (s : ByteArray) : List UInt8 := s.data.toList ++ padL s.size
theorem padL_length (n : Nat) : (padL n).length = 1 + ((119 - n % 64) % 64 + 8) := by simp [padL]; omega
theorem msgL_length (s : ByteArray) : (msgL s).length = s.size + (1 + ((119 - s.size % 64) % 64 + 8)) := by
  unfold msgL; rw [List.length_append, padL_length]; rfl
theorem msgL_mod (s : ByteArray) : (msgL s).length % 64 = 0 := by rw [msgL_length]; omega
/-- The document's way to a text's sum: chunk by chunk. -/
theorem sumS_eq (s : ByteArray) : sumS s = sb 32 (stB (chM (msgL s) ((msgL s).length / 64))) := by
  have hsz : s.data.toList.length = s.size := rfl
  unfold sumS
  have e1 : chunks hF (s.extract 0 (s.size - s.size % 64)) ((s.size - s.size % 64) / 64) = chM (msgL s) (0 + (s.size - s.size % 64) / 64) := by
    apply chunks_eq (msgL s) hF _ 0 rfl
    intro i hi
    rw [byteAt_extract _ _ _ _ (by omega)]
    unfold byteAt bL msgL
    rw [List.getD_eq_getElem?_getD, List.getD_eq_getElem?_getD, List.getElem?_append_left (by rw [hsz]; omega)]
  have e2 : chunks (chM (msgL s) (0 + (s.size - s.size % 64) / 64)) (s.extract (s.size - s.size % 64) s.size ++ ⟨(padL s.size).toArray⟩) ((s.size - (s.size - s.size % 64) + (padL s.size).length) / 64)
      = chM (msgL s) (0 + (s.size - s.size % 64) / 64 + (s.size - (s.size - s.size % 64) + (padL s.size).length) / 64) := by
    apply chunks_eq (msgL s) _ _ _ rfl
    intro i hi
    have hb : (s.extract (s.size - s.size % 64) s.size ++ ⟨(padL s.size).toArray⟩).data.toList = (msgL s).drop (s.size - s.size % 64) := by
      unfold msgL
      rw [List.drop_append_of_le_length (by rw [hsz]; omega)]
      simp
      rw [List.take_of_length_le (by simp)]
    unfold byteAt bL
    rw [hb, List.getD_eq_getElem?_getD, List.getD_eq_getElem?_getD, List.getElem?_drop]
    congr 3; omega
  simp only [e1, e2]
  congr 3
  rw [msgL_length, padL_length]; omega
theorem ch_eq (e f g : BitVec 32) : g ^^^ e &&& (f ^^^ g) = ch e f g := by
  unfold ch; ext i hi; simp; cases e[i] <;> cases f[i] <;> cases g[i] <;> rfl
theorem maj_eq (a b c : BitVec 32) : a &&& b ||| c &&& (a ||| b) = maj a b c := by
  unfold maj; ext i hi; simp; cases a[i] <;> cases b[i] <;> cases c[i] <;> rfl
theorem sg_comm (a b c d : BitVec 32) : d + c + b + a = a + b + c + d := by ac_rfl
end Go.Proofs.YtibkbhhenlgkeaaGreatDoor.Sm
namespace Go.Proofs.YtibkbhhenlgkeaaGreatDoor.Sm
open Go.RowKit
theorem tab_sub (n m off : Nat) (f : Nat → BitVec 32) (h : off + m ≤ n) : (tab n f).extract off (off + m) = tab m (fun j => f (off + j)) := by
  apply Array.ext_getElem?; intro i
  rw [Array.getElem?_extract, tab_size]
  by_cases hi : i < m
  · rw [if_pos (by omega), tab_get _ _ _ (by omega), tab_get _ _ _ hi]
  · rw [if_neg (by omega), Array.getElem?_eq_none (by rw [tab_size]; omega)]
theorem rK_h : tab 8 (fun j => rK 64 (0 + j)) = tab 8 hF := tab_congr _ _ _ fun j hj => by unfold rK; rw [if_pos (by omega), if_pos (by omega), Nat.zero_add]
theorem rK_k (j : Nat) (h : j < 64) : rK 64 (8 + j) = kF j := by unfold rK; rw [if_neg (by omega), if_pos (by omega)]; congr 1; omega
attribute [local go_sem] I_xor I_and I_or I_addm I_add3 I_add4 I_add5 I_not I_shr3 I_shr10
theorem hex80 : (128 : Int) = ((128 : UInt8).toNat : Int) := rfl
section
variable {ops : Array Oper} {Q : Exit → Act → World → Prop} {a : Act} {w : World} {rest : List Oper} {o : Oper}
/-- An element of a row of eight words. -/
theorem wpl_index8 (hgd : o.guard = none) (x y : Operand) (ho : o.op = .index 71 x y) (f : Nat → BitVec 32) (k : Nat) (hx : a.eval x = .agg (tab 8 f)) (hy : a.eval y = .int .i64 (k : Int)) (hk : k < 8)
    (h : wpList Tryz.prog ops Q rest (a.put o.dst (.int .u32 (I (f k)))) w) : wpList Tryz.prog ops Q (o :: rest) a w := by
  refine wpList_plain hgd fun K hK => ?_
  have hr : (Instr.index 71 (.agg (tab 8 f)) (.int .i64 (k : Int))).run Tryz.prog w = .ok (.int .u32 (I (f k))) w := by
    have hk' : (0 : Int) ≤ (k : Int) ∧ (k : Int) < ((8 : Nat) : Int) := by omega
    have hg := tab_get 8 f k hk
    have u31 := Tryz.underlying71
    have a30 := Tryz.isAgg70 w
    have z30 := Tryz.sizeOf70 w
    simp only [Instr.index, asIntOf, Sem.run_bind, Sem.run_pure, Result.andThen_ok, underlying, run_program, u31, Sem.run_ite, if_pos hk', z30, part, a30]
    simp [hg]
  unfold Oper.wp execOp
  simp only [ho, hx, hy, Sem.run_bind, Sem.run_pure, Result.andThen_ok, hr]
  exact hK _ _ h
end
/-- A word of so many bytes, one behind the other. -/
def pw (b : Nat → Nat) : Nat → BitVec 32
  | 0 => 0
  | q + 1 => pw b q * 256 + BitVec.ofNat 32 (b q)
theorem pw_four (b : Nat → Nat) : pw b 4 = wordN (b 0) (b 1) (b 2) (b 3) := by
  unfold wordN; simp only [pw]
  apply BitVec.eq_of_toNat_eq
  simp [BitVec.toNat_add, BitVec.toNat_mul]
theorem pw_step (x : BitVec 32) (b : Nat) : (I x * 256 % 4294967296 + (b : Int) % 4294967296) % 4294967296 = I (x * 256 + BitVec.ofNat 32 b) := by
  unfold I; simp [BitVec.toNat_add, BitVec.toNat_mul]
theorem pw_step' (x : BitVec 32) (b : Nat) : (I x * 256 + (b : Int)) % 4294967296 = I (x * 256 + BitVec.ofNat 32 b) := by
  unfold I; simp [BitVec.toNat_add, BitVec.toNat_mul]
end Go.Proofs.YtibkbhhenlgkeaaGreatDoor.Sm
namespace Go.Proofs.YtibkbhhenlgkeaaGreatDoor.Sm
open Go.RowKit
theorem markBA (kb : UInt8) (ss : List ByteArray) (j : Nat) (p : ByteArray) (h : ss[j]? = some p) :
    (⟨(markTo kb ss j).toArray⟩ : ByteArray) ++ sb 8 (numB p.size) ++ p = ⟨(markTo kb ss (j + 1)).toArray⟩ := by
  apply ba_ext; rw [markTo_succ kb ss j p h]; simp [sb]
set_option maxHeartbeats 400000 in
theorem long_any (s : ByteArray) (w : World) (h : s.size ≤ maxLen) : Calls Tryz.prog 5 #[.string s] w fun e w' => e = .returned (.bool (decide (60 < s.size))) ∧ w' = w := by
  unfold maxLen at h
  go_enter Tryz.func5, Tryz.ntmps5
  go_wp2
  go_ret
  refine ⟨congrArg (fun b => Ending.returned (.bool b)) (decide_eq_decide.mpr ?_), rfl⟩
  omega
end Go.Proofs.YtibkbhhenlgkeaaGreatDoor.Sm
namespace Go.Proofs.YtibkbhhenlgkeaaGreatDoor.Pg
open Go.RowKit
def bt (s : ByteArray) (i : Nat) : Nat := (s.data.toList.getD i 0).toNat
theorem bt_eq (s : ByteArray) (i : Nat) (h : i < s.size) : (s[i]'h).toNat = bt s i := by
  unfold bt
  rw [List.getD_eq_getElem?_getD, List.getElem?_eq_getElem (by simpa using h)]; rfl
theorem bt_lt (s : ByteArray) (i : Nat) : bt s i < 256 := UInt8.toNat_lt _
/-- The number of the first k bytes, the greatest first. -/
def verF (s : ByteArray) : Nat → Nat
  | 0 => 0
  | k + 1 => verF s k * 256 + bt s k
theorem verF_lt (s : ByteArray) : ∀ k, verF s k < 256 ^ k
  | 0 => by simp [verF]
  | k + 1 => by have := verF_lt s k; have := bt_lt s k; rw [Nat.pow_succ]; unfold verF; omega
theorem verF_lt7 (s : ByteArray) (k : Nat) (h : k < 8) : verF s k < 72057594037927936 :=
  Nat.lt_of_lt_of_le (verF_lt s k) (Nat.le_trans (Nat.pow_le_pow_right (by decide) (show k ≤ 7 by omega)) (by decide))
theorem verF_lt8 (s : ByteArray) (k : Nat) (h : k ≤ 8) : verF s k < 18446744073709551616 :=
  Nat.lt_of_lt_of_le (verF_lt s k) (Nat.le_trans (Nat.pow_le_pow_right (by decide) h) (by decide))
theorem or_low (n b : Nat) (hb : b < 256) : n * 256 ||| b = n * 256 + b := by
  have := Nat.two_pow_add_eq_or_of_lt (i := 8) (b := b) hb n
  rw [Nat.mul_comm n 256, ← show 2 ^ 8 = 256 from rfl]
  exact this.symm
theorem or_word (n b : Nat) (hn : n < 72057594037927936) (hb : b < 256) : bits .or .u64 ((n * 256 : Nat) : Int) (b : Int) = ((n * 256 + b : Nat) : Int) := by
  rw [u64_or_nat _ _ (by omega) (by omega), or_low n b hb]
/-- The version that a page's first bytes tell. -/
def verN (s : ByteArray) : Int := wrap64 (verF s 8 : Int)
set_option maxRecDepth 100000 in
set_option maxHeartbeats 1000000 in
theorem versionOf_any (s : ByteArray) (w : World) (h8 : 8 ≤ s.size) (hs : s.size ≤ 10000) :
    Calls Tryz.prog 138 #[.string s] w fun e w' => e = .returned (.int .i64 (verN s)) ∧ w' = w := by
  go_enter Tryz.func138, Tryz.ntmps138
  go_wp2_with fail
  go_loop [3, 5] (fun z i => ∃ k : Nat, k ≤ 8 ∧ i = .int .i64 k ∧ z = .int .u64 (verF s k : Int)) (fun _ i => 8 - (intOf i).toNat)
  case atStart => exact ⟨0, by omega, rfl, rfl⟩
  case round =>
    obtain ⟨k, hk, rfl, rfl⟩ := hrel
    by_cases hlt : k < 8
    · have hv := verF_lt7 s k hlt
      have hks : k < s.size := by omega
      have hb := bt_lt s k
      have hbe := bt_eq s k hks
      have ho := or_word (verF s k) (bt s k) hv hb
      rw [Int.natCast_mul] at ho
      go_wp2
      exact ⟨⟨k + 1, by omega, by go_num, congrArg (Value.int .u64) (ho.trans (by simp [verF]))⟩, by simp [intOf]; omega⟩
    · have hk' : k = 8 := by omega
      subst hk'
      go_wp2
      go_ret
      exact ⟨rfl, rfl⟩
/-- How many bytes of a text are the page's. -/
def cutN (s : ByteArray) : Nat := if bt s 0 < 200 then bt s 0 else 200
theorem cutN_le (s : ByteArray) : cutN s ≤ 200 := by unfold cutN; split <;> omega
/-- The text within one that has 0 behind it. -/
def cutT (s : ByteArray) : ByteArray := s.extract 1 (1 + cutN s)
set_option maxRecDepth 100000 in
set_option maxHeartbeats 1000000 in
theorem unpadded_any (s : ByteArray) (w : World) (hs : s.size = 201) :
    Calls Tryz.prog 139 #[.string s] w fun e w' => e = .returned (.string (cutT s)) ∧ w' = w := by
  have hb := bt_lt s 0
  have hbe := bt_eq s 0 (by omega)
  have hs0 : 0 < s.size := by omega
  have e : ((1 : Int) + min (bt s 0 : Int) 200).toNat = 1 + cutN s := by unfold cutN; split <;> omega
  go_enter Tryz.func139, Tryz.ntmps139
  go_wp2
  go_ret
  exact ⟨rfl, rfl⟩
/-- A mark. -/
def mk (kb : UInt8) (ss : List ByteArray) : ByteArray := (Sm.sumS ⟨(Sm.markTo kb ss ss.length).toArray⟩).extract 0 16
theorem sumS_size (s : ByteArray) : (Sm.sumS s).size = 32 := sb_size _ _
theorem mk_size (kb : UInt8) (ss : List ByteArray) : (mk kb ss).size = 16 := by
  unfold mk; rw [ByteArray.size_extract, sumS_size]; rfl
/-- A number's eight bytes. -/
def numS (n : Int) : ByteArray := sb 8 (Sm.numB (Sm.numN n))
theorem numS_size (n : Int) : (numS n).size = 8 := sb_size _ _
theorem parts3 {w : World} {b : Nat} {T : TypeId} {x y z : ByteArray} (h : Blk w b #[.string x, .string y, .string z] T) : Sm.Parts w (some ⟨b, 0, none⟩) 3 [x, y, z] := by
  refine ⟨rfl, fun j hj => ?_⟩
  have hc := h.cell j
  match j, hj with
  | 0, _ => exact ⟨b, 0, x, rfl, h.lt, hc, rfl⟩
  | 1, _ => exact ⟨b, 0, y, rfl, h.lt, hc, rfl⟩
  | 2, _ => exact ⟨b, 0, z, rfl, h.lt, hc, rfl⟩
theorem parts4 {w : World} {b : Nat} {T : TypeId} {x y z u : ByteArray} (h : Blk w b #[.string x, .string y, .string z, .string u] T) : Sm.Parts w (some ⟨b, 0, none⟩) 4 [x, y, z, u] := by
  refine ⟨rfl, fun j hj => ?_⟩
  have hc := h.cell j
  match j, hj with
  | 0, _ => exact ⟨b, 0, x, rfl, h.lt, hc, rfl⟩
  | 1, _ => exact ⟨b, 0, y, rfl, h.lt, hc, rfl⟩
  | 2, _ => exact ⟨b, 0, z, rfl, h.lt, hc, rfl⟩
  | 3, _ => exact ⟨b, 0, u, rfl, h.lt, hc, rfl⟩
theorem all3 {x y z : ByteArray} (hx : x.size ≤ 300) (hy : y.size ≤ 300) (hz : z.size ≤ 300) : ∀ p ∈ [x, y, z], p.size ≤ 300 := by
  intro p hp
  simp only [List.mem_cons, List.not_mem_nil, or_false] at hp
  rcases hp with rfl | rfl | rfl <;> assumption
theorem all4 {x y z u : ByteArray} (hx : x.size ≤ 300) (hy : y.size ≤ 300) (hz : z.size ≤ 300) (hu : u.size ≤ 300) : ∀ p ∈ [x, y, z, u], p.size ≤ 300 := by
  intro p hp
  simp only [List.mem_cons, List.not_mem_nil, or_false] at hp
  rcases hp with rfl | rfl | rfl | rfl <;> assumption
theorem num_s (n : Int) (w : World) : Calls Tryz.prog 95 #[.int .i64 n] w fun e w' => e = .returned (.string (numS n)) ∧ Below w.heap.size w w' := Sm.num_any n w
/-- The code's Mark of three texts, the kind a number. -/
theorem mark3 (kb : UInt8) (k : Int) (hk : k = (kb.toNat : Int)) {b : Nat} {T : TypeId} {x y z : ByteArray} {w : World} (h : Blk w b #[.string x, .string y, .string z] T) (hx : x.size ≤ 300) (hy : y.size ≤ 300) (hz : z.size ≤ 300) (hK : Sm.KB w) :
    Calls Tryz.prog 97 #[.int .u8 k, .slice (some ⟨b, 0, none⟩) 3 3] w fun e w' => e = .returned (.string (mk kb [x, y, z])) ∧ Below w.heap.size w w' := by
  subst hk; exact Sm.mark_any kb _ 3 3 _ w (parts3 h) (by decide) (all3 hx hy hz) hK
theorem mark4 (kb : UInt8) (k : Int) (hk : k = (kb.toNat : Int)) {b : Nat} {T : TypeId} {x y z u : ByteArray} {w : World} (h : Blk w b #[.string x, .string y, .string z, .string u] T) (hx : x.size ≤ 300) (hy : y.size ≤ 300) (hz : z.size ≤ 300) (hu : u.size ≤ 300) (hK : Sm.KB w) :
    Calls Tryz.prog 97 #[.int .u8 k, .slice (some ⟨b, 0, none⟩) 4 4] w fun e w' => e = .returned (.string (mk kb [x, y, z, u])) ∧ Below w.heap.size w w' := by
  subst hk; exact Sm.mark_any kb _ 4 4 _ w (parts4 h) (by decide) (all4 hx hy hz hu) hK
theorem below_alloc (w : World) (o : Obj) : Below w.heap.size w (w.alloc o) := (Below.refl _ _).alloc (Nat.le_refl _) o
set_option maxRecDepth 100000 in
set_option maxHeartbeats 1000000 in
theorem pseal_any (key : ByteArray) (id : Int) (s : ByteArray) (w : World) (hk : key.size ≤ 300) (hs : s.size ≤ 300) (hK : Sm.KB w) :
    Calls Tryz.prog 123 #[.string key, .int .i64 id, .string s] w fun e w' => e = .returned (.string (mk 103 [key, numS id, s])) ∧ Below w.heap.size w w' := by
  have hn := numS_size id
  go_enter Tryz.func123, Tryz.ntmps123
  go_wp2_with fail
  refine (num_s id _).mono ?_
  rintro e w1 ⟨rfl, g1⟩
  go_wp2_with fail
  have g2 := below_alloc w1 (.cells #[.string key, .string (numS id), .string s] 9)
  refine (mark3 103 _ rfl (Blk.new w1 _ 9) hk (by omega) hs ((hK.below g1).below g2)).mono ?_
  rintro e w2 ⟨rfl, g3⟩
  go_wp2
  go_ret
  exact ⟨rfl, (g1.trans (g2.mono g1.size)).trans (g3.mono (g1.trans (g2.mono g1.size)).size)⟩
set_option maxRecDepth 100000 in
set_option maxHeartbeats 1000000 in
theorem pmark_any (id v : Int) (s : ByteArray) (w : World) (hs : s.size ≤ 300) (hK : Sm.KB w) :
    Calls Tryz.prog 114 #[.int .i64 id, .int .i64 v, .string s] w fun e w' => e = .returned (.string (mk 112 [numS id, numS v, s])) ∧ Below w.heap.size w w' := by
  have hn := numS_size id
  have hv := numS_size v
  go_enter Tryz.func114, Tryz.ntmps114
  go_wp2_with fail
  refine (num_s id _).mono ?_
  rintro e w1 ⟨rfl, g1⟩
  go_wp2_with fail
  refine (num_s v _).mono ?_
  rintro e w2 ⟨rfl, g2⟩
  have g2' := g1.trans (g2.mono g1.size)
  go_wp2_with fail
  have g3 := below_alloc w2 (.cells #[.string (numS id), .string (numS v), .string s] 9)
  have g3' := g2'.trans (g3.mono g2'.size)
  refine (mark3 112 _ rfl (Blk.new w2 _ 9) (by omega) (by omega) hs (hK.below g3')).mono ?_
  rintro e w3 ⟨rfl, g4⟩
  go_wp2
  go_ret
  exact ⟨rfl, g3'.trans (g4.mono g3'.size)⟩
end Go.Proofs.YtibkbhhenlgkeaaGreatDoor.Pg
