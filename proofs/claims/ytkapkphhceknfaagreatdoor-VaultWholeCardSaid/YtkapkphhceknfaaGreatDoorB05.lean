/-
  Part of the proof of SumTells: a padded text's plain sum, block by block, read as one list of bytes, is the plain sum of the text.
  Part of the proof of SumTells: the reference's Sum answers the plain sum of its text (texts of at most 10000 bytes).
  Part of the proof of SumTells: the reference's Mark answers the plain mark (at most 10 texts of at most 300 bytes); a text is long if it has more than 60 bytes.
  Part of the proof: a number's eight bytes, read; a text without what was put behind it; the marks of pages.
  Part of the proof: a block of the stream as a plain function, and the walks of the rotation, of a word out of bytes, and of a quarter round.
  Part of the proof: the state that a block of the stream begins with is walked.
-/
import Derived.Test.YtkapkphhceknfaaGreatDoorB04
import Derived.Test.YtkapkphhceknfaaGreatDoorB02
import Derived.Laws.BitsAllLaws
namespace Go.Proofs.YtkapkphhceknfaaGreatDoor.Sm
theorem sw_congr (m m' : Nat → BitVec 32) (h : ∀ t, t < 16 → m t = m' t) (t : Nat) : sw m t = sw m' t := by
  induction t using Nat.strongRecOn with
  | _ t ih =>
    by_cases ht : t < 16
    · rw [sw_lo _ _ ht, sw_lo _ _ ht, h t ht]
    · rw [sw_hi _ _ ht, sw_hi _ _ ht, ih (t - 16) (by omega), ih (t - 15) (by omega), ih (t - 7) (by omega), ih (t - 2) (by omega)]
theorem rounds_congr (s : St) (m m' : Nat → BitVec 32) (h : ∀ t, t < 16 → m t = m' t) (k : Nat) : s.rounds m k = s.rounds m' k := by
  induction k with
  | zero => rfl
  | succ k ih => simp only [St.rounds, ih, sw_congr m m' h]
theorem stirF_congr (f m m' : Nat → BitVec 32) (h : ∀ t, t < 16 → m t = m' t) : stirF f m = stirF f m' := by
  funext j; unfold stirF; rw [rounds_congr _ m m' h]
def bL (M : List UInt8) (i : Nat) : Nat := (M.getD i 0).toNat
/-- The words of chunk c of a text. -/
def mL (M : List UInt8) (c t : Nat) : BitVec 32 := wordN (bL M (64 * c + 4 * t)) (bL M (64 * c + 4 * t + 1)) (bL M (64 * c + 4 * t + 2)) (bL M (64 * c + 4 * t + 3))
/-- The state behind c chunks of a text. -/
def chM (M : List UInt8) : Nat → Nat → BitVec 32
  | 0 => hF
  | c + 1 => stirF (chM M c) (mL M c)
theorem chunks_eq (M : List UInt8) (f : Nat → BitVec 32) (s : ByteArray) (c0 : Nat) (hf : f = chM M c0) (k : Nat) (hs : ∀ i, i < 64 * k → byteAt s i = bL M (64 * c0 + i)) : chunks f s k = chM M (c0 + k) := by
  induction k with
  | zero => exact hf
  | succ k ih =>
    show stirF (chunks f s k) (mOf (s.extract (k * 64) ((k + 1) * 64))) = stirF (chM M (c0 + k)) (mL M (c0 + k))
    rw [ih fun i hi => hs i (by omega)]
    apply stirF_congr
    intro t ht
    unfold mOf mL
    rw [byteAt_extract _ _ _ _ (by omega), byteAt_extract _ _ _ _ (by omega), byteAt_extract _ _ _ _ (by omega), byteAt_extract _ _ _ _ (by omega),
      hs _ (by omega), hs _ (by omega), hs _ (by omega), hs _ (by omega)]
    congr 2 <;> omega
/-- The text of which whole chunks come. -/
def msgL (s : ByteArray) : List UInt8 := s.data.toList ++ padL s.size
theorem padL_length (n : Nat) : (padL n).length = 1 + ((119 - n % 64) % 64 + 8) := by simp [padL]; omega
theorem msgL_length (s : ByteArray) : (msgL s).length = s.size + (1 + ((119 - s.size % 64) % 64 + 8)) := by
  unfold msgL; rw [List.length_append, padL_length]; rfl
theorem msgL_mod (s : ByteArray) : (msgL s).length % 64 = 0 := by rw [msgL_length]; omega
/-- The document's way to a text's sum: chunk by chunk. -/
theorem sumS_eq (s : ByteArray) : sumS s = sb 32 (stB (chM (msgL s) ((msgL s).length / 64))) := by
  have hsz : s.data.toList.length = s.size := rfl
  unfold sumS
  have e1 : chunks hF (s.extract 0 (s.size - s.size % 64)) ((s.size - s.size % 64) / 64) = chM (msgL s) (0 + (s.size - s.size % 64) / 64) := by
    apply chunks_eq (msgL s) hF _ 0 rfl
    intro i hi
    rw [byteAt_extract _ _ _ _ (by omega)]
    unfold byteAt bL msgL
    rw [List.getD_eq_getElem?_getD, List.getD_eq_getElem?_getD, List.getElem?_append_left (by rw [hsz]; omega)]
  have e2 : chunks (chM (msgL s) (0 + (s.size - s.size % 64) / 64)) (s.extract (s.size - s.size % 64) s.size ++ ⟨(padL s.size).toArray⟩) ((s.size - (s.size - s.size % 64) + (padL s.size).length) / 64)
      = chM (msgL s) (0 + (s.size - s.size % 64) / 64 + (s.size - (s.size - s.size % 64) + (padL s.size).length) / 64) := by
    apply chunks_eq (msgL s) _ _ _ rfl
    intro i hi
    have hb : (s.extract (s.size - s.size % 64) s.size ++ ⟨(padL s.size).toArray⟩).data.toList = (msgL s).drop (s.size - s.size % 64) := by
      unfold msgL
      rw [List.drop_append_of_le_length (by rw [hsz]; omega)]
      simp
      rw [List.take_of_length_le (by simp)]
    unfold byteAt bL
    rw [hb, List.getD_eq_getElem?_getD, List.getD_eq_getElem?_getD, List.getElem?_drop]
    congr 3; omega
  simp only [e1, e2]
  congr 3
  rw [msgL_length, padL_length]; omega
theorem ch_eq (e f g : BitVec 32) : g ^^^ e &&& (f ^^^ g) = ch e f g := by
  unfold ch; ext i hi; simp; cases e[i] <;> cases f[i] <;> cases g[i] <;> rfl
theorem maj_eq (a b c : BitVec 32) : a &&& b ||| c &&& (a ||| b) = maj a b c := by
  unfold maj; ext i hi; simp; cases a[i] <;> cases b[i] <;> cases c[i] <;> rfl
theorem sg_comm (a b c d : BitVec 32) : d + c + b + a = a + b + c + d := by ac_rfl
end Go.Proofs.YtkapkphhceknfaaGreatDoor.Sm
namespace Go.Proofs.YtkapkphhceknfaaGreatDoor.Sm
open Go.RowKit
theorem tab_sub (n m off : Nat) (f : Nat → BitVec 32) (h : off + m ≤ n) : (tab n f).extract off (off + m) = tab m (fun j => f (off + j)) := by
  apply Array.ext_getElem?; intro i
  rw [Array.getElem?_extract, tab_size]
  by_cases hi : i < m
  · rw [if_pos (by omega), tab_get _ _ _ (by omega), tab_get _ _ _ hi]
  · rw [if_neg (by omega), Array.getElem?_eq_none (by rw [tab_size]; omega)]
theorem rK_h : tab 8 (fun j => rK 64 (0 + j)) = tab 8 hF := tab_congr _ _ _ fun j hj => by unfold rK; rw [if_pos (by omega), if_pos (by omega), Nat.zero_add]
theorem rK_k (j : Nat) (h : j < 64) : rK 64 (8 + j) = kF j := by unfold rK; rw [if_neg (by omega), if_pos (by omega)]; congr 1; omega
attribute [local go_sem] I_xor I_and I_or I_addm I_add3 I_add4 I_add5 I_not I_shr3 I_shr10
theorem hex80 : (128 : Int) = ((128 : UInt8).toNat : Int) := rfl
section
variable {ops : Array Oper} {Q : Exit → Act → World → Prop} {a : Act} {w : World} {rest : List Oper} {o : Oper}
/-- An element of a row of eight words. -/
theorem wpl_index8 (hgd : o.guard = none) (x y : Operand) (ho : o.op = .index 156 x y) (f : Nat → BitVec 32) (k : Nat) (hx : a.eval x = .agg (tab 8 f)) (hy : a.eval y = .int .i64 (k : Int)) (hk : k < 8)
    (h : wpList Tryz.prog ops Q rest (a.put o.dst (.int .u32 (I (f k)))) w) : wpList Tryz.prog ops Q (o :: rest) a w := by
  refine wpList_plain hgd fun K hK => ?_
  have hr : (Instr.index 156 (.agg (tab 8 f)) (.int .i64 (k : Int))).run Tryz.prog w = .ok (.int .u32 (I (f k))) w := by
    have hk' : (0 : Int) ≤ (k : Int) ∧ (k : Int) < ((8 : Nat) : Int) := by omega
    have hg := tab_get 8 f k hk
    have u31 := Tryz.underlying156
    have a30 := Tryz.isAgg155 w
    have z30 := Tryz.sizeOf155 w
    simp only [Instr.index, asIntOf, Sem.run_bind, Sem.run_pure, Result.andThen_ok, underlying, run_program, u31, Sem.run_ite, if_pos hk', z30, part, a30]
    simp [hg]
  unfold Oper.wp execOp
  simp only [ho, hx, hy, Sem.run_bind, Sem.run_pure, Result.andThen_ok, hr]
  exact hK _ _ h
end
/-- A word of so many bytes, one behind the other. -/
def pw (b : Nat → Nat) : Nat → BitVec 32
  | 0 => 0
  | q + 1 => pw b q * 256 + BitVec.ofNat 32 (b q)
theorem pw_four (b : Nat → Nat) : pw b 4 = wordN (b 0) (b 1) (b 2) (b 3) := by
  unfold wordN; simp only [pw]
  apply BitVec.eq_of_toNat_eq
  simp [BitVec.toNat_add, BitVec.toNat_mul]
theorem pw_step (x : BitVec 32) (b : Nat) : (I x * 256 % 4294967296 + (b : Int) % 4294967296) % 4294967296 = I (x * 256 + BitVec.ofNat 32 b) := by
  unfold I; simp [BitVec.toNat_add, BitVec.toNat_mul]
theorem pw_step' (x : BitVec 32) (b : Nat) : (I x * 256 + (b : Int)) % 4294967296 = I (x * 256 + BitVec.ofNat 32 b) := by
  unfold I; simp [BitVec.toNat_add, BitVec.toNat_mul]
end Go.Proofs.YtkapkphhceknfaaGreatDoor.Sm
namespace Go.Proofs.YtkapkphhceknfaaGreatDoor.Sm
open Go.RowKit
theorem markBA (kb : UInt8) (ss : List ByteArray) (j : Nat) (p : ByteArray) (h : ss[j]? = some p) :
    (⟨(markTo kb ss j).toArray⟩ : ByteArray) ++ sb 8 (numB p.size) ++ p = ⟨(markTo kb ss (j + 1)).toArray⟩ := by
  apply ba_ext; rw [markTo_succ kb ss j p h]; simp [sb]
end Go.Proofs.YtkapkphhceknfaaGreatDoor.Sm
namespace Go.Proofs.YtkapkphhceknfaaGreatDoor.Pg
open Go.RowKit
def bt (s : ByteArray) (i : Nat) : Nat := (s.data.toList.getD i 0).toNat
theorem bt_eq (s : ByteArray) (i : Nat) (h : i < s.size) : (s[i]'h).toNat = bt s i := by
  unfold bt
  rw [List.getD_eq_getElem?_getD, List.getElem?_eq_getElem (by simpa using h)]; rfl
theorem bt_lt (s : ByteArray) (i : Nat) : bt s i < 256 := UInt8.toNat_lt _
/-- The number of the first k bytes, the greatest first. -/
def verF (s : ByteArray) : Nat → Nat
  | 0 => 0
  | k + 1 => verF s k * 256 + bt s k
theorem verF_lt (s : ByteArray) : ∀ k, verF s k < 256 ^ k
  | 0 => by simp [verF]
  | k + 1 => by have := verF_lt s k; have := bt_lt s k; rw [Nat.pow_succ]; unfold verF; omega
theorem verF_lt7 (s : ByteArray) (k : Nat) (h : k < 8) : verF s k < 72057594037927936 :=
  Nat.lt_of_lt_of_le (verF_lt s k) (Nat.le_trans (Nat.pow_le_pow_right (by decide) (show k ≤ 7 by omega)) (by decide))
theorem verF_lt8 (s : ByteArray) (k : Nat) (h : k ≤ 8) : verF s k < 18446744073709551616 :=
  Nat.lt_of_lt_of_le (verF_lt s k) (Nat.le_trans (Nat.pow_le_pow_right (by decide) h) (by decide))
theorem or_low (n b : Nat) (hb : b < 256) : n * 256 ||| b = n * 256 + b := by
  have := Nat.two_pow_add_eq_or_of_lt (i := 8) (b := b) hb n
  rw [Nat.mul_comm n 256, ← show 2 ^ 8 = 256 from rfl]
  exact this.symm
theorem or_word (n b : Nat) (hn : n < 72057594037927936) (hb : b < 256) : bits .or .u64 ((n * 256 : Nat) : Int) (b : Int) = ((n * 256 + b : Nat) : Int) := by
  rw [u64_or_nat _ _ (by omega) (by omega), or_low n b hb]
/-- The version that a page's first bytes tell. -/
def verN (s : ByteArray) : Int := wrap64 (verF s 8 : Int)
set_option maxRecDepth 100000 in
set_option maxHeartbeats 1000000 in
theorem versionOf_any (s : ByteArray) (w : World) (h8 : 8 ≤ s.size) (hs : s.size ≤ 10000) :
    Calls Tryz.prog 103 #[.string s] w fun e w' => e = .returned (.int .i64 (verN s)) ∧ w' = w := by
  go_enter Tryz.func103, Tryz.ntmps103
  go_wp2_with fail
  go_loop [3, 5] (fun z i => ∃ k : Nat, k ≤ 8 ∧ i = .int .i64 k ∧ z = .int .u64 (verF s k : Int)) (fun _ i => 8 - (intOf i).toNat)
  case atStart => exact ⟨0, by omega, rfl, rfl⟩
  case round =>
    obtain ⟨k, hk, rfl, rfl⟩ := hrel
    by_cases hlt : k < 8
    · have hv := verF_lt7 s k hlt
      have hks : k < s.size := by omega
      have hb := bt_lt s k
      have hbe := bt_eq s k hks
      have ho := or_word (verF s k) (bt s k) hv hb
      rw [Int.natCast_mul] at ho
      go_wp2
      exact ⟨⟨k + 1, by omega, by go_num, congrArg (Value.int .u64) (ho.trans (by simp [verF]))⟩, by simp [intOf]; omega⟩
    · have hk' : k = 8 := by omega
      subst hk'
      go_wp2
      go_ret
      exact ⟨rfl, rfl⟩
/-- How many bytes of a text are the page's. -/
def cutN (s : ByteArray) : Nat := if bt s 0 < 200 then bt s 0 else 200
theorem cutN_le (s : ByteArray) : cutN s ≤ 200 := by unfold cutN; split <;> omega
/-- The text within one that has 0 behind it. -/
def cutT (s : ByteArray) : ByteArray := s.extract 1 (1 + cutN s)
set_option maxRecDepth 100000 in
set_option maxHeartbeats 1000000 in
theorem unpadded_any (s : ByteArray) (w : World) (hs : s.size = 201) :
    Calls Tryz.prog 104 #[.string s] w fun e w' => e = .returned (.string (cutT s)) ∧ w' = w := by
  have hb := bt_lt s 0
  have hbe := bt_eq s 0 (by omega)
  have hs0 : 0 < s.size := by omega
  have e : ((1 : Int) + min (bt s 0 : Int) 200).toNat = 1 + cutN s := by unfold cutN; split <;> omega
  go_enter Tryz.func104, Tryz.ntmps104
  go_wp2
  go_ret
  exact ⟨rfl, rfl⟩
/-- A mark. -/
def mk (kb : UInt8) (ss : List ByteArray) : ByteArray := (Sm.sumS ⟨(Sm.markTo kb ss ss.length).toArray⟩).extract 0 16
theorem sumS_size (s : ByteArray) : (Sm.sumS s).size = 32 := sb_size _ _
theorem mk_size (kb : UInt8) (ss : List ByteArray) : (mk kb ss).size = 16 := by
  unfold mk; rw [ByteArray.size_extract, sumS_size]; rfl
/-- A number's eight bytes. -/
def numS (n : Int) : ByteArray := sb 8 (Sm.numB (Sm.numN n))
theorem numS_size (n : Int) : (numS n).size = 8 := sb_size _ _
theorem parts3 {w : World} {b : Nat} {T : TypeId} {x y z : ByteArray} (h : Blk w b #[.string x, .string y, .string z] T) : Sm.Parts w (some ⟨b, 0, none⟩) 3 [x, y, z] := by
  refine ⟨rfl, fun j hj => ?_⟩
  have hc := h.cell j
  match j, hj with
  | 0, _ => exact ⟨b, 0, x, rfl, h.lt, hc, rfl⟩
  | 1, _ => exact ⟨b, 0, y, rfl, h.lt, hc, rfl⟩
  | 2, _ => exact ⟨b, 0, z, rfl, h.lt, hc, rfl⟩
theorem parts4 {w : World} {b : Nat} {T : TypeId} {x y z u : ByteArray} (h : Blk w b #[.string x, .string y, .string z, .string u] T) : Sm.Parts w (some ⟨b, 0, none⟩) 4 [x, y, z, u] := by
  refine ⟨rfl, fun j hj => ?_⟩
  have hc := h.cell j
  match j, hj with
  | 0, _ => exact ⟨b, 0, x, rfl, h.lt, hc, rfl⟩
  | 1, _ => exact ⟨b, 0, y, rfl, h.lt, hc, rfl⟩
  | 2, _ => exact ⟨b, 0, z, rfl, h.lt, hc, rfl⟩
  | 3, _ => exact ⟨b, 0, u, rfl, h.lt, hc, rfl⟩
theorem all3 {x y z : ByteArray} (hx : x.size ≤ 300) (hy : y.size ≤ 300) (hz : z.size ≤ 300) : ∀ p ∈ [x, y, z], p.size ≤ 300 := by
  intro p hp
  simp only [List.mem_cons, List.not_mem_nil, or_false] at hp
  rcases hp with rfl | rfl | rfl <;> assumption
theorem all4 {x y z u : ByteArray} (hx : x.size ≤ 300) (hy : y.size ≤ 300) (hz : z.size ≤ 300) (hu : u.size ≤ 300) : ∀ p ∈ [x, y, z, u], p.size ≤ 300 := by
  intro p hp
  simp only [List.mem_cons, List.not_mem_nil, or_false] at hp
  rcases hp with rfl | rfl | rfl | rfl <;> assumption
theorem num_s (n : Int) (w : World) : Calls Tryz.prog 54 #[.int .i64 n] w fun e w' => e = .returned (.string (numS n)) ∧ Below w.heap.size w w' := Sm.num_any n w
/-- The code's Mark of three texts, the kind a number. -/
theorem mark3 (kb : UInt8) (k : Int) (hk : k = (kb.toNat : Int)) {b : Nat} {T : TypeId} {x y z : ByteArray} {w : World} (h : Blk w b #[.string x, .string y, .string z] T) (hx : x.size ≤ 300) (hy : y.size ≤ 300) (hz : z.size ≤ 300) (hK : Sm.KB w) :
    Calls Tryz.prog 56 #[.int .u8 k, .slice (some ⟨b, 0, none⟩) 3 3] w fun e w' => e = .returned (.string (mk kb [x, y, z])) ∧ Below w.heap.size w w' := by
  subst hk; exact Sm.mark_any kb _ 3 3 _ w (parts3 h) (by decide) (all3 hx hy hz) hK
theorem mark4 (kb : UInt8) (k : Int) (hk : k = (kb.toNat : Int)) {b : Nat} {T : TypeId} {x y z u : ByteArray} {w : World} (h : Blk w b #[.string x, .string y, .string z, .string u] T) (hx : x.size ≤ 300) (hy : y.size ≤ 300) (hz : z.size ≤ 300) (hu : u.size ≤ 300) (hK : Sm.KB w) :
    Calls Tryz.prog 56 #[.int .u8 k, .slice (some ⟨b, 0, none⟩) 4 4] w fun e w' => e = .returned (.string (mk kb [x, y, z, u])) ∧ Below w.heap.size w w' := by
  subst hk; exact Sm.mark_any kb _ 4 4 _ w (parts4 h) (by decide) (all4 hx hy hz hu) hK
theorem below_alloc (w : World) (o : Obj) : Below w.heap.size w (w.alloc o) := (Below.refl _ _).alloc (Nat.le_refl _) o
set_option maxRecDepth 100000 in
set_option maxHeartbeats 1000000 in
theorem pseal_any (key : ByteArray) (id : Int) (s : ByteArray) (w : World) (hk : key.size ≤ 300) (hs : s.size ≤ 300) (hK : Sm.KB w) :
    Calls Tryz.prog 74 #[.string key, .int .i64 id, .string s] w fun e w' => e = .returned (.string (mk 103 [key, numS id, s])) ∧ Below w.heap.size w w' := by
  have hn := numS_size id
  go_enter Tryz.func74, Tryz.ntmps74
  go_wp2_with fail
  refine (num_s id _).mono ?_
  rintro e w1 ⟨rfl, g1⟩
  go_wp2_with fail
  have g2 := below_alloc w1 (.cells #[.string key, .string (numS id), .string s] 9)
  refine (mark3 103 _ rfl (Blk.new w1 _ 9) hk (by omega) hs ((hK.below g1).below g2)).mono ?_
  rintro e w2 ⟨rfl, g3⟩
  go_wp2
  go_ret
  exact ⟨rfl, (g1.trans (g2.mono g1.size)).trans (g3.mono (g1.trans (g2.mono g1.size)).size)⟩
set_option maxRecDepth 100000 in
set_option maxHeartbeats 1000000 in
theorem pmark_any (id v : Int) (s : ByteArray) (w : World) (hs : s.size ≤ 300) (hK : Sm.KB w) :
    Calls Tryz.prog 70 #[.int .i64 id, .int .i64 v, .string s] w fun e w' => e = .returned (.string (mk 112 [numS id, numS v, s])) ∧ Below w.heap.size w w' := by
  have hn := numS_size id
  have hv := numS_size v
  go_enter Tryz.func70, Tryz.ntmps70
  go_wp2_with fail
  refine (num_s id _).mono ?_
  rintro e w1 ⟨rfl, g1⟩
  go_wp2_with fail
  refine (num_s v _).mono ?_
  rintro e w2 ⟨rfl, g2⟩
  have g2' := g1.trans (g2.mono g1.size)
  go_wp2_with fail
  have g3 := below_alloc w2 (.cells #[.string (numS id), .string (numS v), .string s] 9)
  have g3' := g2'.trans (g3.mono g2'.size)
  refine (mark3 112 _ rfl (Blk.new w2 _ 9) (by omega) (by omega) hs (hK.below g3')).mono ?_
  rintro e w3 ⟨rfl, g4⟩
  go_wp2
  go_ret
  exact ⟨rfl, g3'.trans (g4.mono g3'.size)⟩
end Go.Proofs.YtkapkphhceknfaaGreatDoor.Pg
namespace Go.Proofs.YtkapkphhceknfaaGreatDoor
open Go.RowKit
structure Q4 where
  a : BitVec 32
  b : BitVec 32
  c : BitVec 32
  d : BitVec 32
/-- The quarter round. -/
def qr (a b c d : BitVec 32) : Q4 :=
  let a1 := a + b
  let d1 := (d ^^^ a1).rotateLeft 16
  let c1 := c + d1
  let b1 := (b ^^^ c1).rotateLeft 12
  let a2 := a1 + b1
  let d2 := (d1 ^^^ a2).rotateLeft 8
  let c2 := c1 + d2
  ⟨a2, (b1 ^^^ c2).rotateLeft 7, c2, d2⟩
def qat (f : Nat → BitVec 32) (i j k l : Nat) (t : Nat) : BitVec 32 :=
  if t = l then (qr (f i) (f j) (f k) (f l)).d else if t = k then (qr (f i) (f j) (f k) (f l)).c else if t = j then (qr (f i) (f j) (f k) (f l)).b else if t = i then (qr (f i) (f j) (f k) (f l)).a else f t
def col (f : Nat → BitVec 32) : Nat → Nat → BitVec 32
  | 0 => f
  | m + 1 => qat (col f m) m (4 + m) (8 + m) (12 + m)
def dia (f : Nat → BitVec 32) : Nat → Nat → BitVec 32
  | 0 => f
  | m + 1 => qat (dia f m) m (4 + (m + 1) % 4) (8 + (m + 2) % 4) (12 + (m + 3) % 4)
def dbl (f : Nat → BitVec 32) : Nat → Nat → BitVec 32
  | 0 => f
  | r + 1 => dia (col (dbl f r) 4) 4
/-- Byte j of the block that a state makes. -/
def blkB (f : Nat → BitVec 32) (j : Nat) : UInt8 := UInt8.ofNat ((dbl f 10 (j / 4) + f (j / 4)).toNat / 256 ^ (j % 4))
theorem blkB_eq (f : Nat → BitVec 32) (j : Nat) : ((blkB f j).toNat : Int) = I (dbl f 10 (j / 4) + f (j / 4)) / 2 ^ (8 * (j % 4)) % 256 := by
  have e : (2 : Nat) ^ (8 * (j % 4)) = 256 ^ (j % 4) := by
    rw [show (256 : Nat) = 2 ^ 8 from rfl, ← Nat.pow_mul]
  unfold blkB I
  rw [UInt8.toNat_ofNat', ← e]
  simp
def wordL (a b c d : Nat) : BitVec 32 := BitVec.ofNat 32 (((d * 256 + c) * 256 + b) * 256 + a)
theorem or_add (x y k : Nat) (h : y < 2 ^ k) : x * 2 ^ k ||| y = x * 2 ^ k + y := by
  rw [Nat.mul_comm, ← Nat.two_pow_add_eq_or_of_lt h]
theorem word_eq (a b c d : Nat) (ha : a < 256) (hb : b < 256) (hc : c < 256) (hd : d < 256) :
    bits BinOp.or IntKind.u32 (bits BinOp.or IntKind.u32 (bits BinOp.or IntKind.u32 ((a:Int) % 4294967296) ((b:Int) % 4294967296 * 256 % 4294967296))
      ((c:Int) % 4294967296 * 65536 % 4294967296)) ((d:Int) % 4294967296 * 16777216 % 4294967296) = I (wordL a b c d) := by
  rw [show (d:Int) % 4294967296 * 16777216 % 4294967296 = ((d * 16777216 : Nat) : Int) from by omega, show (c:Int) % 4294967296 * 65536 % 4294967296 = ((c * 65536 : Nat) : Int) from by omega,
    show (b:Int) % 4294967296 * 256 % 4294967296 = ((b * 256 : Nat) : Int) from by omega, show (a:Int) % 4294967296 = ((a : Nat) : Int) from by omega]
  have e1 : a ||| b * 256 = b * 256 + a := by rw [Nat.or_comm]; exact or_add b a 8 (by omega)
  have e2 : (b * 256 + a) ||| c * 65536 = c * 65536 + (b * 256 + a) := by rw [Nat.or_comm]; exact or_add c (b * 256 + a) 16 (by omega)
  have e3 : (c * 65536 + (b * 256 + a)) ||| d * 16777216 = d * 16777216 + (c * 65536 + (b * 256 + a)) := by rw [Nat.or_comm]; exact or_add d _ 24 (by omega)
  rw [u32_or_nat _ _ (by omega) (by omega), e1, u32_or_nat _ _ (by omega) (by omega), e2, u32_or_nat _ _ (by omega) (by omega), e3]
  unfold I wordL; rw [BitVec.toNat_ofNat, Nat.mod_eq_of_lt (by omega)]; omega
/-- Byte i of a text, a number. -/
def byteAt (s : ByteArray) (i : Nat) : Nat := (s.data.toList.getD i 0).toNat
theorem byteAt_eq (s : ByteArray) (i : Nat) (h : i < s.size) : s[i].toNat = byteAt s i := by
  have h' : i < s.data.toList.length := by simpa using h
  unfold byteAt; rw [List.getD_eq_getElem?_getD, List.getElem?_eq_getElem h', Option.getD_some]; rfl
theorem byteAt_extract (s : ByteArray) (a b i : Nat) (h : a + i < b) : byteAt (s.extract a b) i = byteAt s (a + i) := by
  unfold byteAt; simp only [ByteArray.data_extract, Array.toList_extract, List.extract_eq_take_drop, List.getD_eq_getElem?_getD, List.getElem?_take, List.getElem?_drop]
  rw [if_pos (by omega)]
/-- Word t of a text. -/
def wAt (s : ByteArray) (t : Nat) : BitVec 32 := wordL (byteAt s (4 * t)) (byteAt s (4 * t + 1)) (byteAt s (4 * t + 2)) (byteAt s (4 * t + 3))
/-- The state that a block begins with. -/
def stW (key : ByteArray) (n : BitVec 32) (nonce : ByteArray) (t : Nat) : BitVec 32 :=
  if t < 4 then BitVec.ofNat 32 ([1634760805, 857760878, 2036477234, 1797285236].getD t 0) else if t < 12 then wAt key (t - 4) else if t = 12 then n else wAt nonce (t - 13)
theorem and31p (k : Int) (h0 : 0 ≤ k) (h1 : k ≤ 31) : bits .and .u64 k 31 = k := by
  have e : k = (k.toNat : Int) := by omega
  rw [e, show (31 : Int) = ((31 : Nat) : Int) from rfl, bits_and_u64_nat _ _ (by omega) (by omega)]
  rw [show (31:Nat) = 2 ^ 5 - 1 from rfl, Nat.and_two_pow_sub_one_eq_mod]; omega
theorem rotl_eq (x : BitVec 32) (n : Nat) (h0 : 1 ≤ n) (h1 : n ≤ 31) : (x <<< n) ||| (x >>> (32 - n)) = x.rotateLeft n := by
  rw [BitVec.rotateLeft_def, Nat.mod_eq_of_lt (by omega)]
theorem rot_any (x : BitVec 32) (k : Int) (w : World) (h0 : 1 ≤ k) (h1 : k ≤ 31) :
    Calls Tryz.prog 115 #[.int .u32 (I x), .int .i64 k] w fun e w' => e = .returned (.int .u32 (I (x.rotateLeft k.toNat))) ∧ w' = w := by
  have ha := and31p k (by omega) h1
  go_enter Tryz.func115, Tryz.ntmps115
  go_wp2
  go_ret
  refine ⟨ret_int ?_, rfl⟩
  rw [I_shlm, I_shr, I_or, ← rotl_eq x _ (by omega) (by omega)]
  rw [show (32 - k).toNat = 32 - k.toNat from by omega]
set_option maxHeartbeats 400000 in
theorem word_any (s : ByteArray) (w : World) (h0 : s.size = 4) :
    Calls Tryz.prog 108 #[.string s] w fun e w' => e = .returned (.int .u32 (I (wordL (byteAt s 0) (byteAt s 1) (byteAt s 2) (byteAt s 3)))) ∧ ∃ n, w' = w.drewN n := by
  rw [← byteAt_eq s 0 (by omega), ← byteAt_eq s 1 (by omega), ← byteAt_eq s 2 (by omega), ← byteAt_eq s 3 (by omega)]
  go_enter Tryz.func108, Tryz.ntmps108
  go_wp2
  go_quiet (fail)
  go_wp2
  go_ret
  exact ⟨ret_int (word_eq _ _ _ _ s[0].toNat_lt s[1].toNat_lt s[2].toNat_lt s[3].toNat_lt), _, rfl⟩
theorem results_tmp4 {fn : Func} {t u v x : Tmp} (h : fn.results = #[.tmp t, .tmp u, .tmp v, .tmp x]) (tmps : Array Value) (P : Program) (w : World) :
    (results fn tmps).run P w = .ok (.tuple #[tmps.getD t undef, tmps.getD u undef, tmps.getD v undef, tmps.getD x undef]) w := by
  simp [results, h]
attribute [local go_sem] I_xor I_addm
set_option maxHeartbeats 400000 in
theorem quarter_any (a b c d : BitVec 32) (w : World) :
    Calls Tryz.prog 109 #[.int .u32 (I a), .int .u32 (I b), .int .u32 (I c), .int .u32 (I d)] w fun e w' => e = .returned (.tuple #[.int .u32 (I (qr a b c d).a), .int .u32 (I (qr a b c d).b), .int .u32 (I (qr a b c d).c), .int .u32 (I (qr a b c d).d)]) ∧ w' = w := by
  go_enter Tryz.func109, Tryz.ntmps109
  go_wp2_with (go_at_call 115; refine (rot_any _ _ _ (by omega) (by omega)).mono ?_; rintro e w' ⟨rfl, rfl⟩)
  (try simp only [Exit.inBlock, Exit.then])
  refine bodyPost_ret (results_tmp4 rfl _ _ _) rfl ?_
  exact ⟨rfl, rfl⟩
end Go.Proofs.YtkapkphhceknfaaGreatDoor
namespace Go.Proofs.YtkapkphhceknfaaGreatDoor
open Go.RowKit
theorem mixed : Tryz.prog.follows .mixedOrders = true := by kernel_rfl
theorem szS : (Tryz.prog.info? 166).map (·.size) = some 16 := by kernel_rfl
theorem szB : (Tryz.prog.info? 168).map (·.size) = some 64 := by kernel_rfl
def upto (f : Nat → BitVec 32) (k : Nat) (j : Nat) : BitVec 32 := if j < k then f j else 0
theorem tab_upto_succ (n k : Nat) (f : Nat → BitVec 32) (v : BitVec 32) (h : v = f k) : (tab n (upto f k)).setIfInBounds k (.int .u32 (I v)) = tab n (upto f (k + 1)) := by
  rw [tab_set, h]; apply tab_congr; intro j _; unfold upto
  by_cases e : j = k
  · subst e; simp
  · simp [e]; congr 1; apply propext; omega
theorem wAt_word (s : ByteArray) (t : Nat) : wordL (byteAt (s.extract (4 * t) (4 * (t + 1))) 0) (byteAt (s.extract (4 * t) (4 * (t + 1))) 1) (byteAt (s.extract (4 * t) (4 * (t + 1))) 2) (byteAt (s.extract (4 * t) (4 * (t + 1))) 3) = wAt s t := by
  rw [byteAt_extract _ _ _ _ (by omega), byteAt_extract _ _ _ _ (by omega), byteAt_extract _ _ _ _ (by omega), byteAt_extract _ _ _ _ (by omega)]; rfl
theorem stW_key (key : ByteArray) (n : BitVec 32) (nonce : ByteArray) (k : Nat) (h : k < 8) : stW key n nonce (4 + k) = wAt key k := by
  unfold stW; rw [if_neg (by omega), if_pos (by omega)]; congr 1; omega
theorem stW_n (key : ByteArray) (n : BitVec 32) (nonce : ByteArray) : stW key n nonce 12 = n := by
  unfold stW; simp
theorem stW_nonce (key : ByteArray) (n : BitVec 32) (nonce : ByteArray) (k : Nat) : stW key n nonce (13 + k) = wAt nonce k := by
  unfold stW; rw [if_neg (by omega), if_neg (by omega), if_neg (by omega)]; congr 1; omega
set_option maxRecDepth 100000 in
set_option maxHeartbeats 1000000 in
theorem start_any (key : ByteArray) (n : BitVec 32) (nonce : ByteArray) (w : World) (hk : key.size = 32) (hn : nonce.size = 12) :
    Calls Tryz.prog 93 #[.string key, .int .u32 (I n), .string nonce] w fun e w' => e = .returned (.agg (tab 16 (stW key n nonce))) ∧ Below w.heap.size w w' := by
  go_enter Tryz.func93, Tryz.ntmps93
  go_wp2_with fail
  go_loopw [11] (fun i wr => ∃ k : Nat, k ≤ 8 ∧ i = .int .i64 k ∧ Blk wr (w.heap.size + 1) (tab 16 (upto (stW key n nonce) (4 + k))) 166 ∧ Blk wr w.heap.size (tab 16 (fun _ => 0)) 166 ∧ Below w.heap.size w wr) (fun i _ => 8 - (intOf i).toNat)
  case atStart =>
    refine ⟨0, by omega, rfl, Blk.new' _ (tab 16 (upto (stW key n nonce) 4)) 166 (by simp), (Blk.new w (tab 16 (fun _ => 0)) 166).alloc _, ((Below.refl _ _).alloc (Nat.le_refl _) _).alloc (by simp) _⟩
  case round =>
    obtain ⟨k, hk8, rfl, hb1, hb0, hbel⟩ := hrel
    have hc := fun j (hj : j < 16) => hb1.tcell j hj
    have hf := fun j => hb1.frozen j
    by_cases hlt : k < 8
    · have hx : (key.extract (4 * k) (4 * (k + 1))).size = 4 := by simp; omega
      have h16 : 4 + k < 16 := by omega
      go_wp2_with (go_at_call 108; refine (word_any _ _ hx).mono ?_; rintro e w' ⟨rfl, m, rfl⟩)
      go_roundw
      case rel =>
        refine ⟨k + 1, by omega, by go_num, ?_, (hb0.drewN m).setOther _ (by simp) _, (below_drewN hbel m).setCell (by simp) _⟩
        rw [wAt_word]
        have hb := (hb1.set (4 + k) (.int .u32 (I (wAt key k)))).drewN m
        rw [tab_upto_succ _ _ _ _ (stW_key key n nonce k hlt).symm] at hb
        exact hb
      case measure => simp [intOf]; omega
    · have hk' : k = 8 := by omega
      subst hk'
      go_wp2_with fail
      have q1 := hb1.set 12 (.int .u32 (I n))
      rw [tab_upto_succ _ _ _ _ (stW_n key n nonce).symm] at q1
      have q0 := hb0.setOther ⟨w.heap.size + 1, 12, none⟩ (by simp) (.int .u32 (I n))
      have q2 := hbel.setCell (p := ⟨w.heap.size + 1, 12, none⟩) (by simp) (.int .u32 (I n))
      clear hc hf hb1 hb0 hbel
      rw [show (((8 : Nat) : Int)) = 8 from rfl]
      go_loopw [28] (fun i wr => ∃ k : Nat, k ≤ 3 ∧ i = .int .i64 k ∧ Blk wr (w.heap.size + 1) (tab 16 (upto (stW key n nonce) (13 + k))) 166 ∧ Blk wr w.heap.size (tab 16 (fun _ => 0)) 166 ∧ Below w.heap.size w wr) (fun i _ => 3 - (intOf i).toNat)
      case atStart => exact ⟨0, by omega, rfl, q1, q0, q2⟩
      case round =>
        clear q0 q1 q2
        obtain ⟨k, hk3, rfl, hb1, hb0, hbel⟩ := hrel
        have hc := fun j (hj : j < 16) => hb1.tcell j hj
        have hf := fun j => hb1.frozen j
        by_cases hlt : k < 3
        · have hx : (nonce.extract (4 * k) (4 * (k + 1))).size = 4 := by simp; omega
          have h16 : 13 + k < 16 := by omega
          go_wp2_with (go_at_call 108; refine (word_any _ _ hx).mono ?_; rintro e w' ⟨rfl, m, rfl⟩)
          go_roundw
          case rel =>
            refine ⟨k + 1, by omega, by go_num, ?_, (hb0.drewN m).setOther _ (by simp) _, (below_drewN hbel m).setCell (by simp) _⟩
            rw [wAt_word]
            have hb := (hb1.set (13 + k) (.int .u32 (I (wAt nonce k)))).drewN m
            rw [tab_upto_succ _ _ _ _ (stW_nonce key n nonce k).symm] at hb
            exact hb
          case measure => simp [intOf]; omega
        · have hk' : k = 3 := by omega
          subst hk'
          go_wp2_with (first
            | (refine wpl_load rfl 166 _ rfl 16 155 Tryz.underlying166 szS _ _ _ _ rfl hb1 (by simp [tab_size]) ?_; rw [tab_all _ _ _ (Nat.zero_add _)])
            | (refine wpl_store_u rfl rfl 166 _ _ rfl 16 szS _ _ _ _ rfl rfl hb0 (by simp [tab_size]) ?_; intro w3 hu3 j5))
          refine ret_cell 6 166 rfl 16 155 Tryz.underlying166 szS _ _ _ rfl j5 rfl ⟨?_, below_upd hbel hu3 (Nat.le_refl _)⟩
          rw [tab_congr 16 (upto (stW key n nonce) (13 + 3)) (stW key n nonce) (fun j hj => by unfold upto; rw [if_pos (by omega)])]
end Go.Proofs.YtkapkphhceknfaaGreatDoor
