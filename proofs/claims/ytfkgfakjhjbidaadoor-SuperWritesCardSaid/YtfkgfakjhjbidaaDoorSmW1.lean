/-
  Part of the proof of SumTells: the rotation, a word out of bytes, and the schedule of the code's sum are walked.
-/
import Derived.Test.YtfkgfakjhjbidaaDoorBlk
namespace Go.Proofs.YtfkgfakjhjbidaaDoor.Sm
open Go.RowKit
def wordN (a b c d : Nat) : BitVec 32 := BitVec.ofNat 32 (((a * 256 + b) * 256 + c) * 256 + d)
theorem or_add (x y k : Nat) (h : y < 2 ^ k) : x * 2 ^ k ||| y = x * 2 ^ k + y := by
  rw [Nat.mul_comm, ← Nat.two_pow_add_eq_or_of_lt h]
theorem word_eq (a b c d : Nat) (ha : a < 256) (hb : b < 256) (hc : c < 256) (hd : d < 256) :
    bits BinOp.or IntKind.u32 (bits BinOp.or IntKind.u32 (bits BinOp.or IntKind.u32 ((a:Int) % 4294967296 * 16777216 % 4294967296) ((b:Int) % 4294967296 * 65536 % 4294967296))
      ((c:Int) % 4294967296 * 256 % 4294967296)) ((d:Int) % 4294967296) = I (wordN a b c d) := by
  rw [show (a:Int) % 4294967296 * 16777216 % 4294967296 = ((a * 16777216 : Nat) : Int) from by omega, show (b:Int) % 4294967296 * 65536 % 4294967296 = ((b * 65536 : Nat) : Int) from by omega,
    show (c:Int) % 4294967296 * 256 % 4294967296 = ((c * 256 : Nat) : Int) from by omega, show (d:Int) % 4294967296 = ((d : Nat) : Int) from by omega]
  have e1 : a * 16777216 ||| b * 65536 = a * 16777216 + b * 65536 := or_add a (b * 65536) 24 (by omega)
  have e2 : (a * 16777216 + b * 65536) ||| c * 256 = a * 16777216 + b * 65536 + c * 256 := by
    have := or_add (a * 256 + b) (c * 256) 16 (by omega)
    rw [show (a * 256 + b) * 2 ^ 16 = a * 16777216 + b * 65536 from by omega] at this; exact this
  have e3 : (a * 16777216 + b * 65536 + c * 256) ||| d = a * 16777216 + b * 65536 + c * 256 + d := by
    have := or_add ((a * 256 + b) * 256 + c) d 8 (by omega)
    rw [show ((a * 256 + b) * 256 + c) * 2 ^ 8 = a * 16777216 + b * 65536 + c * 256 from by omega] at this; exact this
  rw [u32_or_nat _ _ (by omega) (by omega), e1, u32_or_nat _ _ (by omega) (by omega), e2, u32_or_nat _ _ (by omega) (by omega), e3]
  unfold I wordN; rw [BitVec.toNat_ofNat, Nat.mod_eq_of_lt (by omega)]; omega
/-- Byte i of a text, a number. -/
def byteAt (s : ByteArray) (i : Nat) : Nat := (s.data.toList.getD i 0).toNat
theorem byteAt_eq (s : ByteArray) (i : Nat) (h : i < s.size) : s[i].toNat = byteAt s i := by
  have h' : i < s.data.toList.length := by simpa using h
  unfold byteAt; rw [List.getD_eq_getElem?_getD, List.getElem?_eq_getElem h', Option.getD_some]; rfl
theorem byteAt_extract (s : ByteArray) (a b i : Nat) (h : a + i < b) : byteAt (s.extract a b) i = byteAt s (a + i) := by
  unfold byteAt; simp only [ByteArray.data_extract, Array.toList_extract, List.extract_eq_take_drop, List.getD_eq_getElem?_getD, List.getElem?_take, List.getElem?_drop]
  rw [if_pos (by omega)]
set_option maxHeartbeats 400000 in
theorem word_any (s : ByteArray) (w : World) (h0 : s.size = 4) :
    Calls Tryd.prog 157 #[.string s] w fun e w' => e = .returned (.int .u32 (I (wordN (byteAt s 0) (byteAt s 1) (byteAt s 2) (byteAt s 3)))) ∧ ∃ n, w' = w.drewN n := by
  rw [← byteAt_eq s 0 (by omega), ← byteAt_eq s 1 (by omega), ← byteAt_eq s 2 (by omega), ← byteAt_eq s 3 (by omega)]
  go_enter Tryd.func157, Tryd.ntmps157
  go_wp2
  go_quiet (fail)
  go_wp2
  go_ret
  exact ⟨ret_int (word_eq _ _ _ _ s[0].toNat_lt s[1].toNat_lt s[2].toNat_lt s[3].toNat_lt), _, rfl⟩
theorem rot_any (x : BitVec 32) (k : Int) (w : World) (h0 : -31 ≤ k) (h1 : k ≤ -1) :
    Calls Tryd.prog 145 #[.int .u32 (I x), .int .i64 k] w fun e w' => e = .returned (.int .u32 (I (x.rotateRight (-k).toNat))) ∧ w' = w := by
  have ha := and31 k h0 h1
  go_enter Tryd.func145, Tryd.ntmps145
  go_wp2
  go_ret
  refine ⟨ret_int ?_, rfl⟩
  rw [I_shlm, I_shr, I_or, ← rot_eq x _ (by omega) (by omega)]
  rw [show (32 + k).toNat = 32 - (-k).toNat from by omega, show (32 - (32 + k)).toNat = (-k).toNat from by omega]
attribute [local go_sem] I_xor I_and I_or I_addm I_not I_shr3 I_shr10
def sg0 (x : BitVec 32) : BitVec 32 := x.rotateRight 7 ^^^ x.rotateRight 18 ^^^ x >>> 3
def sg1 (x : BitVec 32) : BitVec 32 := x.rotateRight 17 ^^^ x.rotateRight 19 ^^^ x >>> 10
/-- The words of a chunk, one a round. -/
def sw (m : Nat → BitVec 32) (t : Nat) : BitVec 32 :=
  if t < 16 then m t else sw m (t - 16) + sg0 (sw m (t - 15)) + sw m (t - 7) + sg1 (sw m (t - 2))
theorem sw_lo (m : Nat → BitVec 32) (t : Nat) (h : t < 16) : sw m t = m t := by rw [sw, if_pos h]
theorem sw_hi (m : Nat → BitVec 32) (t : Nat) (h : ¬ t < 16) : sw m t = sw m (t - 16) + sg0 (sw m (t - 15)) + sw m (t - 7) + sg1 (sw m (t - 2)) := by rw [sw, if_neg h]
/-- The sixteen words that a chunk of 64 bytes has. -/
def mOf (s : ByteArray) (t : Nat) : BitVec 32 := wordN (byteAt s (4 * t)) (byteAt s (4 * t + 1)) (byteAt s (4 * t + 2)) (byteAt s (4 * t + 3))
def upto (f : Nat → BitVec 32) (k : Nat) (j : Nat) : BitVec 32 := if j < k then f j else 0
theorem sz32 : (Tryd.prog.info? 103).map (·.size) = some 64 := by kernel_rfl
theorem sz31 : (Tryd.prog.info? 102).map (·.size) = some 8 := by kernel_rfl
theorem tab_upto_succ (n k : Nat) (f : Nat → BitVec 32) (v : BitVec 32) (h : v = f k) : (tab n (upto f k)).setIfInBounds k (.int .u32 (I v)) = tab n (upto f (k + 1)) := by
  rw [tab_set, h]; apply tab_congr; intro j _; unfold upto
  by_cases e : j = k
  · subst e; simp
  · simp [e]; congr 1; apply propext; omega
set_option maxHeartbeats 1000000 in
theorem sched_any (s : ByteArray) (w : World) (h0 : s.size = 64) :
    Calls Tryd.prog 144 #[.string s] w fun e w' => e = .returned (.agg (tab 64 (sw (mOf s)))) ∧ Below w.heap.size w w' := by
  go_enter Tryd.func144, Tryd.ntmps144
  go_wp2_with fail
  go_loopw [9] (fun i wr => ∃ k : Nat, k ≤ 64 ∧ i = .int .i64 k ∧ Blk wr (w.heap.size + 1) (tab 64 (upto (sw (mOf s)) k)) 103 ∧ Blk wr w.heap.size (tab 64 (fun _ => 0)) 103 ∧ Below w.heap.size w wr) (fun i _ => 64 - (intOf i).toNat)
  case atStart => 
    refine ⟨0, by omega, rfl, Blk.new' _ (tab 64 (upto (sw (mOf s)) 0)) 103 (by simp), (Blk.new w (tab 64 (fun _ => 0)) 103).alloc _, ((Below.refl _ _).alloc (Nat.le_refl _) _).alloc (by simp) _⟩
  case round =>
    obtain ⟨k, hk, rfl, hb1, hb0, hbel⟩ := hrel
    have hc := fun j (hj : j < 64) => hb1.tcell j hj
    have hf := fun j => hb1.frozen j
    by_cases hlt : k < 16
    · have hx : (s.extract (4 * k) (4 * k + 4)).size = 4 := by simp; omega
      have hk64 : k < 64 := by omega
      go_wp2_with (go_at_call 157; refine (word_any _ _ hx).mono ?_; rintro e w' ⟨rfl, n, rfl⟩)
      go_roundw
      case rel => 
        refine ⟨k + 1, by omega, by go_num, ?_, ?_, ?_⟩
        · have hb := (hb1.set k (.int .u32 (I (wordN (byteAt (s.extract (4 * k) (4 * k + 4)) 0) (byteAt (s.extract (4 * k) (4 * k + 4)) 1) (byteAt (s.extract (4 * k) (4 * k + 4)) 2) (byteAt (s.extract (4 * k) (4 * k + 4)) 3))))).drewN n
          rw [tab_upto_succ] at hb
          · exact hb
          · rw [sw_lo _ _ hlt, mOf, byteAt_extract _ _ _ _ (by omega), byteAt_extract _ _ _ _ (by omega), byteAt_extract _ _ _ _ (by omega), byteAt_extract _ _ _ _ (by omega)]; rfl
        · exact (hb0.drewN n).setOther _ (by simp) _
        · exact (below_drewN hbel n).setCell (by simp) _
      case measure => simp [intOf]; omega
    · by_cases hlt2 : k < 64
      · obtain ⟨a15, e15⟩ : ∃ a, Hid (a = k - 15) := ⟨_, rfl⟩
        obtain ⟨a2, e2⟩ : ∃ a, Hid (a = k - 2) := ⟨_, rfl⟩
        obtain ⟨a16, e16⟩ : ∃ a, Hid (a = k - 16) := ⟨_, rfl⟩
        obtain ⟨a7, e7⟩ : ∃ a, Hid (a = k - 7) := ⟨_, rfl⟩
        have q15 : IntKind.i64.wrap ((k : Int) - 15) = (a15 : Int) := by rw [e15.out, IntWalk.i64_in _ (by omega)]; omega
        have q2 : IntKind.i64.wrap ((k : Int) - 2) = (a2 : Int) := by rw [e2.out, IntWalk.i64_in _ (by omega)]; omega
        have q16 : IntKind.i64.wrap ((k : Int) - 16) = (a16 : Int) := by rw [e16.out, IntWalk.i64_in _ (by omega)]; omega
        have q7 : IntKind.i64.wrap ((k : Int) - 7) = (a7 : Int) := by rw [e7.out, IntWalk.i64_in _ (by omega)]; omega
        have l15 : a15 < 64 := by rw [e15.out]; omega
        have l2 : a2 < 64 := by rw [e2.out]; omega
        have l16 : a16 < 64 := by rw [e16.out]; omega
        have l7 : a7 < 64 := by rw [e7.out]; omega
        go_wp2_with fail
        go_quiet (fail)
        go_wp2_with (go_at_call 145; refine (rot_any _ _ _ (by omega) (by omega)).mono ?_; rintro e w' ⟨rfl, rfl⟩)
        go_region
        go_wp2
        go_roundw
        case rel =>
          refine ⟨k + 1, by omega, by go_num, ?_, ?_, ?_⟩
          · have hb := (hb1.drewN (nq + 1)).set k (.int .u32 (I (upto (sw (mOf s)) k a16 + sg0 (upto (sw (mOf s)) k a15) + upto (sw (mOf s)) k a7 + sg1 (upto (sw (mOf s)) k a2))))
            rw [tab_upto_succ] at hb
            · exact hb
            · rw [sw_hi _ _ hlt, e15.out, e2.out, e7.out, e16.out]; unfold upto
              rw [if_pos (by omega), if_pos (by omega), if_pos (by omega), if_pos (by omega)]
          · exact (hb0.drewN (nq + 1)).setOther _ (by simp) _
          · exact (below_drewN hbel _).setCell (by simp) _
        case measure => simp [intOf]; omega
      · have hk' : k = 64 := by omega
        subst hk'
        go_wp2_with (first
          | (refine wpl_load rfl 103 _ rfl 64 101 Tryd.underlying103 sz32 _ _ _ _ rfl hb1 (by simp [tab_size]) ?_; rw [tab_all _ _ _ (Nat.zero_add _)])
          | (refine wpl_store rfl rfl 103 _ _ rfl 64 sz32 _ _ _ _ rfl rfl hb0 (by simp [tab_size]) ?_))
        refine ret_cell 2 103 rfl 64 101 Tryd.underlying103 sz32 _ _ _ rfl (putBlk_blk hb0) rfl ⟨?_, below_put hbel (Nat.le_refl _) _⟩
        rw [tab_congr 64 (upto (sw (mOf s)) 64) (sw (mOf s)) (fun j hj => by unfold upto; rw [if_pos hj])]
end Go.Proofs.YtfkgfakjhjbidaaDoor.Sm
