/-
  Part of the proof: the state that a block of the stream begins with is walked.
-/
import Derived.Test.YtccnnfllgdplhaaDoorS1
import Derived.Test.YtccnnfllgdplhaaDoorQ
namespace Go.Proofs.YtccnnfllgdplhaaDoor
open Go.RowKit
theorem mixed : Tryd.prog.follows .mixedOrders = true := by kernel_rfl
theorem szS : (Tryd.prog.info? 113).map (·.size) = some 16 := by kernel_rfl
theorem szB : (Tryd.prog.info? 111).map (·.size) = some 64 := by kernel_rfl
def upto (f : Nat → BitVec 32) (k : Nat) (j : Nat) : BitVec 32 := if j < k then f j else 0
theorem tab_upto_succ (n k : Nat) (f : Nat → BitVec 32) (v : BitVec 32) (h : v = f k) : (tab n (upto f k)).setIfInBounds k (.int .u32 (I v)) = tab n (upto f (k + 1)) := by
  rw [tab_set, h]; apply tab_congr; intro j _; unfold upto
  by_cases e : j = k
  · subst e; simp
  · simp [e]; congr 1; apply propext; omega
theorem wAt_word (s : ByteArray) (t : Nat) : wordL (byteAt (s.extract (4 * t) (4 * (t + 1))) 0) (byteAt (s.extract (4 * t) (4 * (t + 1))) 1) (byteAt (s.extract (4 * t) (4 * (t + 1))) 2) (byteAt (s.extract (4 * t) (4 * (t + 1))) 3) = wAt s t := by
  rw [byteAt_extract _ _ _ _ (by omega), byteAt_extract _ _ _ _ (by omega), byteAt_extract _ _ _ _ (by omega), byteAt_extract _ _ _ _ (by omega)]; rfl
theorem stW_key (key : ByteArray) (n : BitVec 32) (nonce : ByteArray) (k : Nat) (h : k < 8) : stW key n nonce (4 + k) = wAt key k := by
  unfold stW; rw [if_neg (by omega), if_pos (by omega)]; congr 1; omega
theorem stW_n (key : ByteArray) (n : BitVec 32) (nonce : ByteArray) : stW key n nonce 12 = n := by
  unfold stW; simp
theorem stW_nonce (key : ByteArray) (n : BitVec 32) (nonce : ByteArray) (k : Nat) : stW key n nonce (13 + k) = wAt nonce k := by
  unfold stW; rw [if_neg (by omega), if_neg (by omega), if_neg (by omega)]; congr 1; omega
set_option maxRecDepth 100000 in
set_option maxHeartbeats 1000000 in
theorem start_any (key : ByteArray) (n : BitVec 32) (nonce : ByteArray) (w : World) (hk : key.size = 32) (hn : nonce.size = 12) :
    Calls Tryd.prog 76 #[.string key, .int .u32 (I n), .string nonce] w fun e w' => e = .returned (.agg (tab 16 (stW key n nonce))) ∧ Below w.heap.size w w' := by
  go_enter Tryd.func76, Tryd.ntmps76
  go_wp2_with fail
  go_loopw [11] (fun i wr => ∃ k : Nat, k ≤ 8 ∧ i = .int .i64 k ∧ Blk wr (w.heap.size + 1) (tab 16 (upto (stW key n nonce) (4 + k))) 113 ∧ Blk wr w.heap.size (tab 16 (fun _ => 0)) 113 ∧ Below w.heap.size w wr) (fun i _ => 8 - (intOf i).toNat)
  case atStart =>
    refine ⟨0, by omega, rfl, Blk.new' _ (tab 16 (upto (stW key n nonce) 4)) 113 (by simp), (Blk.new w (tab 16 (fun _ => 0)) 113).alloc _, ((Below.refl _ _).alloc (Nat.le_refl _) _).alloc (by simp) _⟩
  case round =>
    obtain ⟨k, hk8, rfl, hb1, hb0, hbel⟩ := hrel
    have hc := fun j (hj : j < 16) => hb1.tcell j hj
    have hf := fun j => hb1.frozen j
    by_cases hlt : k < 8
    · have hx : (key.extract (4 * k) (4 * (k + 1))).size = 4 := by simp; omega
      have h16 : 4 + k < 16 := by omega
      go_wp2_with (go_at_call 106; refine (word_any _ _ hx).mono ?_; rintro e w' ⟨rfl, m, rfl⟩)
      go_roundw
      case rel =>
        refine ⟨k + 1, by omega, by go_num, ?_, (hb0.drewN m).setOther _ (by simp) _, (below_drewN hbel m).setCell (by simp) _⟩
        rw [wAt_word]
        have hb := (hb1.set (4 + k) (.int .u32 (I (wAt key k)))).drewN m
        rw [tab_upto_succ _ _ _ _ (stW_key key n nonce k hlt).symm] at hb
        exact hb
      case measure => simp [intOf]; omega
    · have hk' : k = 8 := by omega
      subst hk'
      go_wp2_with fail
      have q1 := hb1.set 12 (.int .u32 (I n))
      rw [tab_upto_succ _ _ _ _ (stW_n key n nonce).symm] at q1
      have q0 := hb0.setOther ⟨w.heap.size + 1, 12, none⟩ (by simp) (.int .u32 (I n))
      have q2 := hbel.setCell (p := ⟨w.heap.size + 1, 12, none⟩) (by simp) (.int .u32 (I n))
      clear hc hf hb1 hb0 hbel
      rw [show (((8 : Nat) : Int)) = 8 from rfl]
      go_loopw [28] (fun i wr => ∃ k : Nat, k ≤ 3 ∧ i = .int .i64 k ∧ Blk wr (w.heap.size + 1) (tab 16 (upto (stW key n nonce) (13 + k))) 113 ∧ Blk wr w.heap.size (tab 16 (fun _ => 0)) 113 ∧ Below w.heap.size w wr) (fun i _ => 3 - (intOf i).toNat)
      case atStart => exact ⟨0, by omega, rfl, q1, q0, q2⟩
      case round =>
        clear q0 q1 q2
        obtain ⟨k, hk3, rfl, hb1, hb0, hbel⟩ := hrel
        have hc := fun j (hj : j < 16) => hb1.tcell j hj
        have hf := fun j => hb1.frozen j
        by_cases hlt : k < 3
        · have hx : (nonce.extract (4 * k) (4 * (k + 1))).size = 4 := by simp; omega
          have h16 : 13 + k < 16 := by omega
          go_wp2_with (go_at_call 106; refine (word_any _ _ hx).mono ?_; rintro e w' ⟨rfl, m, rfl⟩)
          go_roundw
          case rel =>
            refine ⟨k + 1, by omega, by go_num, ?_, (hb0.drewN m).setOther _ (by simp) _, (below_drewN hbel m).setCell (by simp) _⟩
            rw [wAt_word]
            have hb := (hb1.set (13 + k) (.int .u32 (I (wAt nonce k)))).drewN m
            rw [tab_upto_succ _ _ _ _ (stW_nonce key n nonce k).symm] at hb
            exact hb
          case measure => simp [intOf]; omega
        · have hk' : k = 3 := by omega
          subst hk'
          go_wp2_with (first
            | (refine wpl_load rfl 113 _ rfl 16 83 Tryd.underlying113 szS _ _ _ _ rfl hb1 (by simp [tab_size]) ?_; rw [tab_all _ _ _ (Nat.zero_add _)])
            | (refine wpl_store_u rfl rfl 113 _ _ rfl 16 szS _ _ _ _ rfl rfl hb0 (by simp [tab_size]) ?_; intro w3 hu3 j5))
          refine ret_cell 6 113 rfl 16 83 Tryd.underlying113 szS _ _ _ rfl j5 rfl ⟨?_, below_upd hbel hu3 (Nat.le_refl _)⟩
          rw [tab_congr 16 (upto (stW key n nonce) (13 + 3)) (stW key n nonce) (fun j hj => by unfold upto; rw [if_pos (by omega)])]
end Go.Proofs.YtccnnfllgdplhaaDoor
