/-
  Part of the proof: the reference's words of a text are walked.
-/
import Derived.Test.YtccnnfllgdplhaaDoorS1
import Derived.Test.YtccnnfllgdplhaaDoorRow
namespace Go.Proofs.YtccnnfllgdplhaaDoor
open Go.RowKit
theorem infoU : (Tryd.prog.info? 83).map (fun i => (i.zero, i.size, i.bytes)) = some (some (.int .u32 0), 1, 4) := by kernel_rfl
/-- The first k words of a text, as cells. -/
def wL (s : ByteArray) (k : Nat) : List Value := (List.range k).map fun t => .int .u32 (I (wAt s t))
theorem wL_length (s : ByteArray) (k : Nat) : (wL s k).length = k := by simp [wL]
theorem wL_succ (s : ByteArray) (k : Nat) : wL s (k + 1) = wL s k ++ [.int .u32 (I (wAt s k))] := by simp [wL, List.range_succ]
theorem wd_eq (a b c d : Nat) (ha : a < 256) (hb : b < 256) (hc : c < 256) (hd : d < 256) (x : Int) (hx : x = (((d : Int) * 256 + c) * 256 + b) * 256 + a) : x = I (wordL a b c d) := by
  unfold I wordL; rw [BitVec.toNat_ofNat, Nat.mod_eq_of_lt (by omega), hx]; omega
set_option maxRecDepth 100000 in
set_option maxHeartbeats 1000000 in
theorem words_any (s : ByteArray) (w : World) (hs : s.size ≤ 10000) :
    Calls Tryd.prog 72 #[.string s] w fun e w' => ∃ v, e = .returned v ∧ Row w' w.heap.size 83 v (wL s (s.size / 4)) ∧ Below w.heap.size w w' := by
  go_enter Tryd.func72, Tryd.ntmps72
  go_wp2_with fail
  go_loopw [3, 4] (fun l i wr => ∃ k : Nat, k ≤ s.size / 4 ∧ i = .int .i64 ((4 * k : Nat) : Int) ∧ Row wr w.heap.size 83 l (wL s k) ∧ Below w.heap.size w wr) (fun _ i _ => 20000 - (intOf i).toNat)
  case atStart => exact ⟨0, by omega, rfl, Row.nil _ _ _, Below.refl _ _⟩
  case round =>
    obtain ⟨k, hk, rfl, hr, hb⟩ := hrel
    by_cases hlt : k < s.size / 4
    · have b4 : 4 * k + 4 ≤ s.size := by omega
      have d0 : s[4 * k].toNat < 256 := s[4 * k].toNat_lt
      have d1 : s[4 * k + 1].toNat < 256 := s[4 * k + 1].toNat_lt
      have d2 : s[4 * k + 2].toNat < 256 := s[4 * k + 2].toNat_lt
      have d3 : s[4 * k + 3].toNat < 256 := s[4 * k + 3].toNat_lt
      have hW : Hid (wAt s k = wordL s[4 * k].toNat s[4 * k + 1].toNat s[4 * k + 2].toNat s[4 * k + 3].toNat) := by
        unfold Hid wAt; rw [byteAt_eq, byteAt_eq, byteAt_eq, byteAt_eq]
      have D : Hid (s[4 * k].toNat < 256 ∧ s[4 * k + 1].toNat < 256 ∧ s[4 * k + 2].toNat < 256 ∧ s[4 * k + 3].toNat < 256) := ⟨d0, d1, d2, d3⟩
      go_wp2_with fail
      refine wp_loop_rounds 5 ?_
      rw [rounds_succ]
      go_wp2_with fail
      rw [rounds_succ]
      go_wp2_with fail
      rw [rounds_succ]
      go_wp2_with fail
      rw [rounds_succ]
      go_wp2_with fail
      rw [rounds_succ]
      go_wp2_with (refine wpl_push rfl _ _ 106 rfl w.heap.size 83 (.int .u32 0) 4 Tryd.underlying106 infoU rfl _ (wL s k) rfl (hr.below ((Below.refl _ _).alloc (Nat.le_refl _) _)) _ _ _ rfl ((Blk.new wr _ 83).cell 0) rfl (by rw [wL_length]; omega) (by decide) (by simp; have := hb.size; omega) ?_; intro g cap w2 hrow hgrow hg hgl)
      go_light
      refine ⟨⟨k + 1, by omega, by go_num, ?_, below_grown (hb.alloc hb.size _) (hr.below ((Below.refl _ _).alloc (Nat.le_refl _) _)) hgrow (by simp; have := hb.size; omega)⟩, by simp [intOf]; omega⟩
      rw [wL_succ, hW.out]
      have := wd_eq s[4 * k].toNat s[4 * k + 1].toNat s[4 * k + 2].toNat s[4 * k + 3].toNat d0 d1 d2 d3 _ rfl
      rw [← this]
      exact hrow
    · have hk' : k = s.size / 4 := by omega
      subst hk'
      go_wp2
      go_ret
      exact ⟨_, rfl, hr, hb⟩
end Go.Proofs.YtccnnfllgdplhaaDoor
