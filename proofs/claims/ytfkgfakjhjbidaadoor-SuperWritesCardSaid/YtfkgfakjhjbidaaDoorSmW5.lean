/-
  Part of the proof of SumTells: the code's Sum answers the plain sum of its text (texts of at most 10000 bytes).
-/
import Derived.Test.YtfkgfakjhjbidaaDoorSmW3
import Derived.Test.YtfkgfakjhjbidaaDoorSmW4
import Derived.Test.YtfkgfakjhjbidaaDoorSmShelf
import Derived.Test.YtfkgfakjhjbidaaDoorQ
namespace Go.Proofs.YtfkgfakjhjbidaaDoor.Sm
open Go.RowKit
theorem ba_ext {a b : ByteArray} (h : a.data.toList = b.data.toList) : a = b := by
  cases a; cases b; simp at h; subst h; rfl
theorem repeatL_zero (z : Nat) : Lib.repeatL [0] z = List.replicate z 0 := by
  induction z with
  | zero => rfl
  | succ z ih => simp [Lib.repeatL, ih, List.replicate_succ]
theorem c_repeat' (c : Int) (z : Nat) (w : World) (hz : c = (z : Int)) (hc : z ≤ 100) :
    Calls Tryd.prog 53 #[.string ⟨#[0]⟩, .int .i64 c] w fun e w' => ∃ zs : List UInt8, e = .returned (.string ⟨zs.toArray⟩) ∧ Hid (zs = List.replicate z 0) ∧ zs.length ≤ 100 ∧ Below w.heap.size w w' := by
  subst hz
  refine (c_repeat ⟨#[0]⟩ z w (by omega) (by show 1 * z ≤ _; omega)).mono ?_
  rintro e w' ⟨rfl, h⟩
  exact ⟨_, rfl, repeatL_zero z, by show (Lib.repeatL [0] z).length ≤ 100; rw [repeatL_zero]; simp; exact hc, h⟩
theorem c_wide (c : Int) (N : Nat) (w : World) (hN : c = (N : Int)) :
    Calls Tryd.prog 81 #[.int .u64 c] w fun e w' => e = .returned (.string (sb 8 (numB N))) ∧ Below w.heap.size w w' := by
  subst hN; exact wide_any N w
/-- What is laid behind a text of n bytes. -/
def padL (n : Nat) : List UInt8 := 128 :: (List.replicate ((119 - n % 64) % 64) 0 ++ (List.range 8).map (numB (8 * n)))
set_option maxRecDepth 100000 in
set_option maxHeartbeats 400000 in
theorem pad_any (n : Nat) (w : World) (hn : n < 100000) :
    Calls Tryd.prog 74 #[.int .i64 (n : Int)] w fun e w' => e = .returned (.string ⟨(padL n).toArray⟩) ∧ Below w.heap.size w w' := by
  go_enter Tryd.func74, Tryd.ntmps74
  go_wp2_with fail
  refine (c_repeat' _ ((119 - n % 64) % 64) _ (by omega) (by omega)).mono ?_
  rintro e w1 ⟨zs, rfl, hzs, hlen, h1⟩
  go_wp2_with fail
  refine (c_wide _ (8 * n) _ (by omega)).mono ?_
  rintro e w2 ⟨rfl, h2⟩
  have hs8 := sb_size 8 (numB (8 * n))
  go_wp2_with fail
  go_ret
  refine ⟨?_, h1.trans (h2.mono h1.size)⟩
  refine congrArg (fun x => Ending.returned (Value.string x)) (ba_ext ?_)
  simp [padL, sb, hzs.out]
/-- The state that a sum begins with. -/
def hF (j : Nat) : BitVec 32 := BitVec.ofNat 32 ([1779033703, 3144134277, 1013904242, 2773480762, 1359893119, 2600822924, 528734635, 1541459225].getD j 0)
/-- A text's sum, as the code reckons it. -/
def sumS (s : ByteArray) : ByteArray :=
  let g := chunks hF (s.extract 0 (s.size - s.size % 64)) ((s.size - s.size % 64) / 64)
  let t := s.extract (s.size - s.size % 64) s.size ++ ⟨(padL s.size).toArray⟩
  sb 32 (stB (chunks g t ((s.size - (s.size - s.size % 64) + (padL s.size).length) / 64)))
set_option maxRecDepth 100000 in
set_option maxHeartbeats 1000000 in
theorem sum_any (s : ByteArray) (w : World) (hs : s.size ≤ 10000) (hK : KB w) :
    Calls Tryd.prog 14 #[.string s] w fun e w' => e = .returned (.string (sumS s)) ∧ Below w.heap.size w w' := by
  obtain ⟨m, em⟩ : ∃ m, Hid (m = s.size - s.size % 64) := ⟨_, rfl⟩
  have hm : (s.size : Int) - (s.size : Int) % 64 = (m : Int) := by rw [em.out]; omega
  have lm : m ≤ s.size := by rw [em.out]; omega
  go_enter Tryd.func14, Tryd.ntmps14
  go_wp2_with fail
  have hb : Blk (w.alloc (.cells #[Value.int .u32 1779033703, Value.int .u32 3144134277, Value.int .u32 1013904242, Value.int .u32 2773480762, Value.int .u32 1359893119, Value.int .u32 2600822924, Value.int .u32 528734635, Value.int .u32 1541459225] 102)) w.heap.size (tab 8 hF) 102 := Blk.new w (tab 8 hF) 102
  have hbel := (Below.refl w.heap.size w).alloc (Nat.le_refl _) (.cells #[Value.int .u32 1779033703, Value.int .u32 3144134277, Value.int .u32 1013904242, Value.int .u32 2773480762, Value.int .u32 1359893119, Value.int .u32 2600822924, Value.int .u32 528734635, Value.int .u32 1541459225] 102)
  generalize w.alloc _ = w1 at *
  refine region_tail 4 mixed (by kernel_rfl) ?_
  simp only [List.take_succ_cons, List.take_zero, List.drop_succ_cons, List.drop_zero]
  repeat (first | (refine still_load rfl 102 _ rfl 8 101 Tryd.underlying102 sz31 _ _ _ rfl (Blk.drew hb) ?_) | (refine wpStill_step (fun K hK => ?_); go_simp; (try go_bits); refine hK _ ?_; clear hK K))
  refine wpStill_nil ?_
  go_wp2_with fail
  refine (stirAll_any _ _ _ (by simp; omega) (KB.below hK (Below.drew hbel))).mono ?_
  rintro e w2 ⟨rfl, h2⟩
  have hd : w1.drew.heap.size = w1.heap.size := rfl
  have l1 := hb.lt
  have m1 := Blk.below (Blk.drew hb) h2 (by omega)
  have m2 := (Below.drew hbel).trans (h2.mono (by omega))
  clear h2 hd hb hbel
  go_wp2_with (first | (refine wpl_store_u rfl rfl 102 _ _ rfl 8 sz31 _ _ _ _ rfl rfl m1 rfl ?_; intro w3 hu3 j5) | fail)
  have j6 := below_upd m2 hu3 (Nat.le_refl _)
  clear m1 m2 hu3 l1
  obtain ⟨g, HG⟩ : ∃ g, Hid (g = chunks hF (s.extract 0 m) (m / 64)) := ⟨_, rfl⟩
  rw [← HG.out] at j5
  rw [← HG.out]
  have l5 := j5.lt
  have hpl : (padL s.size).length ≤ 100 := by simp [padL]; omega
  have hcat : ¬ (9223372036854775807 < s.size - m + (padL s.size).length) := by omega
  refine region_qtail 8 (Below w3.heap.size w3) mixed (by kernel_rfl) ((Below.refl _ _).drew) ?_
  simp only [List.take_succ_cons, List.take_zero, List.drop_succ_cons, List.drop_zero]
  refine q_load rfl 102 _ rfl 8 101 Tryd.underlying102 sz31 _ _ _ rfl (fun w' h' => Blk.below j5 h' l5) ?_
  repeat (refine q_pure rfl _ (fun w' => by go_simp; rfl) ?_)
  refine q_call rfl 74 #[.int .i64 (s.size : Int)] (fun w' => by go_simp) _ (fun w' h' => calls_below h' (pad_any s.size w' (by omega))) ?_
  repeat (refine q_pure rfl _ (fun w' => by go_simp; rfl) ?_)
  refine wpQuiet_nil ?_
  intro w4 h4
  simp only [Act.put]
  go_wp2_with fail
  have hps : (⟨(padL s.size).toArray⟩ : ByteArray).size = (padL s.size).length := rfl
  refine (stirAll_any g _ _ (by simp; omega) (KB.below (KB.below hK j6) h4)).mono ?_
  rintro e w5 ⟨rfl, h5⟩
  have n1 := Blk.below (Blk.below j5 h4 l5) h5 (by have := h4.size; omega)
  have n2 := (j6.trans (h4.mono j6.size)).trans (h5.mono (by have := h4.size; have := j6.size; omega))
  clear j5 h4 h5 j6
  go_wp2_with (first
    | (refine wpl_store_u rfl rfl 102 _ _ rfl 8 sz31 _ _ _ _ rfl rfl n1 rfl ?_; intro w6 hu6 n3)
    | (refine wpl_load rfl 102 _ rfl 8 101 Tryd.underlying102 sz31 _ _ _ _ rfl n3 (by simp [tab_size]) ?_; rw [tab_all _ _ _ (Nat.zero_add _)])
    | (go_at_call 75; refine (stText_any _ _).mono ?_; rintro e w7 ⟨rfl, h7⟩))
  have n4 := below_upd n2 hu6 (Nat.le_refl _)
  go_ret
  refine ⟨?_, n4.trans (h7.mono n4.size)⟩
  rw [HG.out, em.out]
  rfl
end Go.Proofs.YtfkgfakjhjbidaaDoor.Sm
