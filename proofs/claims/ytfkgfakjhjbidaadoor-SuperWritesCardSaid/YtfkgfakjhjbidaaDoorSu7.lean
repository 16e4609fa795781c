/-
  Part of the proof: the reference's SuperParse is walked.
-/
import Derived.Test.YtfkgfakjhjbidaaDoorSu5
import Derived.Test.YtfkgfakjhjbidaaDoorSu6
namespace Go.Proofs.YtfkgfakjhjbidaaDoor.Su
open Go.RowKit Pg
set_option maxRecDepth 100000 in
set_option maxHeartbeats 2000000 in
theorem rparse_short (rb : Nat) (key s : ByteArray) (w : World) (h : key.size = 32 → s.size < 82) :
    Calls Tryd.prog 69 #[.pointer (some ⟨rb, 0, none⟩), .string key, .string s] w fun e w' => e = .returned (.tuple #[.agg sup0, .int .i64 (if key.size = 32 then 15 else 1)]) ∧ Below w.heap.size w w' := by
  have z93 := zero93
  have hb := build0
  have hn := sup0_size
  have h1 := sup0_one
  obtain ⟨V, hV⟩ : ∃ V, Hid (sup0 = V) := ⟨_, rfl⟩
  rw [hV.out] at hn h1
  simp only [hV.out] at z93 hb
  rw [hV.out]
  have j0 := Blk.new w V 93
  have g0 := below_alloc w (.cells V 93)
  by_cases c1 : key.size = 32
  · have c1' : (key.size : Int) = 32 := by omega
    have c2 := h c1
    have c2' : (s.size : Int) < 82 := by omega
    rw [if_pos c1]
    go_enter Tryd.func69, Tryd.ntmps69
    go_wp2_with (refine wpl_storeV rfl rfl 93 _ _ rfl 35 sz93 w.heap.size V 93 V h1 rfl rfl j0 hn hn ?_; intro w1 hu1 j1)
    exact ret_cellV2 6 7 93 rfl Tryd.isAgg93 35 sz93 w.heap.size V 93 hn _ rfl rfl j1 rfl ⟨rfl, below_upd g0 hu1 (Nat.le_refl _)⟩
  · have c1' : ¬ ((key.size : Int) = 32) := by omega
    rw [if_neg c1]
    go_enter Tryd.func69, Tryd.ntmps69
    go_wp2_with (refine wpl_storeV rfl rfl 93 _ _ rfl 35 sz93 w.heap.size V 93 V h1 rfl rfl j0 hn hn ?_; intro w1 hu1 j1)
    exact ret_cellV2 6 7 93 rfl Tryd.isAgg93 35 sz93 w.heap.size V 93 hn _ rfl rfl j1 rfl ⟨rfl, below_upd g0 hu1 (Nat.le_refl _)⟩
set_option maxRecDepth 100000 in
set_option maxHeartbeats 2000000 in
theorem rparse_long (rb : Nat) (key s : ByteArray) (w : World) (hk : key.size = 32) (h82 : 82 ≤ s.size) (hs : s.size ≤ 10000) (hR : RB w rb) (X : Array Value) (Y : Int)
    (hg : okP key s = true → X = supA (fC s) (fE s) (fF s) (fR s) ∧ Y = 0) (hf : okP key s = false → X = sup0 ∧ Y = 15) :
    Calls Tryd.prog 69 #[.pointer (some ⟨rb, 0, none⟩), .string key, .string s] w fun e w' => e = .returned (.tuple #[.agg X, .int .i64 Y]) ∧ Below w.heap.size w w' := by
  have HG : Hid (okP key s = true → X = supA (fC s) (fE s) (fF s) (fR s) ∧ Y = 0) := hg
  have HB : Hid (okP key s = false → X = sup0 ∧ Y = 15) := hf
  clear hg hf
  have z93 := zero93
  have hb := build0
  have zn := sup0_size
  have z1 := sup0_one
  obtain ⟨Z, hZ⟩ : ∃ Z, Hid (sup0 = Z) := ⟨_, rfl⟩
  rw [hZ.out] at zn z1
  simp only [hZ.out] at z93 hb
  have k1 : (key.size : Int) = 32 := by omega
  have k2 : ¬ ((s.size : Int) < 82) := by omega
  have x1 : (s.extract 2 s.size).size = s.size - 2 := by rw [ByteArray.size_extract]; omega
  have x2 : (s.extract 10 s.size).size = s.size - 10 := by rw [ByteArray.size_extract]; omega
  have eC : Hid (verN (s.extract 2 s.size) = fC s) := verN_cut s 2 10 rfl (by omega)
  have eE : Hid (verN (s.extract 10 s.size) = fE s) := verN_cut s 10 18 rfl (by omega)
  have j0 := Blk.new w Z 93
  have g0 := below_alloc w (.cells Z 93)
  have hn3 := supA_size (fC s) (fE s) (fun _ => false) (fR s)
  have h13 := supA_one (fC s) (fE s) (fun _ => false) (fR s)
  obtain ⟨V, hV⟩ : ∃ V, Hid (supA (fC s) (fE s) (fun _ => false) (fR s) = V) := ⟨_, rfl⟩
  rw [hV.out] at hn3 h13
  go_enter Tryd.func69, Tryd.ntmps69
  go_wp2_with fail
  generalize hw1 : w.alloc (.cells Z 93) = w1 at *
  have HL : Hid (w.heap.size < w1.heap.size) := by unfold Hid; rw [← hw1]; simp
  clear hw1
  refine Code.wp_mono (Q := fun ex a' w' => ex = .normal ∧ a' = ⟨#[.pointer (some ⟨rb, 0, none⟩), .string key, .string s, undef, undef, undef, .pointer (some ⟨w.heap.size, 0, none⟩), .int .i64 0, .pointer (some ⟨w1.heap.size, 0, none⟩), undef, undef, undef, .string key, .int .i64 32, .bool false, undef, .string s, .int .i64 s.size, .bool false, undef, .string s, .string (s.extract 2 s.size), .int .i64 (fC s), .string s, .string (s.extract 10 s.size), .int .i64 (fE s), .string s, .string (s.extract 50 66), .agg V, undef, undef, undef, undef, undef, undef, undef, undef, undef, undef, undef, undef, undef, undef, undef, undef, undef, undef, undef, undef, undef, undef, undef, undef, undef, undef, undef, undef, undef, undef, undef, undef, undef], []⟩ ∧ Blk w' w1.heap.size V 93 ∧ Below w1.heap.size w1 w') ?_ ?_
  rotate_left
  · refine regS_in 11 (fun _ => True) mixed rfl ?_
    refine regS_take 0 20 (.string s) rfl rfl (by kernel_rfl) (fun _ _ _ h => by cases h.1) rfl (fun w _ => by go_simp) trivial ?_
    refine regS_take 1 21 (.string (s.extract 2 s.size)) rfl rfl (by kernel_rfl) (fun _ _ _ h => by cases h.1) rfl (fun w _ => by go_simp; intro h; exfalso; omega) trivial ?_
    refine regS_take 3 23 (.string s) rfl rfl (by kernel_rfl) (fun _ _ _ h => by cases h.1) rfl (fun w _ => by go_simp) trivial ?_
    refine regS_take 4 24 (.string (s.extract 10 s.size)) rfl rfl (by kernel_rfl) (fun _ _ _ h => by cases h.1) rfl (fun w _ => by go_simp; intro h; exfalso; omega) trivial ?_
    refine regS_take 6 26 (.string s) rfl rfl (by kernel_rfl) (fun _ _ _ h => by cases h.1) rfl (fun w _ => by go_simp) trivial ?_
    refine regS_take 7 27 (.string (s.extract 50 66)) rfl rfl (by kernel_rfl) (fun _ _ _ h => by cases h.1) rfl (fun w _ => by go_simp; intro h; exfalso; omega) trivial ?_
    simp only [Act.put, List.setIfInBounds_toArray, List.set_cons_succ, List.set_cons_zero]
    refine regS_two 2 9 rfl rfl (by kernel_rfl) rfl rfl (fun K hK' => ?_) (fun K hK' => ?_)
    · go_wp2_with fail
      refine (number_any _ _ (by omega) (by omega)).mono ?_
      rintro e' w2 ⟨rfl, rfl⟩
      refine hK' _ _ trivial ?_
      clear hK' K
      rw [eC.out]
      refine regS_two 5 9 rfl rfl (by kernel_rfl) rfl rfl (fun K hK' => ?_) (fun K hK' => ?_)
      · go_wp2_with fail
        refine (number_any _ _ (by omega) (by omega)).mono ?_
        rintro e' w2 ⟨rfl, rfl⟩
        refine hK' _ _ trivial ?_
        clear hK' K
        rw [eE.out]
        refine regS_take 8 28 (.agg V) rfl rfl (by kernel_rfl) (fun _ _ _ h => by cases h.1) rfl (fun w _ => exec_build 93 #[(0, .tmp 22), (1, .tmp 25), (3, .tmp 27)] rfl _ #[(0, .int .i64 (fC s)), (1, .int .i64 (fE s)), (3, .string (fR s))] (by kernel_rfl) (by rw [← hV.out]; exact build3 (fC s) (fE s) (fR s) w)) trivial ?_
        simp only [Act.put, List.setIfInBounds_toArray, List.set_cons_succ, List.set_cons_zero]
        refine regS_one 9 rfl (by kernel_rfl) rfl (fun K hK' => ?_)
        go_wp2_with fail
        refine hK' _ _ trivial ?_
        clear hK' K
        refine regS_last 10 rfl (by kernel_rfl) rfl (fun K hK' => ?_)
        refine op_storeV rfl 93 (.tmp 8) (.tmp 28) rfl 35 sz93 w1.heap.size Z 93 V h13 rfl rfl (Blk.new w1 Z 93).drew zn hn3 ?_
        intro w4 hu4 j4
        exact hK' _ _ trivial ⟨rfl, rfl, j4, below_upd (below_drewN (below_alloc w1 (.cells Z 93)) 1) hu4 (Nat.le_refl _)⟩
      · go_wp2_with fail
        refine hK' _ _ trivial ?_
        clear hK' K
        refine regS_one 5 rfl (by kernel_rfl) rfl (fun K hK' => ?_)
        go_wp2_with fail
        refine (number_any _ _ (by omega) (by omega)).mono ?_
        rintro e' w2 ⟨rfl, rfl⟩
        refine hK' _ _ trivial ?_
        clear hK' K
        rw [eE.out]
        refine regS_take 8 28 (.agg V) rfl rfl (by kernel_rfl) (fun _ _ _ h => by cases h.1) rfl (fun w _ => exec_build 93 #[(0, .tmp 22), (1, .tmp 25), (3, .tmp 27)] rfl _ #[(0, .int .i64 (fC s)), (1, .int .i64 (fE s)), (3, .string (fR s))] (by kernel_rfl) (by rw [← hV.out]; exact build3 (fC s) (fE s) (fR s) w)) trivial ?_
        simp only [Act.put, List.setIfInBounds_toArray, List.set_cons_succ, List.set_cons_zero]
        refine regS_last 10 rfl (by kernel_rfl) rfl (fun K hK' => ?_)
        refine op_storeV rfl 93 (.tmp 8) (.tmp 28) rfl 35 sz93 w1.heap.size Z 93 V h13 rfl rfl (Blk.new w1 Z 93).drew zn hn3 ?_
        intro w4 hu4 j4
        exact hK' _ _ trivial ⟨rfl, rfl, j4, below_upd (below_drewN (below_alloc w1 (.cells Z 93)) 1) hu4 (Nat.le_refl _)⟩
    · go_wp2_with fail
      refine hK' _ _ trivial ?_
      clear hK' K
      refine regS_one 2 rfl (by kernel_rfl) rfl (fun K hK' => ?_)
      go_wp2_with fail
      refine (number_any _ _ (by omega) (by omega)).mono ?_
      rintro e' w2 ⟨rfl, rfl⟩
      refine hK' _ _ trivial ?_
      clear hK' K
      rw [eC.out]
      refine regS_one 5 rfl (by kernel_rfl) rfl (fun K hK' => ?_)
      go_wp2_with fail
      refine (number_any _ _ (by omega) (by omega)).mono ?_
      rintro e' w2 ⟨rfl, rfl⟩
      refine hK' _ _ trivial ?_
      clear hK' K
      rw [eE.out]
      refine regS_take 8 28 (.agg V) rfl rfl (by kernel_rfl) (fun _ _ _ h => by cases h.1) rfl (fun w _ => exec_build 93 #[(0, .tmp 22), (1, .tmp 25), (3, .tmp 27)] rfl _ #[(0, .int .i64 (fC s)), (1, .int .i64 (fE s)), (3, .string (fR s))] (by kernel_rfl) (by rw [← hV.out]; exact build3 (fC s) (fE s) (fR s) w)) trivial ?_
      simp only [Act.put, List.setIfInBounds_toArray, List.set_cons_succ, List.set_cons_zero]
      refine regS_last 10 rfl (by kernel_rfl) rfl (fun K hK' => ?_)
      refine op_storeV rfl 93 (.tmp 8) (.tmp 28) rfl 35 sz93 w1.heap.size Z 93 V h13 rfl rfl (Blk.new w1 Z 93).drew zn hn3 ?_
      intro w4 hu4 j4
      exact hK' _ _ trivial ⟨rfl, rfl, j4, below_upd (below_drewN (below_alloc w1 (.cells Z 93)) 1) hu4 (Nat.le_refl _)⟩
  rintro _ _ w4 ⟨rfl, rfl, i4, g4⟩
  have j4 := j0.below g4 HL.out
  have b4 := g0.trans (g4.mono g0.size)
  have i4' : Blk w4 w1.heap.size (supA (fC s) (fE s) (sideTo s 18 0) (fR s)) 93 := by
    rw [← hV.out] at i4; exact i4
  have HN : Hid (w.heap.size ≠ w1.heap.size) := by have := HL.out; unfold Hid; omega
  have HN' : Hid (w.heap.size ≤ w1.heap.size) := by have := HL.out; unfold Hid; omega
  have HR : Hid (RB w rb) := hR
  have HZ : Hid (82 ≤ s.size ∧ s.size ≤ 10000 ∧ key.size = 32) := ⟨h82, hs, hk⟩
  clear g4 g0 j0 HL eC eE x1 x2 i4 hR hn3 h13 hk h82
  go_wp2_with fail
  go_loopw [29] (fun i wr => ∃ k : Nat, k ≤ 32 ∧ i = .int .i64 k ∧ Blk wr w1.heap.size (supA (fC s) (fE s) (sideTo s 18 k) (fR s)) 93 ∧ Blk wr w.heap.size Z 93 ∧ Below w.heap.size w wr) (fun i _ => 32 - (intOf i).toNat)
  case atStart => exact ⟨0, by omega, rfl, i4', j4, b4⟩
  case round =>
    clear i4' j4 b4
    obtain ⟨k, hk, rfl, ik, jk, bk⟩ := hrel
    by_cases hlt : k < 32
    · obtain ⟨m, hm⟩ : ∃ m, Hid (m = 18 + k) := ⟨_, rfl⟩
      have hms : m < s.size := by have := HZ.out.1; have := hm.out; omega
      have hbe := bt_eq s m hms
      have hix : (18 : Int) + (k : Int) = (m : Int) := by have := hm.out; omega
      go_wp2_with (refine wpl_putB rfl rfl 4 _ _ rfl sz4 w1.heap.size (2 + k) _ _ _ rfl rfl ik (by rw [supA_size]; omega) ?_; intro w5 hu5 i5)
      have ev : ((bt s m : Int) == 49) = sideF s 18 k := by unfold sideF; rw [hm.out, Bool.eq_iff_iff, beq_iff_eq, beq_iff_eq]; omega
      have i6 : Blk w5 w1.heap.size (supA (fC s) (fE s) (sideTo s 18 (k + 1)) (fR s)) 93 := by
        rw [ev, supA_put _ _ _ _ _ hlt] at i5
        unfold supA at i5 ⊢
        rw [← sideTo_set]; exact i5
      exact ⟨⟨k + 1, by omega, by go_num, i6, jk.upd hu5 HN.out, below_upd bk hu5 HN'.out⟩, by simp [intOf]; omega⟩
    · have hk' : k = 32 := by omega
      subst hk'
      obtain ⟨h82, hs2, hk⟩ := HZ.out
      have i6 : Blk wr w1.heap.size (supA (fC s) (fE s) (fF s) (fR s)) 93 := by
        rw [← supA_congr _ _ (sideTo s 18 32) _ _ (fun j hj => by unfold sideTo; rw [if_pos hj, side_cut s (by omega) j hj])]
        exact ik
      have HW := fun (w0 : World) (r0 : RB w0 rb) => rwrite_any rb key (fC s) (fE s) (fF s) (fR s) w0 r0
      have un := supA_size (fC s) (fE s) (fF s) (fR s)
      have u1 := supA_one (fC s) (fE s) (fF s) (fR s)
      have hO := okP_eq key s h82
      obtain ⟨U, hU⟩ : ∃ U, Hid (supA (fC s) (fE s) (fF s) (fR s) = U) := ⟨_, rfl⟩
      rw [hU.out] at i6 un u1
      simp only [hU.out] at HW
      have Rr : RB wr rb := RB.below HR.out bk
      clear ik hV HN HN' HZ
      go_wp2_with (first
        | (refine wpl_loadV rfl 93 _ rfl Tryd.isAgg93 35 sz93 w1.heap.size 0 U 93 rfl i6 (by omega) ?_; rw [ext_all un])
        | fail)
      refine (HW _ Rr).mono ?_
      rintro e' w5 ⟨rfl, g5⟩
      have bw := bk.trans (g5.mono bk.size)
      have jw := jk.below g5 jk.lt
      have iw := i6.below g5 i6.lt
      clear g5 bk jk i6 HW Rr HR
      obtain ⟨n, hn⟩ : ∃ n, Hid (n = s.size - 82) := ⟨_, rfl⟩
      have hnI : (s.size : Int) - 82 = (n : Int) := by have := hn.out; omega
      have hn1 : n ≤ 10000 := by have := hn.out; omega
      rw [← hn.out] at hO
      cases ho : okW key (fC s) (fE s) (fR s) with
      | false =>
        obtain ⟨hX, hY⟩ := HB.out (by rw [hO, ho]; rfl)
        rw [hZ.out] at hX
        have hT : wrT key (fC s) (fE s) (fF s) (fR s) = ⟨#[]⟩ := by unfold wrT; rw [ho]; rfl
        have hC : wrC key (fC s) (fE s) (fR s) = 1 := by unfold wrC; rw [ho]; rfl
        rw [hT, hC]
        clear HG HB hT hC hO
        go_wp2_with (refine wpl_storeV rfl rfl 93 _ _ rfl 35 sz93 w.heap.size Z 93 Z z1 rfl rfl jw zn zn ?_; intro w6 hu6 j6)
        exact ret_cellV2 6 7 93 rfl Tryd.isAgg93 35 sz93 w.heap.size Z 93 zn _ rfl rfl j6 rfl ⟨by rw [hX, hY]; rfl, below_upd bw hu6 (Nat.le_refl _)⟩
      | true =>
        have hT : wrT key (fC s) (fE s) (fF s) (fR s) = allT key (fC s) (fE s) (fF s) (fR s) := by unfold wrT; rw [ho]; rfl
        have hC : wrC key (fC s) (fE s) (fR s) = 0 := by unfold wrC; rw [ho]; rfl
        have hz : (allT key (fC s) (fE s) (fF s) (fR s)).size = 82 := by rw [allT_size, (okW_parts ho).2.2.2]
        rw [hT, hC]
        rw [ho, Bool.true_and] at hO
        clear hT hC
        generalize allT key (fC s) (fE s) (fF s) (fR s) = A at *
        have zz := zs_size n
        cases c1 : (s.toList == (A ++ zs n).toList) with
        | false =>
          obtain ⟨hX, hY⟩ := HB.out (by rw [hO, c1])
          rw [hZ.out] at hX
          clear HG HB hO
          go_wp2_with fail
          refine (zeros_any n _ _ rfl hn1).mono ?_
          rintro e' w7 ⟨rfl, g7⟩
          have bw' := bw.trans (g7.mono bw.size)
          have jw' := jw.below g7 jw.lt
          have iw' := iw.below g7 iw.lt
          clear bw jw iw g7 hnI
          go_wp2_with (refine wpl_storeV rfl rfl 93 _ _ rfl 35 sz93 w.heap.size Z 93 Z z1 rfl rfl jw' zn zn ?_; intro w6 hu6 j6)
          exact ret_cellV2 6 7 93 rfl Tryd.isAgg93 35 sz93 w.heap.size Z 93 zn _ rfl rfl j6 rfl ⟨by rw [hX, hY]; rfl, below_upd bw' hu6 (Nat.le_refl _)⟩
        | true =>
          obtain ⟨hX, hY⟩ := HG.out (by rw [hO, c1])
          rw [hU.out] at hX
          clear HG HB hO
          go_wp2_with fail
          refine (zeros_any n _ _ rfl hn1).mono ?_
          rintro e' w7 ⟨rfl, g7⟩
          have bw' := bw.trans (g7.mono bw.size)
          have jw' := jw.below g7 jw.lt
          have iw' := iw.below g7 iw.lt
          clear bw jw iw g7 hnI
          go_wp2_with (first
            | (refine wpl_storeV rfl rfl 93 _ _ rfl 35 sz93 w.heap.size Z 93 U u1 rfl rfl jw' zn un ?_; intro w6 hu6 j6)
            | (refine wpl_loadV rfl 93 _ rfl Tryd.isAgg93 35 sz93 w1.heap.size 0 U 93 rfl iw' (by omega) ?_; rw [ext_all un])
            | fail)
          exact ret_cellV2 6 7 93 rfl Tryd.isAgg93 35 sz93 w.heap.size U 93 un _ rfl rfl j6 rfl ⟨by rw [hX, hY]; rfl, below_upd bw' hu6 (Nat.le_refl _)⟩
theorem rparse_any (rb : Nat) (key s : ByteArray) (w : World) (hs : s.size ≤ 10000) (hR : RB w rb) :
    Calls Tryd.prog 69 #[.pointer (some ⟨rb, 0, none⟩), .string key, .string s] w fun e w' => e = .returned (.tuple #[.agg (parV key s), .int .i64 (parC key s)]) ∧ Below w.heap.size w w' := by
  by_cases c1 : key.size = 32
  · by_cases c2 : s.size < 82
    · have := rparse_short rb key s w (fun _ => c2)
      unfold parV parC
      simpa [c1, c2] using this
    · refine rparse_long rb key s w c1 (by omega) hs hR _ _ (fun h => ?_) (fun h => ?_)
      · unfold parV parC; simp [c1, c2, h]
      · unfold parV parC; simp [c1, c2, h]
  · have := rparse_short rb key s w (fun h => absurd h c1)
    unfold parV parC
    simpa [c1] using this
end Go.Proofs.YtfkgfakjhjbidaaDoor.Su
