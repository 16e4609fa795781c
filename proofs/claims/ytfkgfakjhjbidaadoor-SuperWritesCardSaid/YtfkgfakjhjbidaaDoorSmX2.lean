/-
  Part of the proof of SumTells: the reference's Sum answers the plain sum of its text (texts of at most 10000 bytes).
-/
import Derived.Test.YtfkgfakjhjbidaaDoorSmX1
import Derived.Test.YtfkgfakjhjbidaaDoorSmP1
namespace Go.Proofs.YtfkgfakjhjbidaaDoor.Sm
open Go.RowKit
theorem tab_sub (n m off : Nat) (f : Nat → BitVec 32) (h : off + m ≤ n) : (tab n f).extract off (off + m) = tab m (fun j => f (off + j)) := by
  apply Array.ext_getElem?; intro i
  rw [Array.getElem?_extract, tab_size]
  by_cases hi : i < m
  · rw [if_pos (by omega), tab_get _ _ _ (by omega), tab_get _ _ _ hi]
  · rw [if_neg (by omega), Array.getElem?_eq_none (by rw [tab_size]; omega)]
theorem rK_h : tab 8 (fun j => rK 64 (0 + j)) = tab 8 hF := tab_congr _ _ _ fun j hj => by unfold rK; rw [if_pos (by omega), if_pos (by omega), Nat.zero_add]
theorem rK_k (j : Nat) (h : j < 64) : rK 64 (8 + j) = kF j := by unfold rK; rw [if_neg (by omega), if_pos (by omega)]; congr 1; omega
attribute [local go_sem] I_xor I_and I_or I_addm I_add3 I_add4 I_add5 I_not I_shr3 I_shr10
theorem hex80 : (128 : Int) = ((128 : UInt8).toNat : Int) := rfl
section
variable {ops : Array Oper} {Q : Exit → Act → World → Prop} {a : Act} {w : World} {rest : List Oper} {o : Oper}
/-- An element of a row of eight words. -/
theorem wpl_index8 (hgd : o.guard = none) (x y : Operand) (ho : o.op = .index 102 x y) (f : Nat → BitVec 32) (k : Nat) (hx : a.eval x = .agg (tab 8 f)) (hy : a.eval y = .int .i64 (k : Int)) (hk : k < 8)
    (h : wpList Tryd.prog ops Q rest (a.put o.dst (.int .u32 (I (f k)))) w) : wpList Tryd.prog ops Q (o :: rest) a w := by
  refine wpList_plain hgd fun K hK => ?_
  have hr : (Instr.index 102 (.agg (tab 8 f)) (.int .i64 (k : Int))).run Tryd.prog w = .ok (.int .u32 (I (f k))) w := by
    have hk' : (0 : Int) ≤ (k : Int) ∧ (k : Int) < ((8 : Nat) : Int) := by omega
    have hg := tab_get 8 f k hk
    have u31 := Tryd.underlying102
    have a30 := Tryd.isAgg101 w
    have z30 := Tryd.sizeOf101 w
    simp only [Instr.index, asIntOf, Sem.run_bind, Sem.run_pure, Result.andThen_ok, underlying, run_program, u31, Sem.run_ite, if_pos hk', z30, part, a30]
    simp [hg]
  unfold Oper.wp execOp
  simp only [ho, hx, hy, Sem.run_bind, Sem.run_pure, Result.andThen_ok, hr]
  exact hK _ _ h
end
/-- A word of so many bytes, one behind the other. -/
def pw (b : Nat → Nat) : Nat → BitVec 32
  | 0 => 0
  | q + 1 => pw b q * 256 + BitVec.ofNat 32 (b q)
theorem pw_four (b : Nat → Nat) : pw b 4 = wordN (b 0) (b 1) (b 2) (b 3) := by
  unfold wordN; simp only [pw]
  apply BitVec.eq_of_toNat_eq
  simp [BitVec.toNat_add, BitVec.toNat_mul]
theorem pw_step (x : BitVec 32) (b : Nat) : (I x * 256 % 4294967296 + (b : Int) % 4294967296) % 4294967296 = I (x * 256 + BitVec.ofNat 32 b) := by
  unfold I; simp [BitVec.toNat_add, BitVec.toNat_mul]
theorem pw_step' (x : BitVec 32) (b : Nat) : (I x * 256 + (b : Int)) % 4294967296 = I (x * 256 + BitVec.ofNat 32 b) := by
  unfold I; simp [BitVec.toNat_add, BitVec.toNat_mul]
set_option maxRecDepth 100000 in
set_option maxHeartbeats 4000000 in
theorem rsum_any (rb : Nat) (s : ByteArray) (w : World) (hs : s.size ≤ 10000) (hR : Blk w rb (tab 72 (rK 64)) 105) :
    Calls Tryd.prog 15 #[.pointer (some ⟨rb, 0, none⟩), .string s] w fun e w' => e = .returned (.string (sumS s)) ∧ Below w.heap.size w w' := by
  have hrl := hR.lt
  go_enter Tryd.func15, Tryd.ntmps15
  have g0 := fun (arr : Array Value) => Blk.new w arr 102
  go_wp2_with (first
    | (refine wpl_load rfl 102 _ rfl 8 101 Tryd.underlying102 sz31 _ _ _ _ rfl hR (by rw [tab_size]; decide) ?_; rw [tab_sub _ _ _ _ (by decide), rK_h])
    | (refine wpl_store_u rfl rfl 102 _ _ rfl 8 sz31 _ _ _ _ rfl rfl (g0 _) rfl ?_; intro w1 hu1 hB1)
    | (refine wpl_mbytes rfl _ rfl s rfl ?_; intro cap2 w2 hm2 hb2)
    | (at_builtin; refine wpl_mpush rfl _ _ rfl w1.heap.size _ _ s.data.toList rfl (hm2.below ((Below.refl w2.heap.size w2).alloc (Nat.le_refl _) _)) _ _ 128 rfl (new_cell _ _ _) (by simp; omega) (by have := hb2.size; simp; omega) ?_; intro g3 cap3 w3 hm3 hb3))
  have hbW := (hb2.alloc hb2.size (Obj.cells #[Value.int .u8 128] 5)).trans hb3
  have hs1 : w1.heap.size = w.heap.size + 1 := by have := hu1.size; simpa using this
  have HW1 : Hid (w1.heap.size = w.heap.size + 1) := hs1
  have hbel1 : Below w.heap.size w w1 := below_upd ((Below.refl w.heap.size w).alloc (Nat.le_refl _) _) hu1 (Nat.le_refl _)
  clear hu1 hm2 hb2 hb3 hs1 g0
  obtain ⟨Z, hZ⟩ : ∃ Z, Hid (Z = (119 - s.size % 64) % 64) := ⟨_, rfl⟩
  go_loopw [7] (fun v wr => ∃ (z g cap : Nat) (l : List UInt8), z ≤ Z ∧ v = .slice (some ⟨g, 0, none⟩) l.length cap ∧ Hid (l = s.data.toList ++ 128 :: List.replicate z 0) ∧ MRow wr w1.heap.size g cap l ∧ Below w1.heap.size w1 wr) (fun v _ => 20000 - lenOf v)
  case atStart => exact ⟨0, g3, cap3, s.data.toList ++ [128], by omega, by simp, rfl, hm3, hbW⟩
  case round =>
    clear hm3 hbW
    obtain ⟨z, g, cap, l, hz, rfl, hl, hm, hbW⟩ := hrel
    have hll : Hid (l.length = s.size + 1 + z) := by rw [Hid, hl.out]; simp; omega
    have hl2 : l.length ≤ 11000 := by rw [hll.out]; have := hZ.out; omega
    by_cases hlt : z < Z
    · have t1 : ((l.length : Int) % 64 != 56) = true := by
        rw [bne_iff_ne]; have := hZ.out; have := hll.out; omega
      have hma := fun o => hm.below ((Below.refl wr.heap.size wr).alloc (Nat.le_refl _) o)
      go_wp2_with (at_builtin; refine wpl_mpush rfl _ _ rfl w1.heap.size _ _ l rfl (hma _) _ _ 0 rfl (new_cell _ _ _) (by omega) (by have := hbW.size; simp; omega) ?_; intro g4 cap4 w4 hm4 hb4)
      refine ⟨⟨z + 1, g4, cap4, l ++ [0], by omega, by simp, ?_, hm4, (hbW.alloc hbW.size _).trans hb4⟩, by simp [lenOf]; omega⟩
      rw [Hid, hl.out, List.replicate_succ']; simp
    · have hz' : z = Z := by omega
      subst hz'
      have t1 : ((l.length : Int) % 64 != 56) = false := by
        rw [bne_eq_false_iff_eq]; have := hZ.out; have := hll.out; omega
      go_wp2_with fail
      go_loopw [7, 8] (fun v i wr => ∃ (k g cap : Nat) (l : List UInt8), k ≤ 8 ∧ i = .int .i64 (56 - 8 * (k : Int)) ∧ v = .slice (some ⟨g, 0, none⟩) l.length cap ∧ Hid (l = s.data.toList ++ 128 :: (List.replicate z 0 ++ (List.range k).map (numB (8 * s.size)))) ∧ MRow wr w1.heap.size g cap l ∧ Below w1.heap.size w1 wr) (fun _ i _ => (intOf i + 8).toNat)
      case atStart => exact ⟨0, g, cap, l, by omega, rfl, rfl, by rw [Hid, hl.out]; simp, hm, hbW⟩
      case round =>
        clear hm hbW hl hll hl2 t1
        obtain ⟨k, g, cap, l, hk, rfl, rfl, hl, hm, hbW⟩ := hrel
        have hll : Hid (l.length = s.size + 1 + z + k) := by rw [Hid, hl.out]; simp; omega
        have hl2 : l.length ≤ 11000 := by rw [hll.out]; have := hZ.out; omega
        by_cases hlt : k < 8
        · have hma := fun o => hm.below ((Below.refl wr.heap.size wr).alloc (Nat.le_refl _) o)
          have hnb := numB_eq (8 * s.size) k hlt
          have e1 : ((8 * s.size : Nat) : Int) = (s.size : Int) * 8 := by omega
          rw [e1] at hnb
          have HNB : Hid (((numB (8 * s.size) k).toNat : Int) = (s.size : Int) * 8 / 2 ^ (56 - 8 * k) % 256) := hnb
          clear hnb e1
          have p0 : 0 ≤ 56 - 8 * (k : Int) := by omega
          go_wp2_with (at_builtin; refine wpl_mpush rfl _ _ rfl w1.heap.size _ _ l rfl (hma _) _ _ (numB (8 * s.size) k) rfl (by rw [HNB.out]; exact new_cell _ _ _) (by omega) (by have := hbW.size; simp; omega) ?_; intro g4 cap4 w4 hm4 hb4)
          refine ⟨⟨k + 1, g4, cap4, l ++ [numB (8 * s.size) k], by omega, ?_, by simp, ?_, hm4, (hbW.alloc hbW.size _).trans hb4⟩, by simp [intOf]; omega⟩
          · refine congrArg (Value.int .i64) ?_; omega
          · rw [Hid, hl.out, List.range_succ]; simp
        · have hk' : k = 8 := by omega
          subst hk'
          have e8 : (56 : Int) - 8 * ((8 : Nat) : Int) = -8 := rfl
          rw [e8]
          clear e8
          obtain ⟨M, hM⟩ : ∃ M, Hid (M = msgL s) := ⟨_, rfl⟩
          have hlM : l = M := by rw [hM.out, hl.out, msgL, padL, hZ.out]
          subst hlM
          have hL : Hid (l.length % 64 = 0) := by rw [hM.out]; exact msgL_mod s
          have CM : Hid (∀ (j : Nat) (b : UInt8), l[j]? = some b → wr.cell? ⟨g, j, none⟩ = some (.int .u8 (b.toNat : Int))) := fun j b hj => hm.cell j b hj
          have hgg : g ≠ w.heap.size := by have := hm.ge; have := HW1.out; omega
          have hcl := hm.le
          have hgl := hm.lt
          have hRr : Blk wr rb (tab 72 (rK 64)) 105 := by
            have h1 := HW1.out
            exact Blk.below (Blk.below hR hbel1 hrl) hbW (by omega)
          have hHr : Blk wr w.heap.size (tab 8 (chM l 0)) 102 := by
            have h1 := HW1.out
            exact Blk.below hB1 hbW (by omega)
          have hbr : Below w.heap.size w wr := hbel1.trans (hbW.mono hbel1.size)
          clear hm hbW hl hll hB1 hR hbel1 hZ HW1
          go_wp2_with fail
          go_loopw [7] (fun v wr => ∃ c n capc off : Nat, v = .slice (some ⟨g, off, none⟩) n capc ∧ Hid (0 < n → off = 64 * c) ∧ Hid (n + 64 * c = l.length) ∧ n ≤ capc ∧ n ≤ 11000 ∧ Hid (∀ (j : Nat) (b : UInt8), l[j]? = some b → wr.cell? ⟨g, j, none⟩ = some (.int .u8 (b.toNat : Int))) ∧ g < wr.heap.size ∧
            Blk wr rb (tab 72 (rK 64)) 105 ∧ Blk wr w.heap.size (tab 8 (chM l c)) 102 ∧ Below w.heap.size w wr) (fun v _ => lenOf v)
          case atStart => exact ⟨0, l.length, cap, 0, rfl, fun _ => rfl, by rw [Hid]; omega, hcl, hl2, CM, hgl, hRr, hHr, hbr⟩
          case round =>
            clear CM hgl hRr hHr hbr hcl
            obtain ⟨c, n, capc, off, rfl, hoff, hn, hnc, hn2, CM, hgl, hRr, hHr, hbr⟩ := hrel
            by_cases hlt : 0 < n
            · have hn64 : 64 ≤ n := by have := hn.out; have := hL.out; omega
              have hoff' := hoff.out hlt
              subst hoff'
              clear hoff
              go_wp2_with fail
              obtain ⟨W, hW⟩ : ∃ W, Hid (W = wr) := ⟨_, rfl⟩
              go_loopw [65] (fun i wq => ∃ t : Nat, t ≤ 64 ∧ i = .int .i64 t ∧ Blk wq W.heap.size (tab 64 (upto (sw (mL l c)) t)) 103 ∧ Below W.heap.size W wq) (fun i _ => 64 - (intOf i).toNat)
              case atStart =>
                rw [hW.out]
                exact ⟨0, by omega, rfl, Blk.new wr (tab 64 (upto (sw (mL l c)) 0)) 103, (Below.refl _ _).alloc (Nat.le_refl _) _⟩
              case round =>
                rw [hW.out] at hrel
                obtain ⟨t, ht, rfl, hbw, hbelw⟩ := hrel
                have hc := fun j (hj : j < 64) => hbw.tcell j hj
                have hf := fun j => hbw.frozen j
                by_cases hlt16 : t < 16
                · go_wp2_with fail
                  go_loopw [78] (fun i wz => ∃ q : Nat, q ≤ 4 ∧ i = .int .i64 q ∧ Blk wz W.heap.size (tab 64 (fun j => if j = t then pw (fun q => bL l (64 * c + 4 * t + q)) q else upto (sw (mL l c)) t j)) 103 ∧ Below W.heap.size W wz) (fun i _ => 4 - (intOf i).toNat)
                  case atStart =>
                    rw [hW.out]
                    refine ⟨0, by omega, rfl, ?_, hbelw⟩
                    rw [tab_congr 64 _ (upto (sw (mL l c)) t) (fun j hj => by
                      by_cases e : j = t
                      · subst e; simp [pw, upto]
                      · simp [e])]
                    exact hbw
                  case round =>
                    clear hc hf hbw hbelw
                    rw [hW.out] at hrel
                    obtain ⟨q, hq, rfl, hbz, hbelz⟩ := hrel
                    by_cases hlt4 : q < 4
                    · obtain ⟨b, hb⟩ : ∃ b, l[64 * c + 4 * t + q]? = some b := ⟨l[64 * c + 4 * t + q]'(by have := hn.out; omega), List.getElem?_eq_getElem _⟩
                      have hcb := hbelz.cell (p := ⟨g, 64 * c + 4 * t + q, none⟩) hgl
                      rw [CM.out _ b hb] at hcb
                      have hbb : Hid (bL l (64 * c + 4 * t + q) = b.toNat) := by rw [Hid, bL, List.getD_eq_getElem?_getD, hb]; rfl
                      clear hb
                      obtain ⟨X, hX⟩ : ∃ X, Hid (X = pw (fun q => bL l (64 * c + 4 * t + q)) q) := ⟨_, rfl⟩
                      have hct := hbz.tcell t (by omega)
                      simp only [if_true] at hct
                      rw [← hX.out] at hct
                      have hft := hbz.frozen t
                      go_wp2_with fail
                      rw [hW.out, pw_step' X b.toNat]
                      refine ⟨⟨q + 1, by omega, by go_num, ?_, hbelz.setCell (Nat.le_refl _) _⟩, by simp [intOf]; omega⟩
                      have h3 := hbz.set t (.int .u32 (I (X * 256 + BitVec.ofNat 32 b.toNat)))
                      rw [tab_set, tab_congr 64 _ (fun j => if j = t then pw (fun q => bL l (64 * c + 4 * t + q)) (q + 1) else upto (sw (mL l c)) t j) (fun j hj => by
                        by_cases e : j = t
                        · simp only [e, if_true, pw]; rw [hX.out, hbb.out]
                        · simp [e])] at h3
                      exact h3
                    · have hq4 : q = 4 := by omega
                      subst hq4
                      rw [tab_congr 64 _ (upto (sw (mL l c)) (t + 1)) (fun j hj => by
                        unfold upto
                        by_cases e : j = t
                        · subst e; rw [if_pos rfl, if_pos (by omega), sw_lo _ _ hlt16, pw_four]; rfl
                        · rw [if_neg e]; by_cases e2 : j < t
                          · rw [if_pos e2, if_pos (by omega)]
                          · rw [if_neg e2, if_neg (by omega)])] at hbz
                      go_wp2_with fail
                      rw [hW.out]
                      exact ⟨⟨t + 1, by omega, by go_num, hbz, hbelz⟩, by simp [intOf]; omega⟩
                · by_cases hlt64 : t < 64
                  · obtain ⟨a15, e15⟩ : ∃ a, Hid (a = t - 15) := ⟨_, rfl⟩
                    obtain ⟨a2, e2⟩ : ∃ a, Hid (a = t - 2) := ⟨_, rfl⟩
                    obtain ⟨a16, e16⟩ : ∃ a, Hid (a = t - 16) := ⟨_, rfl⟩
                    obtain ⟨a7, e7⟩ : ∃ a, Hid (a = t - 7) := ⟨_, rfl⟩
                    have q15 : IntKind.i64.wrap ((t : Int) - 15) = (a15 : Int) := by rw [e15.out, IntWalk.i64_in _ (by omega)]; omega
                    have q2 : IntKind.i64.wrap ((t : Int) - 2) = (a2 : Int) := by rw [e2.out, IntWalk.i64_in _ (by omega)]; omega
                    have q16 : IntKind.i64.wrap ((t : Int) - 16) = (a16 : Int) := by rw [e16.out, IntWalk.i64_in _ (by omega)]; omega
                    have q7 : IntKind.i64.wrap ((t : Int) - 7) = (a7 : Int) := by rw [e7.out, IntWalk.i64_in _ (by omega)]; omega
                    have l15 : a15 < 64 := by rw [e15.out]; omega
                    have l2 : a2 < 64 := by rw [e2.out]; omega
                    have l16 : a16 < 64 := by rw [e16.out]; omega
                    have l7 : a7 < 64 := by rw [e7.out]; omega
                    have k15 := hc a15 l15
                    have k2 := hc a2 l2
                    have k16 := hc a16 l16
                    have k7 := hc a7 l7
                    obtain ⟨X15, hX15⟩ : ∃ X, Hid (X = upto (sw (mL l c)) t a15) := ⟨_, rfl⟩
                    obtain ⟨X2, hX2⟩ : ∃ X, Hid (X = upto (sw (mL l c)) t a2) := ⟨_, rfl⟩
                    obtain ⟨X16, hX16⟩ : ∃ X, Hid (X = upto (sw (mL l c)) t a16) := ⟨_, rfl⟩
                    obtain ⟨X7, hX7⟩ : ∃ X, Hid (X = upto (sw (mL l c)) t a7) := ⟨_, rfl⟩
                    rw [← hX15.out] at k15
                    rw [← hX2.out] at k2
                    rw [← hX16.out] at k16
                    rw [← hX7.out] at k7
                    have kt := hc t hlt64
                    have ft := hf t
                    clear hc hf
                    go_wp2_with fail
                    go_quiet (fail)
                    go_wp2_with fail
                    refine region_qtail 33 (fun w' => ∃ n, w' = wr.drewN n) mixed (by kernel_rfl) ⟨nq + 1, by rw [← World.drewN_drewN]; rfl⟩ ?_
                    simp only [List.take_succ_cons, List.take_zero, List.drop_succ_cons, List.drop_zero]
                    repeat (go_big_quiet_step ((go_at_call 76; refine Calls.quiet_of (rrot_any _ _ _ (by omega) (by omega)))))
                    refine wpQuiet_nil ?_
                    rintro w' ⟨n2, rfl⟩
                    go_wp2_with fail
                    rw [hW.out]
                    refine ⟨⟨t + 1, by omega, by go_num, ?_, (below_drewN hbelw n2).setCell (Nat.le_refl _) _⟩, by simp [intOf]; omega⟩
                    have h3 := (hbw.drewN n2).set t (.int .u32 (I ((X2.rotateRight 17 ^^^ X2.rotateRight 19 ^^^ X2 >>> 10) + X7 + (X15.rotateRight 7 ^^^ X15.rotateRight 18 ^^^ X15 >>> 3) + X16)))
                    rw [tab_upto_succ 64 t (sw (mL l c)) _ (by
                      rw [sw_hi _ _ hlt16, hX2.out, hX7.out, hX15.out, hX16.out, e15.out, e2.out, e7.out, e16.out]
                      unfold upto
                      rw [if_pos (by omega), if_pos (by omega), if_pos (by omega), if_pos (by omega)]
                      exact sg_comm _ _ _ _)] at h3
                    exact h3
                  · have ht64 : t = 64 := by omega
                    subst ht64
                    have e64 : ((64 : Nat) : Int) = 64 := rfl
                    rw [e64]
                    clear e64
                    rw [tab_congr 64 (upto (sw (mL l c)) 64) (sw (mL l c)) (fun j hj => by unfold upto; rw [if_pos hj])] at hbw
                    have hHw := Blk.below hHr hbelw hHr.lt
                    have hRw := Blk.below hRr hbelw hRr.lt
                    have c8 := fun j (hj : j < 8) => hHw.tcell j hj
                    have c64 := fun j (hj : j < 64) => hbw.tcell j hj
                    have cR : ∀ j, j < 64 → wr.cell? ⟨rb, 8 + j, none⟩ = some (.int .u32 (I (kF j))) := fun j hj => by rw [hRw.tcell (8 + j) (by omega), rK_k j hj]
                    have CMw : Hid (∀ (j : Nat) (b : UInt8), l[j]? = some b → wr.cell? ⟨g, j, none⟩ = some (.int .u8 (b.toNat : Int))) := fun j b hj => by rw [hbelw.cell hgl]; exact CM.out j b hj
                    have hbrw := hbr.trans (hbelw.mono hbr.size)
                    have hglw := Nat.lt_of_lt_of_le hgl hbelw.size
                    clear hc hf
                    generalize hcm : chM l c = f at *
                    have HCM : Hid (chM l c = f) := hcm
                    clear hcm
                    go_wp2_with fail
                    go_quiet (fail)
                    go_wp2_with fail
                    obtain ⟨V, hV⟩ : ∃ V, Hid (V = wr) := ⟨_, rfl⟩
                    go_loopw [15, 16, 17, 18, 19, 20, 21, 22, 150] (fun a b d' d e f' g' h i wq => ∃ k n : Nat, k ≤ 64 ∧ i = .int .i64 k ∧ Hid (wq = V.drewN n) ∧
                        a = .int .u32 (I ((St.of f).rounds (mL l c) k).a) ∧ b = .int .u32 (I ((St.of f).rounds (mL l c) k).b) ∧ d' = .int .u32 (I ((St.of f).rounds (mL l c) k).c) ∧ d = .int .u32 (I ((St.of f).rounds (mL l c) k).d) ∧
                        e = .int .u32 (I ((St.of f).rounds (mL l c) k).e) ∧ f' = .int .u32 (I ((St.of f).rounds (mL l c) k).f) ∧ g' = .int .u32 (I ((St.of f).rounds (mL l c) k).g) ∧ h = .int .u32 (I ((St.of f).rounds (mL l c) k).h)) (fun _ _ _ _ _ _ _ _ i _ => 64 - (intOf i).toNat)
                    case atStart => exact ⟨0, nq, by omega, rfl, by rw [Hid, hV.out], rfl, rfl, rfl, rfl, rfl, rfl, rfl, rfl⟩
                    case round =>
                      obtain ⟨k, nk, hk64, rfl, hwq, rfl, rfl, rfl, rfl, rfl, rfl, rfl, rfl⟩ := hrel
                      rw [hV.out] at hwq
                      subst hwq
                      by_cases hltk : k < 64
                      · have HS : Hid ((St.of f).rounds (mL l c) (k + 1) = ((St.of f).rounds (mL l c) k).step (kF k) (sw (mL l c) k)) := rfl
                        generalize (St.of f).rounds (mL l c) k = S at *
                        have cRk := cR k hltk
                        have c64k := c64 k hltk
                        have dk : (k : Int) < 64 := by omega
                        clear c8 cR c64
                        go_wp2_with fail
                        refine region_q (fun w' => ∃ n, w' = wr.drewN n) mixed (by kernel_rfl) ⟨nk + 1, by rw [← World.drewN_drewN]; rfl⟩ ?_
                        repeat (go_big_quiet_step ((go_at_call 76; refine Calls.quiet_of (rrot_any _ _ _ (by omega) (by omega)))))
                        refine wpQuiet_nil ?_
                        rintro w' ⟨n5, rfl⟩
                        go_wp2_with (go_at_call 76; refine (rrot_any _ _ _ (by omega) (by omega)).mono ?_; rintro e w' ⟨rfl, n6, rfl⟩)
                        go_roundw
                        case rel =>
                          refine ⟨k + 1, _, by omega, by go_num, by rw [Hid, hV.out], ?_⟩
                          rw [HS.out]
                          refine ⟨?_, rfl, rfl, rfl, ?_, rfl, rfl, rfl⟩
                          · rw [I_addm, ch_eq, maj_eq, ← BitVec.add_assoc]; rfl
                          · rw [I_addm, ch_eq]; rfl
                        case measure => simp [intOf]; omega
                      · have hk' : k = 64 := by omega
                        subst hk'
                        have e64 : ((64 : Nat) : Int) = 64 := rfl
                        rw [e64]
                        clear e64
                        have HF : Hid (stirF f (mL l c) = fun j => f j + ((St.of f).rounds (mL l c) 64).at j) := rfl
                        generalize (St.of f).rounds (mL l c) 64 = S at *
                        have htb : (#[Value.int .u32 (I S.a), Value.int .u32 (I S.b), Value.int .u32 (I S.c), Value.int .u32 (I S.d), Value.int .u32 (I S.e), Value.int .u32 (I S.f), Value.int .u32 (I S.g), Value.int .u32 (I S.h)] : Array Value) = tab 8 S.at := rfl
                        have HT : Hid ((#[Value.int .u32 (I S.a), Value.int .u32 (I S.b), Value.int .u32 (I S.c), Value.int .u32 (I S.d), Value.int .u32 (I S.e), Value.int .u32 (I S.f), Value.int .u32 (I S.g), Value.int .u32 (I S.h)] : Array Value) = tab 8 S.at) := htb
                        clear htb c8 cR c64
                        go_wp2_with fail
                        rw [HT.out]
                        go_loopw [228] (fun i wz => ∃ j : Nat, j ≤ 8 ∧ i = .int .i64 j ∧ Blk wz w.heap.size (tab 8 (fun q => if q < j then f q + S.at q else f q)) 102 ∧ Hid (∀ b, b ≠ w.heap.size → wz.heap[b]? = V.heap[b]?) ∧ wz.heap.size = V.heap.size ∧ Below w.heap.size w wz) (fun i _ => 8 - (intOf i).toNat)
                        case atStart => exact ⟨0, by omega, rfl, by rw [tab_congr 8 _ f (fun j _ => by simp)]; exact hHw.drewN nk, fun b _ => by rw [hV.out]; rfl, by rw [hV.out]; rfl, below_drewN hbrw nk⟩
                        case round =>
                          obtain ⟨j, hj, rfl, hbz, hOz, hsz, hbelz⟩ := hrel
                          by_cases hltj : j < 8
                          · have cj := hbz.tcell j hltj
                            simp only [Nat.lt_irrefl, if_false] at cj
                            have fj := hbz.frozen j
                            have dj : (j : Int) < 8 := by omega
                            go_wp2_with (refine wpl_index8 rfl _ _ rfl S.at j rfl rfl hltj ?_)
                            refine ⟨⟨j + 1, by omega, by go_num, ?_, ?_, ?_, hbelz.setCell (Nat.le_refl _) _⟩, by simp [intOf]; omega⟩
                            · have h3 := hbz.set j (.int .u32 (I (f j + S.at j)))
                              rw [tab_set, tab_congr 8 _ (fun q => if q < j + 1 then f q + S.at q else f q) (fun q hq => by
                                by_cases e : q = j
                                · subst e; simp
                                · simp [e]; congr 1; apply propext; omega)] at h3
                              exact h3
                            · intro b hb; rw [(setCell_upd _ w.heap.size j _).block b hb]; exact hOz.out b hb
                            · rw [(setCell_upd _ w.heap.size j _).size]; exact hsz
                          · have hj8 : j = 8 := by omega
                            subst hj8
                            have e8 : ((8 : Nat) : Int) = 8 := rfl
                            rw [e8]
                            clear e8
                            have hH2 : Blk wr w.heap.size (tab 8 (chM l (c + 1))) 102 := by
                              rw [tab_congr 8 (chM l (c + 1)) (fun q => if q < 8 then f q + S.at q else f q) (fun q hq => by
                                show stirF (chM l c) (mL l c) q = _
                                rw [HCM.out, HF.out, if_pos hq])]
                              exact hbz
                            have hC2 : Hid (∀ (j : Nat) (b : UInt8), l[j]? = some b → wr.cell? ⟨g, j, none⟩ = some (.int .u8 (b.toNat : Int))) := fun j b hjb => by
                              rw [World.cell?_of_block (a := ⟨g, j, none⟩) (hOz.out g hgg), hV.out]; exact CMw.out j b hjb
                            have hR2 : Blk wr rb (tab 72 (rK 64)) 105 := by
                              unfold Blk; rw [hOz.out rb (by omega), hV.out]; exact hRw
                            have hg2 : g < wr.heap.size := by rw [hsz, hV.out]; exact hglw
                            have hn6 : (64 : Int) ≤ (n : Int) := by omega
                            clear CM CMw hgl hglw hRr hRw hHr hHw hbr hbrw hbz hOz hsz hbw hbelw HF HT HCM
                            by_cases hcap : capc = 64
                            · subst hcap
                              go_wp2_with fail
                              exact ⟨⟨c + 1, 0, 0, 64 * c, rfl, fun h => by omega, by rw [Hid]; have := hn.out; omega, by omega, by omega, hC2, hg2, hR2, hH2, hbelz⟩, by simp [lenOf]; omega⟩
                            · go_wp2_with fail
                              exact ⟨⟨c + 1, n - 64, capc - 64, 64 * c + 64, rfl, fun h => by omega, by rw [Hid]; have := hn.out; omega, by omega, by omega, hC2, hg2, hR2, hH2, hbelz⟩, by simp [lenOf]; omega⟩
            · have hn0 : n = 0 := by omega
              subst hn0
              have hcc : Hid (c = l.length / 64) := by rw [Hid]; have := hn.out; omega
              obtain ⟨f, hf8⟩ : ∃ f, Hid (chM l c = f) := ⟨_, rfl⟩
              rw [hf8.out] at hHr
              go_wp2_with (refine wpl_load rfl 102 _ rfl 8 101 Tryd.underlying102 sz31 _ _ _ _ rfl hHr (by simp [tab_size]) ?_; rw [tab_all _ _ _ (Nat.zero_add _)])
              go_loopw [28, 240] (fun o i wz => ∃ j : Nat, j ≤ 8 ∧ i = .int .i64 j ∧ o = .string (sb (4 * j) (stB f)) ∧ Below w.heap.size w wz) (fun _ i _ => 8 - (intOf i).toNat)
              case atStart => exact ⟨0, by omega, rfl, rfl, hbr⟩
              case round =>
                obtain ⟨j, hj, rfl, rfl, hbz⟩ := hrel
                by_cases hlj : j < 8
                · have hss := sb_size (4 * j) (stB f)
                  have HSB : Hid ((sb (4 * (j + 1)) (stB f)) = sb (4 * j) (stB f) ++ ⟨#[stB f (4 * j), stB f (4 * j + 1), stB f (4 * j + 2), stB f (4 * j + 3)]⟩) := by
                    rw [Hid]; apply ba_ext
                    rw [show 4 * (j + 1) = 4 * j + 1 + 1 + 1 + 1 from by omega]
                    simp [sb, List.range_succ]
                  have hx : Hid ((#[Value.int .u8 (I (f j) / 16777216 % 256), Value.int .u8 (I (f j) / 65536 % 256), Value.int .u8 (I (f j) / 256 % 256), Value.int .u8 (I (f j) % 256)] : Array Value).extract 0 (0 + 4) = (Lib.byteCells [stB f (4 * j), stB f (4 * j + 1), stB f (4 * j + 2), stB f (4 * j + 3)]).toArray) := by
                    have s0 := stB_eq f (4 * j)
                    have s1 := stB_eq f (4 * j + 1)
                    have s2 := stB_eq f (4 * j + 2)
                    have s3 := stB_eq f (4 * j + 3)
                    rw [show 4 * j / 4 = j from by omega, show 4 * j % 4 = 0 from by omega] at s0
                    rw [show (4 * j + 1) / 4 = j from by omega, show (4 * j + 1) % 4 = 1 from by omega] at s1
                    rw [show (4 * j + 2) / 4 = j from by omega, show (4 * j + 2) % 4 = 2 from by omega] at s2
                    rw [show (4 * j + 3) / 4 = j from by omega, show (4 * j + 3) % 4 = 3 from by omega] at s3
                    simp only [Lib.byteCells, List.map_cons, List.map_nil, s0, s1, s2, s3, Hid]
                    simp
                  go_wp2_with (first
                    | (refine wpl_index8 rfl _ _ rfl f j rfl rfl hlj ?_)
                    | (refine wpl_string rfl 112 9 5 _ rfl Tryd.underlying112 Tryd.underlying5 Tryd.underlying9 _ _ _ _ _ _ rfl (Blk.new _ _ 5) (by simp) _ hx.out ?_))
                  refine ⟨⟨j + 1, by omega, by go_num, ?_, hbz.alloc hbz.size _⟩, by simp [intOf]; omega⟩
                  rw [HSB.out]
                · have hj8 : j = 8 := by omega
                  subst hj8
                  go_wp2
                  go_ret
                  refine ⟨?_, hbz⟩
                  rw [sumS_eq, ← hM.out, ← hcc.out, hf8.out]
                  rfl
end Go.Proofs.YtfkgfakjhjbidaaDoor.Sm
