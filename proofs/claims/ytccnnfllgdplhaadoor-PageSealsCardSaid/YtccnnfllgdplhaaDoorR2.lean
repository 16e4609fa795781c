/-
  Part of the proof: the reference's quarter round over a slice is walked.
-/
import Derived.Test.YtccnnfllgdplhaaDoorS3
import Derived.Test.YtccnnfllgdplhaaDoorR1
namespace Go.Proofs.YtccnnfllgdplhaaDoor
open Go.RowKit
theorem left_nat (x n : Nat) (hx : x < 4294967296) (h0 : 1 ≤ n) (h1 : n ≤ 31) : (x * 2 ^ n ||| x * 2 ^ n / 4294967296) % 4294967296 = (BitVec.rotateLeft (BitVec.ofNat 32 x) n).toNat := by
  rw [← rotl_eq _ n h0 h1, BitVec.toNat_or, BitVec.toNat_shiftLeft, BitVec.toNat_ushiftRight, BitVec.toNat_ofNat, Nat.mod_eq_of_lt hx, Nat.shiftLeft_eq, Nat.shiftRight_eq_div_pow]
  have e : x * 2 ^ n / 4294967296 = x / 2 ^ (32 - n) := by
    rw [show (4294967296 : Nat) = 2 ^ (32 - n) * 2 ^ n from by rw [← Nat.pow_add]; rw [show 32 - n + n = 32 from by omega]]
    exact Nat.mul_div_mul_right _ _ (Nat.pow_pos (by decide))
  rw [e, show (4294967296 : Nat) = 2 ^ 32 from rfl, Nat.or_mod_two_pow]
  congr 1
  exact Nat.mod_eq_of_lt (Nat.lt_of_le_of_lt (Nat.div_le_self _ _) hx)
theorem left_int (x : BitVec 32) (n : Nat) (h0 : 1 ≤ n) (h1 : n ≤ 31) : bits .or .u64 (I x * 2 ^ n) (I x * 2 ^ n / 4294967296) % 4294967296 = I (x.rotateLeft n) := by
  have hx := x.isLt
  have hp : 2 ^ n ≤ 2 ^ 31 := Nat.pow_le_pow_right (by decide) h1
  have hm : x.toNat * 2 ^ n ≤ 4294967295 * 2 ^ 31 := Nat.mul_le_mul (by omega) hp
  have e1 : I x * 2 ^ n = ((x.toNat * 2 ^ n : Nat) : Int) := by unfold I; simp
  have e2 : I x * 2 ^ n / 4294967296 = ((x.toNat * 2 ^ n / 4294967296 : Nat) : Int) := by rw [e1]; simp
  rw [e2, e1, u64_or_nat _ _ (by omega) (by omega)]
  have := left_nat x.toNat n hx h0 h1
  rw [BitVec.ofNat_toNat, BitVec.setWidth_eq] at this
  unfold I
  rw [← this]
  simp
set_option maxHeartbeats 400000 in
theorem left_any (x : BitVec 32) (z : Int) (n : Nat) (w : World) (hz : z = (n : Int)) (h0 : 1 ≤ n) (h1 : n ≤ 31) :
    Calls Tryd.prog 104 #[.int .u32 (I x), .int .u64 z] w fun e w' => e = .returned (.int .u32 (I (x.rotateLeft n))) ∧ ∃ m, w' = w.drewN m := by
  subst hz
  have hw : IntKind.u64.wrap (I x * 2 ^ n) = I x * 2 ^ n := by
    have hx := x.isLt
    have hp : 2 ^ n ≤ 2 ^ 31 := Nat.pow_le_pow_right (by decide) h1
    have hm : x.toNat * 2 ^ n ≤ 4294967295 * 2 ^ 31 := Nat.mul_le_mul (by omega) hp
    have e1 : I x * 2 ^ n = ((x.toNat * 2 ^ n : Nat) : Int) := by unfold I; simp
    rw [e1]
    generalize x.toNat * 2 ^ n = X at *
    simp [IntKind.wrap, IntKind.bits, IntKind.signed]; omega
  have hl := left_int x n h0 h1
  have hx := I_lt x
  go_enter Tryd.func104, Tryd.ntmps104
  go_wp2
  go_ret
  exact ⟨ret_int hl, 0, rfl⟩
/-- Of block g another thing is told, and there may be new ones. -/
structure UpdG (w w' : World) (g : Nat) : Prop where
  os : w'.os = w.os
  tape : w'.tape = w.tape
  output : w'.output = w.output
  size : w.heap.size ≤ w'.heap.size
  block : ∀ k, k < w.heap.size → k ≠ g → w'.heap[k]? = w.heap[k]?
theorem UpdG.refl (w : World) (g : Nat) : UpdG w w g := ⟨rfl, rfl, rfl, Nat.le_refl _, fun _ _ _ => rfl⟩
theorem UpdG.drewN {w w' : World} {g : Nat} (h : UpdG w w' g) (n : Nat) : UpdG w (w'.drewN n) g := ⟨h.os, h.tape, h.output, h.size, h.block⟩
theorem UpdG.upd {w w' w'' : World} {g : Nat} (h : UpdG w w' g) (u : Upd w' w'' g) : UpdG w w'' g :=
  ⟨u.os.trans h.os, u.tape.trans h.tape, u.output.trans h.output, by rw [u.size]; exact h.size, fun k hk hne => (u.block k hne).trans (h.block k hk hne)⟩
theorem UpdG.trans {w w' w'' : World} {g : Nat} (h : UpdG w w' g) (u : UpdG w' w'' g) : UpdG w w'' g :=
  ⟨u.os.trans h.os, u.tape.trans h.tape, u.output.trans h.output, Nat.le_trans h.size u.size, fun k hk hne => (u.block k (Nat.lt_of_lt_of_le hk h.size) hne).trans (h.block k hk hne)⟩
theorem UpdG.alloc {w w' : World} {g : Nat} (h : UpdG w w' g) (o : Obj) : UpdG w (w'.alloc o) g :=
  ⟨h.os, h.tape, h.output, by simp; exact Nat.le_succ_of_le h.size, fun k hk hne => by rw [Below.heap_alloc _ _ _ (Nat.lt_of_lt_of_le hk h.size)]; exact h.block k hk hne⟩
theorem UpdG.updN {w w' w'' : World} {g c : Nat} (h : UpdG w w' g) (u : Upd w' w'' c) (hc : w.heap.size ≤ c) : UpdG w w'' g :=
  ⟨u.os.trans h.os, u.tape.trans h.tape, u.output.trans h.output, by rw [u.size]; exact h.size, fun k hk hne => (u.block k (by omega)).trans (h.block k hk hne)⟩
theorem UpdG.below {w0 w w' : World} {g B : Nat} (h : UpdG w w' g) (hb : Below B w0 w) (hB : B ≤ w.heap.size) (hg : B ≤ g) : Below B w0 w' :=
  hb.trans ⟨h.os, h.tape, h.output, h.size, fun k hk => h.block k (Nat.lt_of_lt_of_le hk hB) (by omega)⟩
theorem Blk.updG {w w' : World} {b g : Nat} {arr : Array Value} {T : TypeId} (h : Blk w b arr T) (hu : UpdG w w' g) (hne : b ≠ g) : Blk w' b arr T := by
  have := h.lt
  unfold Blk at *; rw [hu.block b this hne]; exact h
theorem tr_get (f : Nat → BitVec 32) (rest : Array Value) (j : Nat) (hj : j < 16) : (tab 16 f ++ rest)[j]? = some (.int .u32 (I (f j))) := by
  rw [Array.getElem?_append_left (by rw [tab_size]; exact hj), tab_get _ _ _ hj]
def up (f : Nat → BitVec 32) (k : Nat) (v : BitVec 32) (j : Nat) : BitVec 32 := if j = k then v else f j
theorem tr_set (f : Nat → BitVec 32) (rest : Array Value) (k : Nat) (v : BitVec 32) (hk : k < 16) : (tab 16 f ++ rest).setIfInBounds k (.int .u32 (I v)) = tab 16 (up f k v) ++ rest := by
  rw [Array.setIfInBounds_append_left (by rw [tab_size]; exact hk), tab_set]; rfl
theorem tr_size (f : Nat → BitVec 32) (rest : Array Value) : 16 ≤ (tab 16 f ++ rest).size := by simp [tab_size]
/-- Half a quarter round. -/
def half (f : Nat → BitVec 32) (a b c d r s : Nat) : Nat → BitVec 32 :=
  let f1 := up f a (f a + f b)
  let f2 := up f1 d ((f1 d ^^^ f1 a).rotateLeft r)
  let f3 := up f2 c (f2 c + f2 d)
  up f3 b ((f3 b ^^^ f3 c).rotateLeft s)
theorem half_twice (f : Nat → BitVec 32) (a b c d : Nat) (h1 : a ≠ b) (h2 : a ≠ c) (h3 : a ≠ d) (h4 : b ≠ c) (h5 : b ≠ d) (h6 : c ≠ d) : half (half f a b c d 16 12) a b c d 8 7 = qat f a b c d := by
  have g1 := h1.symm
  have g2 := h2.symm
  have g3 := h3.symm
  have g4 := h4.symm
  have g5 := h5.symm
  have g6 := h6.symm
  funext t
  unfold half qat qr up
  by_cases e1 : t = d
  · subst e1; simp [*]
  by_cases e2 : t = c
  · subst e2; simp [*]
  by_cases e3 : t = b
  · subst e3; simp [*]
  by_cases e4 : t = a
  · subst e4; simp [*]
  · simp [*]
theorem szI : (Tryd.prog.info? 3).map (·.size) = some 1 := by kernel_rfl
def hlf (f : Nat → BitVec 32) (a b c d : Nat) : Nat → Nat → BitVec 32
  | 0 => f
  | k + 1 => half (hlf f a b c d k) a b c d (16 - 8 * k) (12 - 5 * k)
attribute [local go_sem] I_addm I_xor
set_option maxRecDepth 100000 in
set_option maxHeartbeats 1000000 in
theorem mix_any (f : Nat → BitVec 32) (rest : Array Value) (T : TypeId) (g cap a b c d : Nat) (w : World) (ha : a < 16) (hb : b < 16) (hc : c < 16) (hd : d < 16) (hg : Blk w g (tab 16 f ++ rest) T) :
    Calls Tryd.prog 73 #[.slice (some ⟨g, 0, none⟩) 16 cap, .agg #[.int .i64 (a : Int), .int .i64 (b : Int), .int .i64 (c : Int), .int .i64 (d : Int)]] w fun e w' =>
      e = .returned (.tuple #[]) ∧ Blk w' g (tab 16 (hlf f a b c d 2) ++ rest) T ∧ UpdG w w' g := by
  have hgl := hg.lt
  go_enter Tryd.func73, Tryd.ntmps73
  go_wp2_with fail
  have at0 := Blk.new w #[.int .i64 (a : Int), .int .i64 (b : Int), .int .i64 (c : Int), .int .i64 (d : Int)] 108
  have hg0 := hg.alloc (.cells #[.int .i64 (a : Int), .int .i64 (b : Int), .int .i64 (c : Int), .int .i64 (d : Int)] 108)
  have u0 := (UpdG.refl w g).alloc (.cells #[.int .i64 (a : Int), .int .i64 (b : Int), .int .i64 (c : Int), .int .i64 (d : Int)] 108)
  clear hg
  go_loopw [10] (fun i wr => ∃ k : Nat, k ≤ 2 ∧ i = .int .i64 k ∧ Blk wr g (tab 16 (hlf f a b c d k) ++ rest) T ∧ Blk wr w.heap.size #[.int .i64 (a : Int), .int .i64 (b : Int), .int .i64 (c : Int), .int .i64 (d : Int)] 108 ∧ UpdG w wr g) (fun i _ => 2 - (intOf i).toNat)
  case atStart => exact ⟨0, by omega, rfl, hg0, at0, u0⟩
  case round =>
    clear hg0 at0 u0
    obtain ⟨k, hk, rfl, hg, ha4, hu⟩ := hrel
    by_cases hlt : k < 2
    · have HK : Hid (hlf f a b c d (k + 1) = half (hlf f a b c d k) a b c d (16 - 8 * k) (12 - 5 * k)) := rfl
      obtain ⟨k1, ek1⟩ : ∃ k1, Hid (k1 = k + 1) := ⟨_, rfl⟩
      generalize hlf f a b c d k = F at *
      obtain rfl | rfl : k = 0 ∨ k = 1 := by omega
      · have p0 := ha4.cell 0
        have p1 := ha4.cell 1
        have p2 := ha4.cell 2
        have p3 := ha4.cell 3
        go_wp2_with fail
        rw [show (((0 : Nat) : Int)) = 0 from rfl]
        go_quiet (fail)
        clear p0 p1 p2 p3
        have hg := hg.drewN nq
        have ha4 := ha4.drewN nq
        have hu := hu.drewN nq
        generalize wr.drewN nq = W at *
        have lw := ha4.lt
        have q0 := hg.cell a; rw [tr_get _ _ _ ha] at q0
        have q1 := hg.cell b; rw [tr_get _ _ _ hb] at q1
        go_wp2_with fail
        refine region_qtail 11 (fun w' => ∃ n, w' = W.drewN n) mixed (by kernel_rfl) ⟨1, rfl⟩ ?_
        simp only [List.take_succ_cons, List.take_zero, List.drop_succ_cons, List.drop_zero]
        repeat (go_big_quiet_step (fail))
        refine wpQuiet_nil ?_
        rintro w' ⟨n1, rfl⟩
        clear q0 q1
        have D1 := hg.drewN n1
        go_wp2_with (first | (refine wpl_put rfl rfl 83 _ _ rfl szU _ _ _ _ _ _ rfl rfl D1 (by simp [tab_size]; omega) ?_; intro W1 u1_ G1) | fail)
        rw [I_addm, tr_set _ _ _ _ ha] at G1
        obtain ⟨F1, e1⟩ : ∃ F', Hid (F' = up F a (F a + F b)) := ⟨_, rfl⟩
        rw [← e1.out] at G1
        have q0 := G1.cell d; rw [tr_get _ _ _ hd] at q0
        have q1 := G1.cell a; rw [tr_get _ _ _ ha] at q1
        refine region_qtail 17 (fun w' => ∃ n, w' = W1.drewN n) mixed (by kernel_rfl) ⟨1, rfl⟩ ?_
        simp only [List.take_succ_cons, List.take_zero, List.drop_succ_cons, List.drop_zero]
        repeat (go_big_quiet_step ((go_at_call 104; refine Calls.quiet_of (left_any _ _ 16 _ rfl (by decide) (by decide)))))
        refine wpQuiet_nil ?_
        rintro w' ⟨n2, rfl⟩
        clear q0 q1
        have D2 := G1.drewN n2
        go_wp2_with (first | (refine wpl_put rfl rfl 83 _ _ rfl szU _ _ _ _ _ _ rfl rfl D2 (by simp [tab_size]; omega) ?_; intro W2 u2_ G2) | fail)
        rw [tr_set _ _ _ _ hd] at G2
        obtain ⟨F2, e2⟩ : ∃ F', Hid (F' = up F1 d ((F1 d ^^^ F1 a).rotateLeft 16)) := ⟨_, rfl⟩
        rw [← e2.out] at G2
        have q0 := G2.cell c; rw [tr_get _ _ _ hc] at q0
        have q1 := G2.cell d; rw [tr_get _ _ _ hd] at q1
        refine region_qtail 11 (fun w' => ∃ n, w' = W2.drewN n) mixed (by kernel_rfl) ⟨1, rfl⟩ ?_
        simp only [List.take_succ_cons, List.take_zero, List.drop_succ_cons, List.drop_zero]
        repeat (go_big_quiet_step (fail))
        refine wpQuiet_nil ?_
        rintro w' ⟨n3, rfl⟩
        clear q0 q1
        have D3 := G2.drewN n3
        go_wp2_with (first | (refine wpl_put rfl rfl 83 _ _ rfl szU _ _ _ _ _ _ rfl rfl D3 (by simp [tab_size]; omega) ?_; intro W3 u3_ G3) | fail)
        rw [I_addm, tr_set _ _ _ _ hc] at G3
        obtain ⟨F3, e3⟩ : ∃ F', Hid (F' = up F2 c (F2 c + F2 d)) := ⟨_, rfl⟩
        rw [← e3.out] at G3
        have q0 := G3.cell b; rw [tr_get _ _ _ hb] at q0
        have q1 := G3.cell c; rw [tr_get _ _ _ hc] at q1
        refine region_qtail 17 (fun w' => ∃ n, w' = W3.drewN n) mixed (by kernel_rfl) ⟨1, rfl⟩ ?_
        simp only [List.take_succ_cons, List.take_zero, List.drop_succ_cons, List.drop_zero]
        repeat (go_big_quiet_step ((go_at_call 104; refine Calls.quiet_of (left_any _ _ 12 _ rfl (by decide) (by decide)))))
        refine wpQuiet_nil ?_
        rintro w' ⟨n4, rfl⟩
        clear q0 q1
        have D4 := G3.drewN n4
        go_wp2_with (first | (refine wpl_put rfl rfl 83 _ _ rfl szU _ _ _ _ _ _ rfl rfl D4 (by simp [tab_size]; omega) ?_; intro W4 u4_ G4) | fail)
        rw [tr_set _ _ _ _ hb] at G4
        obtain ⟨F4, e4⟩ : ∃ F', Hid (F' = up F3 b ((F3 b ^^^ F3 c).rotateLeft 12)) := ⟨_, rfl⟩
        rw [← e4.out] at G4
        go_light
        refine ⟨⟨k1, by rw [ek1.out]; omega, by rw [ek1.out]; go_num, ?_, ?_, ?_⟩, by simp [intOf]⟩
        · rw [ek1.out, HK.out]
          have : half F a b c d (16 - 8 * 0) (12 - 5 * 0) = F4 := by rw [e4.out, e3.out, e2.out, e1.out]; rfl
          rw [this]; exact G4
        · exact (((((((ha4.drewN n1).upd u1_ (by omega)).drewN n2).upd u2_ (by omega)).drewN n3).upd u3_ (by omega)).drewN n4).upd u4_ (by omega)
        · exact (((((((hu.drewN n1).upd u1_).drewN n2).upd u2_).drewN n3).upd u3_).drewN n4).upd u4_
      · have p0 := ha4.cell 0
        have p1 := ha4.cell 1
        have p2 := ha4.cell 2
        have p3 := ha4.cell 3
        go_wp2_with fail
        rw [show (((1 : Nat) : Int)) = 1 from rfl]
        go_quiet (fail)
        clear p0 p1 p2 p3
        have hg := hg.drewN nq
        have ha4 := ha4.drewN nq
        have hu := hu.drewN nq
        generalize wr.drewN nq = W at *
        have lw := ha4.lt
        have q0 := hg.cell a; rw [tr_get _ _ _ ha] at q0
        have q1 := hg.cell b; rw [tr_get _ _ _ hb] at q1
        go_wp2_with fail
        refine region_qtail 11 (fun w' => ∃ n, w' = W.drewN n) mixed (by kernel_rfl) ⟨1, rfl⟩ ?_
        simp only [List.take_succ_cons, List.take_zero, List.drop_succ_cons, List.drop_zero]
        repeat (go_big_quiet_step (fail))
        refine wpQuiet_nil ?_
        rintro w' ⟨n1, rfl⟩
        clear q0 q1
        have D1 := hg.drewN n1
        go_wp2_with (first | (refine wpl_put rfl rfl 83 _ _ rfl szU _ _ _ _ _ _ rfl rfl D1 (by simp [tab_size]; omega) ?_; intro W1 u1_ G1) | fail)
        rw [I_addm, tr_set _ _ _ _ ha] at G1
        obtain ⟨F1, e1⟩ : ∃ F', Hid (F' = up F a (F a + F b)) := ⟨_, rfl⟩
        rw [← e1.out] at G1
        have q0 := G1.cell d; rw [tr_get _ _ _ hd] at q0
        have q1 := G1.cell a; rw [tr_get _ _ _ ha] at q1
        refine region_qtail 17 (fun w' => ∃ n, w' = W1.drewN n) mixed (by kernel_rfl) ⟨1, rfl⟩ ?_
        simp only [List.take_succ_cons, List.take_zero, List.drop_succ_cons, List.drop_zero]
        repeat (go_big_quiet_step ((go_at_call 104; refine Calls.quiet_of (left_any _ _ 8 _ rfl (by decide) (by decide)))))
        refine wpQuiet_nil ?_
        rintro w' ⟨n2, rfl⟩
        clear q0 q1
        have D2 := G1.drewN n2
        go_wp2_with (first | (refine wpl_put rfl rfl 83 _ _ rfl szU _ _ _ _ _ _ rfl rfl D2 (by simp [tab_size]; omega) ?_; intro W2 u2_ G2) | fail)
        rw [tr_set _ _ _ _ hd] at G2
        obtain ⟨F2, e2⟩ : ∃ F', Hid (F' = up F1 d ((F1 d ^^^ F1 a).rotateLeft 8)) := ⟨_, rfl⟩
        rw [← e2.out] at G2
        have q0 := G2.cell c; rw [tr_get _ _ _ hc] at q0
        have q1 := G2.cell d; rw [tr_get _ _ _ hd] at q1
        refine region_qtail 11 (fun w' => ∃ n, w' = W2.drewN n) mixed (by kernel_rfl) ⟨1, rfl⟩ ?_
        simp only [List.take_succ_cons, List.take_zero, List.drop_succ_cons, List.drop_zero]
        repeat (go_big_quiet_step (fail))
        refine wpQuiet_nil ?_
        rintro w' ⟨n3, rfl⟩
        clear q0 q1
        have D3 := G2.drewN n3
        go_wp2_with (first | (refine wpl_put rfl rfl 83 _ _ rfl szU _ _ _ _ _ _ rfl rfl D3 (by simp [tab_size]; omega) ?_; intro W3 u3_ G3) | fail)
        rw [I_addm, tr_set _ _ _ _ hc] at G3
        obtain ⟨F3, e3⟩ : ∃ F', Hid (F' = up F2 c (F2 c + F2 d)) := ⟨_, rfl⟩
        rw [← e3.out] at G3
        have q0 := G3.cell b; rw [tr_get _ _ _ hb] at q0
        have q1 := G3.cell c; rw [tr_get _ _ _ hc] at q1
        refine region_qtail 17 (fun w' => ∃ n, w' = W3.drewN n) mixed (by kernel_rfl) ⟨1, rfl⟩ ?_
        simp only [List.take_succ_cons, List.take_zero, List.drop_succ_cons, List.drop_zero]
        repeat (go_big_quiet_step ((go_at_call 104; refine Calls.quiet_of (left_any _ _ 7 _ rfl (by decide) (by decide)))))
        refine wpQuiet_nil ?_
        rintro w' ⟨n4, rfl⟩
        clear q0 q1
        have D4 := G3.drewN n4
        go_wp2_with (first | (refine wpl_put rfl rfl 83 _ _ rfl szU _ _ _ _ _ _ rfl rfl D4 (by simp [tab_size]; omega) ?_; intro W4 u4_ G4) | fail)
        rw [tr_set _ _ _ _ hb] at G4
        obtain ⟨F4, e4⟩ : ∃ F', Hid (F' = up F3 b ((F3 b ^^^ F3 c).rotateLeft 7)) := ⟨_, rfl⟩
        rw [← e4.out] at G4
        go_light
        refine ⟨⟨k1, by rw [ek1.out]; omega, by rw [ek1.out]; go_num, ?_, ?_, ?_⟩, by simp [intOf]⟩
        · rw [ek1.out, HK.out]
          have : half F a b c d (16 - 8 * 1) (12 - 5 * 1) = F4 := by rw [e4.out, e3.out, e2.out, e1.out]; rfl
          rw [this]; exact G4
        · exact (((((((ha4.drewN n1).upd u1_ (by omega)).drewN n2).upd u2_ (by omega)).drewN n3).upd u3_ (by omega)).drewN n4).upd u4_ (by omega)
        · exact (((((((hu.drewN n1).upd u1_).drewN n2).upd u2_).drewN n3).upd u3_).drewN n4).upd u4_
    · have hk' : k = 2 := by omega
      subst hk'
      go_wp2_with fail
      go_end0
      exact ⟨rfl, hg, hu⟩
end Go.Proofs.YtccnnfllgdplhaaDoor
