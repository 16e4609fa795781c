/-
  Part of the proof of SumTells: one block stirred by the code's sum, as a plain function on words.
-/
import Derived.Test.YtfkgfakjhjbidaaDoorSmW1
namespace Go.Proofs.YtfkgfakjhjbidaaDoor.Sm
open Go.RowKit
attribute [local go_sem] I_xor I_and I_or I_addm I_add3 I_add4 I_add5 I_not
/-- The round numbers as the code lays them. -/
def kList : List Nat := [1116352408, 1899447441, 3049323471, 3921009573, 961987163, 1508970993, 2453635748, 2870763221, 3624381080, 310598401, 607225278, 1426881987, 1925078388, 2162078206, 2614888103, 3248222580, 3835390401, 4022224774, 264347078, 604807628, 770255983, 1249150122, 1555081692, 1996064986, 2554220882, 2821834349, 2952996808, 3210313671, 3336571891, 3584528711, 113926993, 338241895, 666307205, 773529912, 1294757372, 1396182291, 1695183700, 1986661051, 2177026350, 2456956037, 2730485921, 2820302411, 3259730800, 3345764771, 3516065817, 3600352804, 4094571909, 275423344, 430227734, 506948616, 659060556, 883997877, 958139571, 1322822218, 1537002063, 1747873779, 1955562222, 2024104815, 2227730452, 2361852424, 2428436474, 2756734187, 3204031479, 3329325298]
def kF (i : Nat) : BitVec 32 := BitVec.ofNat 32 (kList.getD i 0)
/-- The code's round numbers lie where they should. -/
def KB (w : World) : Prop := 1 < w.heap.size ∧ ∀ i, i < 64 → w.cell? ⟨1, i, none⟩ = some (.int .u32 (I (kF i)))
theorem KB.below {w w' : World} (h : KB w) (hb : Below w.heap.size w w') : KB w' :=
  ⟨Nat.lt_of_lt_of_le h.1 hb.size, fun i hi => by rw [hb.cell h.1]; exact h.2 i hi⟩
structure St where
  a : BitVec 32
  b : BitVec 32
  c : BitVec 32
  d : BitVec 32
  e : BitVec 32
  f : BitVec 32
  g : BitVec 32
  h : BitVec 32
def bs1 (x : BitVec 32) : BitVec 32 := x.rotateRight 6 ^^^ x.rotateRight 11 ^^^ x.rotateRight 25
def bs0 (x : BitVec 32) : BitVec 32 := x.rotateRight 2 ^^^ x.rotateRight 13 ^^^ x.rotateRight 22
def ch (e f g : BitVec 32) : BitVec 32 := e &&& f ^^^ ~~~e &&& g
def maj (a b c : BitVec 32) : BitVec 32 := a &&& b ^^^ a &&& c ^^^ b &&& c
def St.step (s : St) (k w : BitVec 32) : St :=
  let t := s.h + bs1 s.e + ch s.e s.f s.g + k + w
  ⟨t + bs0 s.a + maj s.a s.b s.c, s.a, s.b, s.c, s.d + t, s.e, s.f, s.g⟩
def St.at (s : St) : Nat → BitVec 32
  | 0 => s.a | 1 => s.b | 2 => s.c | 3 => s.d | 4 => s.e | 5 => s.f | 6 => s.g | _ => s.h
def St.of (f : Nat → BitVec 32) : St := ⟨f 0, f 1, f 2, f 3, f 4, f 5, f 6, f 7⟩
def St.rounds (s : St) (m : Nat → BitVec 32) : Nat → St
  | 0 => s
  | i + 1 => (s.rounds m i).step (kF i) (sw m i)
/-- What a chunk of the words m makes of a state. -/
def stirF (f m : Nat → BitVec 32) (j : Nat) : BitVec 32 := f j + ((St.of f).rounds m 64).at j
set_option maxHeartbeats 1000000 in
set_option maxRecDepth 100000 in
theorem stir_any (f : Nat → BitVec 32) (s : ByteArray) (w : World) (h0 : s.size = 64) (hK : KB w) :
    Calls Tryd.prog 123 #[.agg (tab 8 f), .string s] w fun e w' => e = .returned (.agg (tab 8 (stirF f (mOf s)))) ∧ Below w.heap.size w w' := by
  go_enter Tryd.func123, Tryd.ntmps123
  go_wp2_with fail
  refine (sched_any s _ h0).mono ?_
  rintro e w1 ⟨rfl, hb1⟩
  have g1 : Blk w1 w.heap.size (tab 8 f) 102 := Blk.below ((Blk.new w (tab 8 f) 102).alloc _) hb1 (by simp; omega)
  have g2 : Blk w1 (w.heap.size + 1) (tab 8 (fun _ => 0)) 102 := Blk.below (Blk.new' _ _ 102 (by simp)) hb1 (by simp)
  have hbel : Below w.heap.size w w1 := (((Below.refl _ _).alloc (Nat.le_refl _) _).alloc (by simp) _).trans (hb1.mono (by simp; omega))
  clear hb1
  have hsz : w.heap.size + 1 < w1.heap.size := g2.lt
  have g3 := fun (arr : Array Value) => Blk.new w1 arr 103
  go_wp2_with (first | (refine wpl_store_u rfl rfl 103 _ _ rfl 64 sz32 _ _ _ _ rfl rfl (g3 _) rfl ?_; intro w2 hu j3) | fail)
  have j1 := (g1.alloc _).upd hu (by omega)
  have j2 := (g2.alloc _).upd hu (by omega)
  have j4 := below_upd (hbel.alloc (by omega) _) hu (by omega)
  clear hu g1 g2 g3 hbel
  have c1 := fun j (hj : j < 8) => j1.tcell j hj
  have c3 := fun j (hj : j < 64) => j3.tcell j hj
  have cK := (hK.below j4).2
  go_quiet (fail)
  go_wp2_with fail
  go_quiet (fail)
  go_wp2_with fail
  go_loopw [6, 7, 8, 9, 10, 11, 12, 13, 37] (fun a b c d e f' g h i wr => ∃ k n : Nat, k ≤ 64 ∧ i = .int .i64 k ∧ wr = w2.drewN n ∧
      a = .int .u32 (I ((St.of f).rounds (mOf s) k).a) ∧ b = .int .u32 (I ((St.of f).rounds (mOf s) k).b) ∧ c = .int .u32 (I ((St.of f).rounds (mOf s) k).c) ∧ d = .int .u32 (I ((St.of f).rounds (mOf s) k).d) ∧
      e = .int .u32 (I ((St.of f).rounds (mOf s) k).e) ∧ f' = .int .u32 (I ((St.of f).rounds (mOf s) k).f) ∧ g = .int .u32 (I ((St.of f).rounds (mOf s) k).g) ∧ h = .int .u32 (I ((St.of f).rounds (mOf s) k).h)) (fun _ _ _ _ _ _ _ _ i _ => 64 - (intOf i).toNat)
  case atStart => exact ⟨0, _, by omega, rfl, World.drewN_drewN _ _ _, rfl, rfl, rfl, rfl, rfl, rfl, rfl, rfl⟩
  case round =>
    obtain ⟨k, n, hk, rfl, rfl, rfl, rfl, rfl, rfl, rfl, rfl, rfl, rfl⟩ := hrel
    by_cases hlt : k < 64
    · have hs : (St.of f).rounds (mOf s) (k + 1) = ((St.of f).rounds (mOf s) k).step (kF k) (sw (mOf s) k) := rfl
      have HS : Hid ((St.of f).rounds (mOf s) (k + 1) = ((St.of f).rounds (mOf s) k).step (kF k) (sw (mOf s) k)) := hs
      clear hs
      generalize (St.of f).rounds (mOf s) k = S at *
      go_wp2_with (go_at_call 145; refine (rot_any _ _ _ (by omega) (by omega)).mono ?_; rintro e w' ⟨rfl, rfl⟩)
      go_quiet (fail)
      go_wp2_with (go_at_call 145; refine (rot_any _ _ _ (by omega) (by omega)).mono ?_; rintro e w' ⟨rfl, rfl⟩)
      go_roundw
      case rel =>
        refine ⟨k + 1, _, by omega, by go_num, rfl, ?_⟩
        rw [HS.out]
        exact ⟨rfl, rfl, rfl, rfl, rfl, rfl, rfl, rfl⟩
      case measure => simp [intOf]; omega
    · have hk' : k = 64 := by omega
      subst hk'
      have hF : Hid (tab 8 (stirF f (mOf s)) = #[.int .u32 (I (f 0 + ((St.of f).rounds (mOf s) 64).a)), .int .u32 (I (f 1 + ((St.of f).rounds (mOf s) 64).b)), .int .u32 (I (f 2 + ((St.of f).rounds (mOf s) 64).c)), .int .u32 (I (f 3 + ((St.of f).rounds (mOf s) 64).d)),
        .int .u32 (I (f 4 + ((St.of f).rounds (mOf s) 64).e)), .int .u32 (I (f 5 + ((St.of f).rounds (mOf s) 64).f)), .int .u32 (I (f 6 + ((St.of f).rounds (mOf s) 64).g)), .int .u32 (I (f 7 + ((St.of f).rounds (mOf s) 64).h))]) := rfl
      generalize (St.of f).rounds (mOf s) 64 = S at *
      go_wp2_with (first | (refine wpl_store_u rfl rfl 102 _ _ rfl 8 sz31 _ _ _ (stirF f (mOf s)) rfl (by rw [hF.out]; rfl) (j2.drewN n) rfl ?_; intro w3 hu3 j5) | fail)
      refine ret_cell 4 102 rfl 8 101 Tryd.underlying102 sz31 _ _ _ rfl j5 rfl ⟨rfl, below_upd (below_drewN j4 n) hu3 (by omega)⟩
end Go.Proofs.YtfkgfakjhjbidaaDoor.Sm
