/-
  Part of the proof: a number's eight bytes, read; a text without what was put behind it; the marks of pages.
-/
import Derived.Test.YtfkgfakjhjbidaaDoorP1
import Derived.Test.YtfkgfakjhjbidaaDoorSmX3
import Derived.Laws.BitsAllLaws
namespace Go.Proofs.YtfkgfakjhjbidaaDoor.Pg
open Go.RowKit
def bt (s : ByteArray) (i : Nat) : Nat := (s.data.toList.getD i 0).toNat
theorem bt_eq (s : ByteArray) (i : Nat) (h : i < s.size) : (s[i]'h).toNat = bt s i := by
  unfold bt
  rw [List.getD_eq_getElem?_getD, List.getElem?_eq_getElem (by simpa using h)]; rfl
theorem bt_lt (s : ByteArray) (i : Nat) : bt s i < 256 := UInt8.toNat_lt _
/-- The number of the first k bytes, the greatest first. -/
def verF (s : ByteArray) : Nat → Nat
  | 0 => 0
  | k + 1 => verF s k * 256 + bt s k
theorem verF_lt (s : ByteArray) : ∀ k, verF s k < 256 ^ k
  | 0 => by simp [verF]
  | k + 1 => by have := verF_lt s k; have := bt_lt s k; rw [Nat.pow_succ]; unfold verF; omega
theorem verF_lt7 (s : ByteArray) (k : Nat) (h : k < 8) : verF s k < 72057594037927936 :=
  Nat.lt_of_lt_of_le (verF_lt s k) (Nat.le_trans (Nat.pow_le_pow_right (by decide) (show k ≤ 7 by omega)) (by decide))
theorem verF_lt8 (s : ByteArray) (k : Nat) (h : k ≤ 8) : verF s k < 18446744073709551616 :=
  Nat.lt_of_lt_of_le (verF_lt s k) (Nat.le_trans (Nat.pow_le_pow_right (by decide) h) (by decide))
theorem or_low (n b : Nat) (hb : b < 256) : n * 256 ||| b = n * 256 + b := by
  have := Nat.two_pow_add_eq_or_of_lt (i := 8) (b := b) hb n
  rw [Nat.mul_comm n 256, ← show 2 ^ 8 = 256 from rfl]
  exact this.symm
theorem or_word (n b : Nat) (hn : n < 72057594037927936) (hb : b < 256) : bits .or .u64 ((n * 256 : Nat) : Int) (b : Int) = ((n * 256 + b : Nat) : Int) := by
  rw [u64_or_nat _ _ (by omega) (by omega), or_low n b hb]
/-- The version that a page's first bytes tell. -/
def verN (s : ByteArray) : Int := wrap64 (verF s 8 : Int)
set_option maxRecDepth 100000 in
set_option maxHeartbeats 1000000 in
theorem number_any (s : ByteArray) (w : World) (h8 : 8 ≤ s.size) (hs : s.size ≤ 10000) :
    Calls Tryd.prog 108 #[.string s] w fun e w' => e = .returned (.int .i64 (verN s)) ∧ w' = w := by
  go_enter Tryd.func108, Tryd.ntmps108
  go_wp2_with fail
  go_loop [3, 5] (fun z i => ∃ k : Nat, k ≤ 8 ∧ i = .int .i64 k ∧ z = .int .u64 (verF s k : Int)) (fun _ i => 8 - (intOf i).toNat)
  case atStart => exact ⟨0, by omega, rfl, rfl⟩
  case round =>
    obtain ⟨k, hk, rfl, rfl⟩ := hrel
    by_cases hlt : k < 8
    · have hv := verF_lt7 s k hlt
      have hks : k < s.size := by omega
      have hb := bt_lt s k
      have hbe := bt_eq s k hks
      go_wp2
      exact ⟨⟨k + 1, by omega, by go_num, congrArg (Value.int .u64) (by simp [verF])⟩, by simp [intOf]; omega⟩
    · have hk' : k = 8 := by omega
      subst hk'
      go_wp2
      go_ret
      exact ⟨rfl, rfl⟩
set_option maxRecDepth 100000 in
set_option maxHeartbeats 1000000 in
theorem versionOf_any (s : ByteArray) (w : World) (h8 : 8 ≤ s.size) (hs : s.size ≤ 10000) :
    Calls Tryd.prog 109 #[.string s] w fun e w' => e = .returned (.int .i64 (verN s)) ∧ w' = w := by
  go_enter Tryd.func109, Tryd.ntmps109
  go_wp2_with fail
  go_loop [3, 5] (fun z i => ∃ k : Nat, k ≤ 8 ∧ i = .int .i64 k ∧ z = .int .u64 (verF s k : Int)) (fun _ i => 8 - (intOf i).toNat)
  case atStart => exact ⟨0, by omega, rfl, rfl⟩
  case round =>
    obtain ⟨k, hk, rfl, rfl⟩ := hrel
    by_cases hlt : k < 8
    · have hv := verF_lt7 s k hlt
      have hks : k < s.size := by omega
      have hb := bt_lt s k
      have hbe := bt_eq s k hks
      have ho := or_word (verF s k) (bt s k) hv hb
      rw [Int.natCast_mul] at ho
      go_wp2
      exact ⟨⟨k + 1, by omega, by go_num, congrArg (Value.int .u64) (ho.trans (by simp [verF]))⟩, by simp [intOf]; omega⟩
    · have hk' : k = 8 := by omega
      subst hk'
      go_wp2
      go_ret
      exact ⟨rfl, rfl⟩
/-- How many bytes of a text are the page's. -/
def cutN (s : ByteArray) : Nat := if bt s 0 < 200 then bt s 0 else 200
theorem cutN_le (s : ByteArray) : cutN s ≤ 200 := by unfold cutN; split <;> omega
/-- The text within one that has 0 behind it. -/
def cutT (s : ByteArray) : ByteArray := s.extract 1 (1 + cutN s)
set_option maxRecDepth 100000 in
set_option maxHeartbeats 1000000 in
theorem unpadded_any (s : ByteArray) (w : World) (hs : s.size = 201) :
    Calls Tryd.prog 110 #[.string s] w fun e w' => e = .returned (.string (cutT s)) ∧ w' = w := by
  have hb := bt_lt s 0
  have hbe := bt_eq s 0 (by omega)
  have hs0 : 0 < s.size := by omega
  have e : ((1 : Int) + min (bt s 0 : Int) 200).toNat = 1 + cutN s := by unfold cutN; split <;> omega
  go_enter Tryd.func110, Tryd.ntmps110
  go_wp2
  go_ret
  exact ⟨rfl, rfl⟩
/-- A mark. -/
def mk (kb : UInt8) (ss : List ByteArray) : ByteArray := (Sm.sumS ⟨(Sm.markTo kb ss ss.length).toArray⟩).extract 0 16
theorem sumS_size (s : ByteArray) : (Sm.sumS s).size = 32 := sb_size _ _
theorem mk_size (kb : UInt8) (ss : List ByteArray) : (mk kb ss).size = 16 := by
  unfold mk; rw [ByteArray.size_extract, sumS_size]; rfl
/-- A number's eight bytes. -/
def numS (n : Int) : ByteArray := sb 8 (Sm.numB (Sm.numN n))
theorem numS_size (n : Int) : (numS n).size = 8 := sb_size _ _
theorem parts3 {w : World} {b : Nat} {T : TypeId} {x y z : ByteArray} (h : Blk w b #[.string x, .string y, .string z] T) : Sm.Parts w (some ⟨b, 0, none⟩) 3 [x, y, z] := by
  refine ⟨rfl, fun j hj => ?_⟩
  have hc := h.cell j
  match j, hj with
  | 0, _ => exact ⟨b, 0, x, rfl, h.lt, hc, rfl⟩
  | 1, _ => exact ⟨b, 0, y, rfl, h.lt, hc, rfl⟩
  | 2, _ => exact ⟨b, 0, z, rfl, h.lt, hc, rfl⟩
theorem parts4 {w : World} {b : Nat} {T : TypeId} {x y z u : ByteArray} (h : Blk w b #[.string x, .string y, .string z, .string u] T) : Sm.Parts w (some ⟨b, 0, none⟩) 4 [x, y, z, u] := by
  refine ⟨rfl, fun j hj => ?_⟩
  have hc := h.cell j
  match j, hj with
  | 0, _ => exact ⟨b, 0, x, rfl, h.lt, hc, rfl⟩
  | 1, _ => exact ⟨b, 0, y, rfl, h.lt, hc, rfl⟩
  | 2, _ => exact ⟨b, 0, z, rfl, h.lt, hc, rfl⟩
  | 3, _ => exact ⟨b, 0, u, rfl, h.lt, hc, rfl⟩
theorem all3 {x y z : ByteArray} (hx : x.size ≤ 300) (hy : y.size ≤ 300) (hz : z.size ≤ 300) : ∀ p ∈ [x, y, z], p.size ≤ 300 := by
  intro p hp
  simp only [List.mem_cons, List.not_mem_nil, or_false] at hp
  rcases hp with rfl | rfl | rfl <;> assumption
theorem all4 {x y z u : ByteArray} (hx : x.size ≤ 300) (hy : y.size ≤ 300) (hz : z.size ≤ 300) (hu : u.size ≤ 300) : ∀ p ∈ [x, y, z, u], p.size ≤ 300 := by
  intro p hp
  simp only [List.mem_cons, List.not_mem_nil, or_false] at hp
  rcases hp with rfl | rfl | rfl | rfl <;> assumption
theorem num_s (n : Int) (w : World) : Calls Tryd.prog 18 #[.int .i64 n] w fun e w' => e = .returned (.string (numS n)) ∧ Below w.heap.size w w' := Sm.num_any n w
theorem rnum_s (n : Int) (w : World) : Calls Tryd.prog 19 #[.int .i64 n] w fun e w' => e = .returned (.string (numS n)) ∧ Below w.heap.size w w' := Sm.refnum_any n w
/-- The code's Mark of three texts, the kind a number. -/
theorem mark3 (kb : UInt8) (k : Int) (hk : k = (kb.toNat : Int)) {b : Nat} {T : TypeId} {x y z : ByteArray} {w : World} (h : Blk w b #[.string x, .string y, .string z] T) (hx : x.size ≤ 300) (hy : y.size ≤ 300) (hz : z.size ≤ 300) (hK : Sm.KB w) :
    Calls Tryd.prog 20 #[.int .u8 k, .slice (some ⟨b, 0, none⟩) 3 3] w fun e w' => e = .returned (.string (mk kb [x, y, z])) ∧ Below w.heap.size w w' := by
  subst hk; exact Sm.mark_any kb _ 3 3 _ w (parts3 h) (by decide) (all3 hx hy hz) hK
theorem mark4 (kb : UInt8) (k : Int) (hk : k = (kb.toNat : Int)) {b : Nat} {T : TypeId} {x y z u : ByteArray} {w : World} (h : Blk w b #[.string x, .string y, .string z, .string u] T) (hx : x.size ≤ 300) (hy : y.size ≤ 300) (hz : z.size ≤ 300) (hu : u.size ≤ 300) (hK : Sm.KB w) :
    Calls Tryd.prog 20 #[.int .u8 k, .slice (some ⟨b, 0, none⟩) 4 4] w fun e w' => e = .returned (.string (mk kb [x, y, z, u])) ∧ Below w.heap.size w w' := by
  subst hk; exact Sm.mark_any kb _ 4 4 _ w (parts4 h) (by decide) (all4 hx hy hz hu) hK
/-- The reference's own numbers, in their block. -/
def RB (w : World) (rb : Nat) : Prop := Blk w rb (tab 72 (Sm.rK 64)) 105
theorem rmark3 (rb : Nat) (kb : UInt8) (k : Int) (hk : k = (kb.toNat : Int)) {b : Nat} {T : TypeId} {x y z : ByteArray} {w : World} (hR : RB w rb) (h : Blk w b #[.string x, .string y, .string z] T) (hx : x.size ≤ 300) (hy : y.size ≤ 300) (hz : z.size ≤ 300) :
    Calls Tryd.prog 21 #[.pointer (some ⟨rb, 0, none⟩), .int .u8 k, .slice (some ⟨b, 0, none⟩) 3 3] w fun e w' => e = .returned (.string (mk kb [x, y, z])) ∧ Below w.heap.size w w' := by
  subst hk; exact Sm.rmark_any rb kb _ 3 3 _ w hR (parts3 h) (by decide) (all3 hx hy hz)
theorem rmark4 (rb : Nat) (kb : UInt8) (k : Int) (hk : k = (kb.toNat : Int)) {b : Nat} {T : TypeId} {x y z u : ByteArray} {w : World} (hR : RB w rb) (h : Blk w b #[.string x, .string y, .string z, .string u] T) (hx : x.size ≤ 300) (hy : y.size ≤ 300) (hz : z.size ≤ 300) (hu : u.size ≤ 300) :
    Calls Tryd.prog 21 #[.pointer (some ⟨rb, 0, none⟩), .int .u8 k, .slice (some ⟨b, 0, none⟩) 4 4] w fun e w' => e = .returned (.string (mk kb [x, y, z, u])) ∧ Below w.heap.size w w' := by
  subst hk; exact Sm.rmark_any rb kb _ 4 4 _ w hR (parts4 h) (by decide) (all4 hx hy hz hu)
theorem RB.below {w w' : World} {rb : Nat} (h : RB w rb) (hb : Below w.heap.size w w') : RB w' rb := Blk.below h hb h.lt
theorem below_alloc (w : World) (o : Obj) : Below w.heap.size w (w.alloc o) := (Below.refl _ _).alloc (Nat.le_refl _) o
set_option maxRecDepth 100000 in
set_option maxHeartbeats 1000000 in
theorem pseal_any (key : ByteArray) (id : Int) (s : ByteArray) (w : World) (hk : key.size ≤ 300) (hs : s.size ≤ 300) (hK : Sm.KB w) :
    Calls Tryd.prog 107 #[.string key, .int .i64 id, .string s] w fun e w' => e = .returned (.string (mk 103 [key, numS id, s])) ∧ Below w.heap.size w w' := by
  have hn := numS_size id
  go_enter Tryd.func107, Tryd.ntmps107
  go_wp2_with fail
  refine (num_s id _).mono ?_
  rintro e w1 ⟨rfl, g1⟩
  go_wp2_with fail
  have g2 := below_alloc w1 (.cells #[.string key, .string (numS id), .string s] 9)
  refine (mark3 103 _ rfl (Blk.new w1 _ 9) hk (by omega) hs ((hK.below g1).below g2)).mono ?_
  rintro e w2 ⟨rfl, g3⟩
  go_wp2
  go_ret
  exact ⟨rfl, (g1.trans (g2.mono g1.size)).trans (g3.mono (g1.trans (g2.mono g1.size)).size)⟩
set_option maxRecDepth 100000 in
set_option maxHeartbeats 1000000 in
theorem pmark_any (id v : Int) (s : ByteArray) (w : World) (hs : s.size ≤ 300) (hK : Sm.KB w) :
    Calls Tryd.prog 57 #[.int .i64 id, .int .i64 v, .string s] w fun e w' => e = .returned (.string (mk 112 [numS id, numS v, s])) ∧ Below w.heap.size w w' := by
  have hn := numS_size id
  have hv := numS_size v
  go_enter Tryd.func57, Tryd.ntmps57
  go_wp2_with fail
  refine (num_s id _).mono ?_
  rintro e w1 ⟨rfl, g1⟩
  go_wp2_with fail
  refine (num_s v _).mono ?_
  rintro e w2 ⟨rfl, g2⟩
  have g2' := g1.trans (g2.mono g1.size)
  go_wp2_with fail
  have g3 := below_alloc w2 (.cells #[.string (numS id), .string (numS v), .string s] 9)
  have g3' := g2'.trans (g3.mono g2'.size)
  refine (mark3 112 _ rfl (Blk.new w2 _ 9) (by omega) (by omega) hs (hK.below g3')).mono ?_
  rintro e w3 ⟨rfl, g4⟩
  go_wp2
  go_ret
  exact ⟨rfl, g3'.trans (g4.mono g3'.size)⟩
set_option maxRecDepth 100000 in
set_option maxHeartbeats 1000000 in
theorem rpmark_any (rb : Nat) (id v : Int) (s : ByteArray) (w : World) (hR : RB w rb) (hs : s.size ≤ 300) :
    Calls Tryd.prog 58 #[.pointer (some ⟨rb, 0, none⟩), .int .i64 id, .int .i64 v, .string s] w fun e w' => e = .returned (.string (mk 112 [numS id, numS v, s])) ∧ Below w.heap.size w w' := by
  have hn := numS_size id
  have hv := numS_size v
  go_enter Tryd.func58, Tryd.ntmps58
  go_wp2_with fail
  refine (rnum_s id _).mono ?_
  rintro e w1 ⟨rfl, g1⟩
  go_wp2_with fail
  refine (rnum_s v _).mono ?_
  rintro e w2 ⟨rfl, g2⟩
  have g2' := g1.trans (g2.mono g1.size)
  go_wp2_with fail
  have g3 := below_alloc w2 (.cells #[.string (numS id), .string (numS v), .string s] 9)
  have g3' := g2'.trans (g3.mono g2'.size)
  refine (rmark3 rb 112 _ rfl (hR.below g3') (Blk.new w2 _ 9) (by omega) (by omega) hs).mono ?_
  rintro e w3 ⟨rfl, g4⟩
  go_wp2
  go_ret
  exact ⟨rfl, g3'.trans (g4.mono g3'.size)⟩
end Go.Proofs.YtfkgfakjhjbidaaDoor.Pg
