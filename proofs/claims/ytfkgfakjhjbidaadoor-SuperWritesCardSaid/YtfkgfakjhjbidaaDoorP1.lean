/-
  Part of the proof: texts with 0 behind them, and the code's 'padded'.
-/
import Derived.Test.YtfkgfakjhjbidaaDoorSmShelf
import Derived.Test.YtfkgfakjhjbidaaDoorTxt
import Derived.Test.YtfkgfakjhjbidaaDoorRT
namespace Go.Proofs.YtfkgfakjhjbidaaDoor.Pg
open Go.RowKit
theorem mixed : Tryd.prog.follows .mixedOrders = true := by kernel_rfl
theorem repeat_zero (n : Nat) : Lib.repeatL [(0 : UInt8)] n = List.replicate n 0 := by
  induction n with
  | zero => rfl
  | succ n ih => simp [Lib.repeatL, ih, List.replicate_succ]
/-- So many bytes of 0. -/
def zs (n : Nat) : ByteArray := ⟨(List.replicate n 0).toArray⟩
theorem zs_size (n : Nat) : (zs n).size = n := by simp [zs, ByteArray.size]
theorem repeat_any (n : Nat) (c : Int) (w : World) (hc : c = (n : Int)) (hn : n ≤ 10000) : Calls Tryd.prog 53 #[.string ⟨#[0]⟩, .int .i64 c] w fun e w' => e = .returned (.string (zs n)) ∧ Below w.heap.size w w' := by
  subst hc
  have := Sm.c_repeat ⟨#[0]⟩ n w (by omega) (by have : ByteArray.size ⟨#[0]⟩ = 1 := rfl; rw [this]; omega)
  refine this.mono fun e w' ⟨he, hb⟩ => ⟨?_, hb⟩
  rw [he]
  have : (⟨#[0]⟩ : ByteArray).data.toList = [0] := rfl
  rw [this, repeat_zero]
  rfl
theorem zeros_any (n : Nat) (c : Int) (w : World) (hc : c = (n : Int)) (hn : n ≤ 10000) : Calls Tryd.prog 91 #[.int .i64 c] w fun e w' => e = .returned (.string (zs n)) ∧ Below w.heap.size w w' := by
  subst hc
  go_enter Tryd.func91, Tryd.ntmps91
  go_wp2_with (go_at_call 53; refine (repeat_any n _ _ rfl hn).mono ?_; rintro e w1 ⟨rfl, g1⟩)
  go_ret
  exact ⟨rfl, g1⟩
section
variable {P : Program} {Q : Exit → Act → World → Prop} {K : Act → World → Prop} {a : Act} {w : World} {o : Oper}
/-- A row of bytes told as a text, within a region that draws its order. -/
theorem op_string (src dst e : TypeId) (x : Operand) (ho : o.op = .convert src dst x) (hs : P.underlying src = some (.slice e)) (he : P.underlying e = some (.int .u8)) (hd : P.underlying dst = some .string)
    (b n cap : Nat) (arr : Array Value) (T : TypeId) (hx : a.eval x = .slice (some ⟨b, 0, none⟩) n cap) (hb : Blk w b arr T) (hn : 0 + n ≤ arr.size) (l : List UInt8) (hl : arr.extract 0 (0 + n) = (Lib.byteCells l).toArray)
    (h : K (a.put o.dst (.string ⟨l.toArray⟩)) w) : o.wp P a w K Q := by
  have := bytes_run P w b 0 n cap arr T hb hn l hl
  unfold Oper.wp execOp
  simp only [ho, hx, Sem.run_bind, Sem.run_pure, Result.andThen_ok, run_convert_bytes_string w src dst e _ _ _ hs he hd, this]
  exact h
end
/-- How many bytes a text has, the text, and 0 up to 200 bytes. -/
def padT (s : ByteArray) : ByteArray := ⟨#[UInt8.ofNat s.size]⟩ ++ s ++ zs (200 - s.size)
theorem padT_size (s : ByteArray) (h : s.size ≤ 200) : (padT s).size = 201 := by
  unfold padT; rw [ByteArray.size_append, ByteArray.size_append, zs_size]
  have : ByteArray.size ⟨#[UInt8.ofNat s.size]⟩ = 1 := rfl
  omega
theorem lenB (s : ByteArray) (h : s.size ≤ 200) : (#[Value.int .u8 (s.size : Int)] : Array Value).extract 0 (0 + 1) = (Lib.byteCells [UInt8.ofNat s.size]).toArray := by
  have : (UInt8.ofNat s.size).toNat = s.size := by rw [UInt8.toNat_ofNat', Nat.mod_eq_of_lt (by omega)]
  simp [Lib.byteCells, this]
set_option maxRecDepth 100000 in
set_option maxHeartbeats 1000000 in
theorem padded_any (s : ByteArray) (w : World) (hs : s.size ≤ 200) :
    Calls Tryd.prog 106 #[.string s] w fun e w' => e = .returned (.string (padT s)) ∧ Below w.heap.size w w' := by
  have hs' : (s.size : Int) ≤ 200 := by omega
  obtain ⟨nn, hnn⟩ : ∃ nn, Hid (nn = 200 - s.size) := ⟨_, rfl⟩
  have hnI : (200 : Int) - (s.size : Int) = (nn : Int) := by rw [hnn.out]; omega
  have hn1 : nn ≤ 200 := by rw [hnn.out]; omega
  have hwn : IntKind.i64.wrap (nn : Int) = (nn : Int) := by rw [IntKind.wrap_i64]; omega
  have hwb : IntKind.u8.wrap (s.size : Int) = (s.size : Int) := by simp [IntKind.wrap, IntKind.bits, IntKind.signed]; omega
  have hlB := lenB s hs
  have HF : Hid ((⟨[UInt8.ofNat s.size].toArray⟩ : ByteArray) ++ s ++ zs nn = padT s) := by unfold Hid padT; rw [hnn.out]
  have hz1 : (⟨[UInt8.ofNat s.size].toArray⟩ : ByteArray).size = 1 := rfl
  have hz2 := zs_size nn
  obtain ⟨B1, hB1⟩ : ∃ B1 : ByteArray, B1 = ⟨[UInt8.ofNat s.size].toArray⟩ := ⟨_, rfl⟩
  rw [← hB1] at HF hz1
  have hz3 : (B1 ++ s).size = 1 + s.size := by rw [ByteArray.size_append, hz1]
  have g0 : Below w.heap.size w w.drew := below_drewN (Below.refl _ _) 1
  go_enter Tryd.func106, Tryd.ntmps106
  go_wp2_with fail
  refine reg_in 13 mixed rfl ?_
  refine reg_take 0 3 (.string s) rfl rfl (by kernel_rfl) (fun _ _ _ h => h) rfl (fun w => by go_simp) ?_
  refine reg_take 1 4 (.int .i64 s.size) rfl rfl (by kernel_rfl) (fun _ _ _ h => h) rfl (fun w => by go_simp) ?_
  refine reg_take 2 5 (.int .u8 s.size) rfl rfl (by kernel_rfl) (fun _ _ _ h => h) rfl (fun w => by go_simp) ?_
  refine reg_take 5 8 (.string s) rfl rfl (by kernel_rfl) (fun _ _ _ h => h) rfl (fun w => by go_simp) ?_
  refine reg_take 7 10 (.string s) rfl rfl (by kernel_rfl) (fun _ _ _ h => h) rfl (fun w => by go_simp) ?_
  refine reg_take 8 11 (.int .i64 s.size) rfl rfl (by kernel_rfl) (fun _ _ _ h => h) rfl (fun w => by go_simp) ?_
  refine reg_take 9 12 (.int .i64 nn) rfl rfl (by kernel_rfl) (fun _ _ _ h => h) rfl (fun w => by go_simp) ?_
  simp only [Act.put, List.setIfInBounds_toArray, List.set_cons_succ, List.set_cons_zero]
  clear hnI hwn hwb
  refine reg_two 3 10 rfl rfl (by kernel_rfl) rfl rfl (fun K hK => ?_) (fun K hK => ?_)
  · go_wp2_with fail
    have b1 : Blk (w.alloc (.cells #[.int .u8 (s.size : Int)] 5)).drew w.heap.size #[.int .u8 (s.size : Int)] 5 := (Blk.new w _ 5).drew
    have g1 : Below w.heap.size w (w.alloc (.cells #[.int .u8 (s.size : Int)] 5)).drew := below_drewN ((Below.refl w.heap.size w).alloc (Nat.le_refl _) _) 1
    generalize (w.alloc (.cells #[.int .u8 (s.size : Int)] 5)).drew = w1 at *
    refine reg_two 4 10 rfl rfl (by kernel_rfl) rfl rfl (fun K hK => ?_) (fun K hK => ?_)
    · refine op_string 112 9 5 _ rfl Tryd.underlying112 Tryd.underlying5 Tryd.underlying9 _ 1 1 _ 5 rfl b1 (by simp) _ hlB ?_
      refine hK _ _ ?_
      clear hK K
      rw [← hB1]
      refine reg_take 6 9 (.string (B1 ++ s)) rfl rfl (by kernel_rfl) (fun _ _ _ h => h) rfl (fun w => by go_simp; omega) ?_
      simp only [Act.put, List.setIfInBounds_toArray, List.set_cons_succ, List.set_cons_zero]
      refine reg_one 10 rfl (by kernel_rfl) rfl (fun K hK => ?_)
      go_wp2_with (go_at_call 53; refine (repeat_any nn _ _ rfl (by omega)).mono ?_; rintro e w2 ⟨rfl, g2⟩)
      have g3 := g1.trans (g2.mono g1.size)
      refine reg_take 11 14 (.string (B1 ++ s ++ zs nn)) rfl rfl (by kernel_rfl) (fun _ _ _ h => h) rfl (fun w => by go_simp; omega) ?_
      refine reg_take 12 2 (.string (B1 ++ s ++ zs nn)) rfl rfl (by kernel_rfl) (fun _ _ _ h => h) rfl (fun w => by go_simp) ?_
      simp only [Act.put, List.setIfInBounds_toArray, List.set_cons_succ, List.set_cons_zero]
      rw [HF.out]
      refine reg_end (by kernel_rfl) ?_
      go_wp2_with fail
      go_ret
      exact ⟨rfl, g3⟩
    · go_wp2_with (go_at_call 53; refine (repeat_any nn _ _ rfl (by omega)).mono ?_; rintro e w2 ⟨rfl, g2⟩)
      have b2 := b1.below g2 b1.lt
      have g3 := g1.trans (g2.mono g1.size)
      refine reg_one 4 rfl (by kernel_rfl) rfl (fun K hK => ?_)
      refine op_string 112 9 5 _ rfl Tryd.underlying112 Tryd.underlying5 Tryd.underlying9 _ 1 1 _ 5 rfl b2 (by simp) _ hlB ?_
      refine hK _ _ ?_
      clear hK K
      rw [← hB1]
      refine reg_take 6 9 (.string (B1 ++ s)) rfl rfl (by kernel_rfl) (fun _ _ _ h => h) rfl (fun w => by go_simp; omega) ?_
      simp only [Act.put, List.setIfInBounds_toArray, List.set_cons_succ, List.set_cons_zero]
      refine reg_take 11 14 (.string (B1 ++ s ++ zs nn)) rfl rfl (by kernel_rfl) (fun _ _ _ h => h) rfl (fun w => by go_simp; omega) ?_
      refine reg_take 12 2 (.string (B1 ++ s ++ zs nn)) rfl rfl (by kernel_rfl) (fun _ _ _ h => h) rfl (fun w => by go_simp) ?_
      simp only [Act.put, List.setIfInBounds_toArray, List.set_cons_succ, List.set_cons_zero]
      rw [HF.out]
      refine reg_end (by kernel_rfl) ?_
      go_wp2_with fail
      go_ret
      exact ⟨rfl, g3⟩
  · go_wp2_with (go_at_call 53; refine (repeat_any nn _ _ rfl (by omega)).mono ?_; rintro e w2 ⟨rfl, g2⟩)
    have g3 := g0.trans g2
    refine reg_one 3 rfl (by kernel_rfl) rfl (fun K hK => ?_)
    go_wp2_with fail
    have b4 := Blk.new w2 #[.int .u8 (s.size : Int)] 5
    have g4 := g3.alloc g3.size (.cells #[.int .u8 (s.size : Int)] 5)
    refine reg_one 4 rfl (by kernel_rfl) rfl (fun K hK => ?_)
    refine op_string 112 9 5 _ rfl Tryd.underlying112 Tryd.underlying5 Tryd.underlying9 _ 1 1 _ 5 rfl b4 (by simp) _ hlB ?_
    refine hK _ _ ?_
    clear hK K
    rw [← hB1]
    refine reg_take 6 9 (.string (B1 ++ s)) rfl rfl (by kernel_rfl) (fun _ _ _ h => h) rfl (fun w => by go_simp; omega) ?_
    simp only [Act.put, List.setIfInBounds_toArray, List.set_cons_succ, List.set_cons_zero]
    refine reg_take 11 14 (.string (B1 ++ s ++ zs nn)) rfl rfl (by kernel_rfl) (fun _ _ _ h => h) rfl (fun w => by go_simp; omega) ?_
    refine reg_take 12 2 (.string (B1 ++ s ++ zs nn)) rfl rfl (by kernel_rfl) (fun _ _ _ h => h) rfl (fun w => by go_simp) ?_
    simp only [Act.put, List.setIfInBounds_toArray, List.set_cons_succ, List.set_cons_zero]
    rw [HF.out]
    refine reg_end (by kernel_rfl) ?_
    go_wp2_with fail
    go_ret
    exact ⟨rfl, g4⟩
end Go.Proofs.YtfkgfakjhjbidaaDoor.Pg
