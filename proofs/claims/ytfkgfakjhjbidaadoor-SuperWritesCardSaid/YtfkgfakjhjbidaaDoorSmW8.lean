/-
  Part of the proof of SumTells: the reference's Hex answers the plain hex text (texts of at most 10000 bytes), with the library's number formatting walked.
-/
import Derived.Test.YtfkgfakjhjbidaaDoorSmW7
namespace Go.Proofs.YtfkgfakjhjbidaaDoor.Sm
open Go.RowKit
/-- The table that tells trailing zeros, at the one place that is asked here. -/
def DB (w : World) : Prop := 5 < w.heap.size ∧ w.cell? ⟨5, 15, none⟩ = some (.int .u8 4)
theorem DB.below {w w' : World} (h : DB w) (hb : Below w.heap.size w w') : DB w' :=
  ⟨Nat.lt_of_lt_of_le h.1 hb.size, by rw [hb.cell h.1]; exact h.2⟩
set_option maxHeartbeats 400000 in
theorem tz64 (w : World) (h : DB w) : Calls Tryd.prog 164 #[.int .u64 16] w fun e w' => e = .returned (.int .i64 4) ∧ w' = w := by
  have hc := h.2
  have e1 : bits BinOp.and IntKind.u64 16 (IntKind.u64.wrap (-16)) = 16 := by decide +kernel
  go_enter Tryd.func164, Tryd.ntmps164
  go_wp2
  go_ret
  exact ⟨rfl, rfl⟩
set_option maxHeartbeats 400000 in
theorem tz (w : World) (h : DB w) : Calls Tryd.prog 162 #[.int .u64 16] w fun e w' => e = .returned (.int .i64 4) ∧ w' = w := by
  go_enter Tryd.func162, Tryd.ntmps162
  go_wp2_with (go_at_call 164; refine (tz64 _ h).mono ?_; rintro e w' ⟨rfl, rfl⟩)
  go_ret
  exact ⟨rfl, rfl⟩
theorem dig36 (i : Nat) (h : i < (⟨#[48, 49, 50, 51, 52, 53, 54, 55, 56, 57, 97, 98, 99, 100, 101, 102, 103, 104, 105, 106, 107, 108, 109, 110, 111, 112, 113, 114, 115, 116, 117, 118, 119, 120, 121, 122]⟩ : ByteArray).size) (h16 : i < 16) :
    (⟨#[48, 49, 50, 51, 52, 53, 54, 55, 56, 57, 97, 98, 99, 100, 101, 102, 103, 104, 105, 106, 107, 108, 109, 110, 111, 112, 113, 114, 115, 116, 117, 118, 119, 120, 121, 122]⟩ : ByteArray)[i] = hd i := by
  have : ∀ j : Fin 16, (⟨#[48, 49, 50, 51, 52, 53, 54, 55, 56, 57, 97, 98, 99, 100, 101, 102, 103, 104, 105, 106, 107, 108, 109, 110, 111, 112, 113, 114, 115, 116, 117, 118, 119, 120, 121, 122]⟩ : ByteArray)[j.1]'(Nat.lt_of_lt_of_le j.2 (by decide)) = hd j.1 := by decide
  exact this ⟨i, h16⟩
/-- What formatBits has written behind st digits. -/
def fbA (x st j : Nat) : UInt8 := if j = 64 then (if 1 ≤ st then hd (x % 16) else 0) else if j = 63 then (if 2 ≤ st then hd (x / 16) else 0) else if j = 62 then (if 3 ≤ st then 49 else 0) else 0
theorem fbA_end (x : Nat) : (tb 65 (fbA x 3)).extract 62 (62 + 3) = (Lib.byteCells [49, hd (x / 16), hd (x % 16)]).toArray := by
  apply Array.toList_inj.1
  simp only [tb, Array.toList_extract, List.extract_eq_take_drop, ← List.map_drop, ← List.map_take]
  rfl
theorem zeroValue_run {P : Program} (t : TypeId) (v : Value) (h : (P.info? t).map (·.zero) = some (some v)) (w : World) : (zeroValue t).run P w = .ok v w := by
  obtain ⟨i, hi, hz⟩ := Option.map_eq_some_iff.1 h
  simp only [zeroValue, typeInfo, Sem.run_bind, run_program, Result.andThen_ok, hi, Sem.run_pure, hz]
theorem z84 (w : World) : (zeroValue 225).run Tryd.prog w = .ok (.agg (tb 65 (fun _ => 0))) w := zeroValue_run 225 _ (by kernel_rfl) w
set_option maxRecDepth 100000 in
set_option maxHeartbeats 1000000 in
theorem fbits (x : Nat) (w : World) (hx : x < 256) (h : DB w) : Calls Tryd.prog 151 #[.slice none 0 0, .int .u64 (256 + (x : Int)), .int .i64 16, .bool false, .bool false] w fun e w' =>
    e = .returned (.tuple #[.slice none 0 0, .string ⟨#[49, hd (x / 16), hd (x % 16)]⟩]) ∧ Below w.heap.size w w' := by
  have e1 : bits BinOp.and IntKind.i64 16 15 = 0 := by decide +kernel
  have hz := z84
  have hd' := fun o => h.below ((Below.refl w.heap.size w).alloc (Nat.le_refl _) o)
  go_enter Tryd.func151, Tryd.ntmps151
  go_wp2_with (first
    | (go_at_call 161; go_in)
    | (go_at_call 162; refine (tz _ (hd' _)).mono ?_; rintro e w' ⟨rfl, rfl⟩))
  go_loopw [1, 13] (fun u i wr => ∃ (st : Nat) (q : Nat), st ≤ 2 ∧ i = .int .i64 (65 - (st : Int)) ∧ u = .int .u64 (q : Int) ∧ Hid (q = (256 + x) / 16 ^ st) ∧ Blk wr w.heap.size (tb 65 (fbA x st)) 225 ∧ Below w.heap.size w wr) (fun _ i _ => (intOf i).toNat)
  case atStart => exact ⟨0, 256 + x, by omega, rfl, by simp, by simp [Hid], by rw [tb_congr 65 (fbA x 0) (fun _ => 0) (fun j _ => by simp [fbA])]; exact Blk.new w _ 225, (Below.refl _ _).alloc (Nat.le_refl _) _⟩
  case round =>
    obtain ⟨st, q, hst, rfl, rfl, hq, hb, hbel⟩ := hrel
    have hc := fun j (hj : j < 65) => hb.bcell j hj
    have hf := fun j => hb.frozen j
    by_cases hge : st < 2
    · have hq16 : 16 ≤ q ∧ q < 512 := by
        rw [hq.out]
        rcases (show st = 0 ∨ st = 1 by omega) with rfl | rfl <;> simp <;> omega
      obtain ⟨l16, u16⟩ := hq16
      have a15 : bits .and .u64 (q : Int) 15 = ((q % 16 : Nat) : Int) := by
        rw [show (15 : Int) = ((15 : Nat) : Int) from rfl, bits_and_u64_nat _ _ (by omega) (by omega), show (15:Nat) = 2 ^ 4 - 1 from rfl, Nat.and_two_pow_sub_one_eq_mod]
      have i1 : 65 - (st : Int) - 1 = ((64 - st : Nat) : Int) := by omega
      have i2 : 64 - st < 65 := by omega
      have i3 : q % 16 < 36 := by omega
      go_wp2
      rw [dig36 _ _ (by omega)]
      refine ⟨⟨st + 1, q / 16, by omega, ?_, by simp, ?_, ?_, hbel.setCell (Nat.le_refl _) _⟩, by simp [intOf]; omega⟩
      · refine congrArg (Value.int .i64) ?_; omega
      · show q / 16 = _
        rw [hq.out, Nat.pow_succ, ← Nat.div_div_eq_div_mul]
      · have := hb.set (64 - st) (.int .u8 ((hd (q % 16)).toNat : Int))
        rw [tb_set] at this
        rw [tb_congr 65 (fbA x (st + 1)) (fun j => if j = 64 - st then hd (q % 16) else fbA x st j)]
        · exact this
        · intro j hj
          rcases (show st = 0 ∨ st = 1 by omega) with rfl | rfl
          · rw [hq.out]; by_cases e : j = 64
            · subst e; simp [fbA]; congr 1; omega
            · simp [fbA, e]
          · rw [hq.out]; by_cases e : j = 63
            · subst e; simp [fbA]; congr 1; omega
            · simp [fbA, e]
    · have hst2 : st = 2 := by omega
      subst hst2
      have hq1 : q = 1 := by rw [hq.out]; simp; omega
      subst hq1
      have hb3 := hb.set 62 (.int .u8 ((49 : UInt8).toNat : Int))
      rw [tb_set, tb_congr 65 _ (fbA x 3) (fun j hj => by
        by_cases e : j = 62
        · subst e; simp [fbA]
        · simp [fbA, e])] at hb3
      go_wp2_with (refine wpl_string rfl 112 9 5 _ rfl Tryd.underlying112 Tryd.underlying5 Tryd.underlying9 _ _ _ _ _ _ rfl hb3 (by simp [tb_size]) _ (fbA_end x) ?_)
      go_ret2
      exact ⟨rfl, hbel.setCell (Nat.le_refl _) _⟩
set_option maxHeartbeats 400000 in
theorem fint31 (x : Nat) (w : World) (hx : x < 256) (h : DB w) : Calls Tryd.prog 126 #[.int .i64 (256 + (x : Int)), .int .i64 16] w fun e w' =>
    e = .returned (.string ⟨#[49, hd (x / 16), hd (x % 16)]⟩) ∧ Below w.heap.size w w' := by
  have n0 : decide ((256 : Int) + (x : Int) < 0) = false := by simp; omega
  go_enter Tryd.func126, Tryd.ntmps126
  go_wp2_with (go_at_call 151; refine (fbits x _ hx h).mono ?_; rintro e w1 ⟨rfl, h1⟩)
  go_ret
  exact ⟨rfl, h1⟩
set_option maxHeartbeats 400000 in
theorem fint (x : Nat) (w : World) (hx : x < 256) (h : DB w) : Calls Tryd.prog 80 #[.int .i64 (256 + (x : Int)), .int .i64 16] w fun e w' =>
    e = .returned (.string ⟨#[49, hd (x / 16), hd (x % 16)]⟩) ∧ Below w.heap.size w w' := by
  go_enter Tryd.func80, Tryd.ntmps80
  go_wp2_with (go_at_call 126; refine (fint31 x _ hx h).mono ?_; rintro e w1 ⟨rfl, h1⟩)
  go_ret
  exact ⟨rfl, h1⟩
theorem fint' (c : Int) (x : Nat) (w : World) (hc : c = 256 + (x : Int)) (hx : x < 256) (h : DB w) : Calls Tryd.prog 80 #[.int .i64 c, .int .i64 16] w fun e w' =>
    e = .returned (.string ⟨#[49, hd (x / 16), hd (x % 16)]⟩) ∧ Below w.heap.size w w' := by
  subst hc; exact fint x w hx h
set_option maxHeartbeats 400000 in
theorem refhex_any (s : ByteArray) (w : World) (hs : s.size ≤ 10000) (h : DB w) : Calls Tryd.prog 17 #[.string s] w fun e w' => e = .returned (.string ⟨(hexL s.data.toList).toArray⟩) ∧ Below w.heap.size w w' := by
  go_enter Tryd.func17, Tryd.ntmps17
  go_wp2_with fail
  go_loopw [3, 7] (fun o i wr => ∃ k : Nat, k ≤ s.size ∧ i = .int .i64 k ∧ o = .string ⟨(hexL (s.data.toList.take k)).toArray⟩ ∧ Below w.heap.size w wr) (fun _ i _ => s.size - (intOf i).toNat)
  case atStart => exact ⟨0, by omega, rfl, rfl, Below.refl _ _⟩
  case round =>
    obtain ⟨k, hk, rfl, rfl, hbel⟩ := hrel
    by_cases hlt : k < s.size
    · have d1 : s[k].toNat < 256 := s[k].toNat_lt
      have hl := hexL_length (s.data.toList.take k)
      have ht : (s.data.toList.take k).length ≤ k := List.length_take_le _ _
      have hll : (hexL (s.data.toList.take k)).length ≤ 20000 := by omega
      have HS := hexL_snoc (s.data.toList.take k) s[k]
      rw [← take_snoc s k hlt] at HS
      have HS' : Hid (hexL (s.data.toList.take (k + 1)) = hexL (s.data.toList.take k) ++ [hd (s[k].toNat / 16)] ++ [hd (s[k].toNat % 16)]) := HS
      clear HS hl ht
      generalize hexL (s.data.toList.take k) = L at *
      go_wp2_with fail
      refine (fint' _ s[k].toNat _ (by omega) d1 (h.below hbel)).mono ?_
      rintro e w1 ⟨rfl, h1⟩
      go_wp2_with fail
      refine ⟨⟨k + 1, by omega, by go_num, congrArg Value.string (ba_ext ?_), hbel.trans (h1.mono hbel.size)⟩, by simp [intOf]; omega⟩
      rw [HS'.out]
      simp
    · have hk' : k = s.size := by omega
      subst hk'
      rw [List.take_of_length_le (by simp)]
      go_wp2
      go_ret
      exact ⟨rfl, hbel⟩
end Go.Proofs.YtfkgfakjhjbidaaDoor.Sm
