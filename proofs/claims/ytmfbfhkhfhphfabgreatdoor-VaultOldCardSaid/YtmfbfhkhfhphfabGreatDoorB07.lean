/-
  Part of the proof of SumTells: the code's Sum answers the plain sum of its text (texts of at most 10000 bytes).
  Part of the proof of SumTells: the two functions that give a number's eight bytes answer the same text.
  Part of the proof of SumTells: the code's Hex answers the plain hex text (texts of at most 10000 bytes).
  Part of the proof of SumTells: the reference's Hex answers the plain hex text (texts of at most 10000 bytes), with the library's number formatting walked.
-/
import Derived.Test.YtmfbfhkhfhphfabGreatDoorB06
import Derived.Test.YtmfbfhkhfhphfabGreatDoorB01
namespace Go.Proofs.YtmfbfhkhfhphfabGreatDoor.Sm
open Go.RowKit
theorem ba_ext {a b : ByteArray} (h : a.data.toList = b.data.toList) : a = b := by
  cases a; cases b; simp at h; subst h; rfl
theorem repeatL_zero (z : Nat) : Lib.repeatL [0] z = List.replicate z 0 := by
  induction z with
  | zero => rfl
  | succ z ih => simp [Lib.repeatL, ih, List.replicate_succ]
theorem c_repeat' (c : Int) (z : Nat) (w : World) (hz : c = (z : Int)) (hc : z ≤ 100) :
    Calls Tryz.prog 165 #[.string ⟨#[0]⟩, .int .i64 c] w fun e w' => ∃ zs : List UInt8, e = .returned (.string ⟨zs.toArray⟩) ∧ Hid (zs = List.replicate z 0) ∧ zs.length ≤ 100 ∧ Below w.heap.size w w' := by
  subst hz
  refine (c_repeat ⟨#[0]⟩ z w (by omega) (by show 1 * z ≤ _; omega)).mono ?_
  rintro e w' ⟨rfl, h⟩
  exact ⟨_, rfl, repeatL_zero z, by show (Lib.repeatL [0] z).length ≤ 100; rw [repeatL_zero]; simp; exact hc, h⟩
theorem c_wide (c : Int) (N : Nat) (w : World) (hN : c = (N : Int)) :
    Calls Tryz.prog 137 #[.int .u64 c] w fun e w' => e = .returned (.string (sb 8 (numB N))) ∧ Below w.heap.size w w' := by
  subst hN; exact wide_any N w
/-- What is laid behind a text of n bytes. -/
def padL (n : Nat) : List UInt8 := 128 :: (List.replicate ((119 - n % 64) % 64) 0 ++ (List.range 8).map (numB (8 * n)))
set_option maxRecDepth 100000 in
set_option maxHeartbeats 400000 in
theorem pad_any (n : Nat) (w : World) (hn : n < 100000) :
    Calls Tryz.prog 140 #[.int .i64 (n : Int)] w fun e w' => e = .returned (.string ⟨(padL n).toArray⟩) ∧ Below w.heap.size w w' := by
  go_enter Tryz.func140, Tryz.ntmps140
  go_wp2_with fail
  refine (c_repeat' _ ((119 - n % 64) % 64) _ (by omega) (by omega)).mono ?_
  rintro e w1 ⟨zs, rfl, hzs, hlen, h1⟩
  go_wp2_with fail
  refine (c_wide _ (8 * n) _ (by omega)).mono ?_
  rintro e w2 ⟨rfl, h2⟩
  have hs8 := sb_size 8 (numB (8 * n))
  go_wp2_with fail
  go_ret
  refine ⟨?_, h1.trans (h2.mono h1.size)⟩
  refine congrArg (fun x => Ending.returned (Value.string x)) (ba_ext ?_)
  simp [padL, sb, hzs.out]
/-- The state that a sum begins with. -/
def hF (j : Nat) : BitVec 32 := BitVec.ofNat 32 ([1779033703, 3144134277, 1013904242, 2773480762, 1359893119, 2600822924, 528734635, 1541459225].getD j 0)
/-- A text's sum, as the code reckons it. -/
def sumS (s : ByteArray) : ByteArray :=
  let g := chunks hF (s.extract 0 (s.size - s.size % 64)) ((s.size - s.size % 64) / 64)
  let t := s.extract (s.size - s.size % 64) s.size ++ ⟨(padL s.size).toArray⟩
  sb 32 (stB (chunks g t ((s.size - (s.size - s.size % 64) + (padL s.size).length) / 64)))
set_option maxRecDepth 100000 in
set_option maxHeartbeats 1000000 in
theorem sum_any (s : ByteArray) (w : World) (hs : s.size ≤ 10000) (hK : KB w) :
    Calls Tryz.prog 104 #[.string s] w fun e w' => e = .returned (.string (sumS s)) ∧ Below w.heap.size w w' := by
  obtain ⟨m, em⟩ : ∃ m, Hid (m = s.size - s.size % 64) := ⟨_, rfl⟩
  have hm : (s.size : Int) - (s.size : Int) % 64 = (m : Int) := by rw [em.out]; omega
  have lm : m ≤ s.size := by rw [em.out]; omega
  go_enter Tryz.func104, Tryz.ntmps104
  go_wp2_with fail
  have hb : Blk (w.alloc (.cells #[Value.int .u32 1779033703, Value.int .u32 3144134277, Value.int .u32 1013904242, Value.int .u32 2773480762, Value.int .u32 1359893119, Value.int .u32 2600822924, Value.int .u32 528734635, Value.int .u32 1541459225] 218)) w.heap.size (tab 8 hF) 218 := Blk.new w (tab 8 hF) 218
  have hbel := (Below.refl w.heap.size w).alloc (Nat.le_refl _) (.cells #[Value.int .u32 1779033703, Value.int .u32 3144134277, Value.int .u32 1013904242, Value.int .u32 2773480762, Value.int .u32 1359893119, Value.int .u32 2600822924, Value.int .u32 528734635, Value.int .u32 1541459225] 218)
  generalize w.alloc _ = w1 at *
  refine region_tail 4 mixed (by kernel_rfl) ?_
  simp only [List.take_succ_cons, List.take_zero, List.drop_succ_cons, List.drop_zero]
  repeat (first | (refine still_load rfl 218 _ rfl 8 217 Tryz.underlying218 sz31 _ _ _ rfl (Blk.drew hb) ?_) | (refine wpStill_step (fun K hK => ?_); go_simp; (try go_bits); refine hK _ ?_; clear hK K))
  refine wpStill_nil ?_
  go_wp2_with fail
  refine (stirAll_any _ _ _ (by simp; omega) (KB.below hK (Below.drew hbel))).mono ?_
  rintro e w2 ⟨rfl, h2⟩
  have hd : w1.drew.heap.size = w1.heap.size := rfl
  have l1 := hb.lt
  have m1 := Blk.below (Blk.drew hb) h2 (by omega)
  have m2 := (Below.drew hbel).trans (h2.mono (by omega))
  clear h2 hd hb hbel
  go_wp2_with (first | (refine wpl_store_u rfl rfl 218 _ _ rfl 8 sz31 _ _ _ _ rfl rfl m1 rfl ?_; intro w3 hu3 j5) | fail)
  have j6 := below_upd m2 hu3 (Nat.le_refl _)
  clear m1 m2 hu3 l1
  obtain ⟨g, HG⟩ : ∃ g, Hid (g = chunks hF (s.extract 0 m) (m / 64)) := ⟨_, rfl⟩
  rw [← HG.out] at j5
  rw [← HG.out]
  have l5 := j5.lt
  have hpl : (padL s.size).length ≤ 100 := by simp [padL]; omega
  have hcat : ¬ (9223372036854775807 < s.size - m + (padL s.size).length) := by omega
  refine region_qtail 8 (Below w3.heap.size w3) mixed (by kernel_rfl) ((Below.refl _ _).drew) ?_
  simp only [List.take_succ_cons, List.take_zero, List.drop_succ_cons, List.drop_zero]
  refine q_load rfl 218 _ rfl 8 217 Tryz.underlying218 sz31 _ _ _ rfl (fun w' h' => Blk.below j5 h' l5) ?_
  repeat (refine q_pure rfl _ (fun w' => by go_simp; rfl) ?_)
  refine q_call rfl 140 #[.int .i64 (s.size : Int)] (fun w' => by go_simp) _ (fun w' h' => calls_below h' (pad_any s.size w' (by omega))) ?_
  repeat (refine q_pure rfl _ (fun w' => by go_simp; rfl) ?_)
  refine wpQuiet_nil ?_
  intro w4 h4
  simp only [Act.put]
  go_wp2_with fail
  have hps : (⟨(padL s.size).toArray⟩ : ByteArray).size = (padL s.size).length := rfl
  refine (stirAll_any g _ _ (by simp; omega) (KB.below (KB.below hK j6) h4)).mono ?_
  rintro e w5 ⟨rfl, h5⟩
  have n1 := Blk.below (Blk.below j5 h4 l5) h5 (by have := h4.size; omega)
  have n2 := (j6.trans (h4.mono j6.size)).trans (h5.mono (by have := h4.size; have := j6.size; omega))
  clear j5 h4 h5 j6
  go_wp2_with (first
    | (refine wpl_store_u rfl rfl 218 _ _ rfl 8 sz31 _ _ _ _ rfl rfl n1 rfl ?_; intro w6 hu6 n3)
    | (refine wpl_load rfl 218 _ rfl 8 217 Tryz.underlying218 sz31 _ _ _ _ rfl n3 (by simp [tab_size]) ?_; rw [tab_all _ _ _ (Nat.zero_add _)])
    | (go_at_call 141; refine (stText_any _ _).mono ?_; rintro e w7 ⟨rfl, h7⟩))
  have n4 := below_upd n2 hu6 (Nat.le_refl _)
  go_ret
  refine ⟨?_, n4.trans (h7.mono n4.size)⟩
  rw [HG.out, em.out]
  rfl
end Go.Proofs.YtmfbfhkhfhphfabGreatDoor.Sm
namespace Go.Proofs.YtmfbfhkhfhphfabGreatDoor.Sm
open Go.RowKit
/-- A number's eight bytes. -/
def numN (n : Int) : Nat := (n % 18446744073709551616).toNat
theorem u64_wrap (n : Int) : IntKind.u64.wrap n = (numN n : Int) := by
  simp [IntKind.wrap, IntKind.bits, IntKind.signed, numN]; omega
theorem numN_lt (n : Int) : numN n < 18446744073709551616 := by unfold numN; omega
set_option maxHeartbeats 400000 in
theorem num_any (n : Int) (w : World) : Calls Tryz.prog 101 #[.int .i64 n] w fun e w' => e = .returned (.string (sb 8 (numB (numN n)))) ∧ Below w.heap.size w w' := by
  have hu := u64_wrap n
  go_enter Tryz.func101, Tryz.ntmps101
  go_wp2_with fail
  refine (c_wide _ (numN n) _ (by omega)).mono ?_
  rintro e w1 ⟨rfl, h1⟩
  go_wp2
  go_ret
  exact ⟨rfl, h1⟩
/-- The last k bytes of a number. -/
def lastB (N k : Nat) : ByteArray := ⟨((List.range k).map fun i => numB N (8 - k + i)).toArray⟩
end Go.Proofs.YtmfbfhkhfhphfabGreatDoor.Sm
namespace Go.Proofs.YtmfbfhkhfhphfabGreatDoor.Sm
open Go.RowKit
/-- A digit of sixteen. -/
def hd (n : Nat) : UInt8 := ([48, 49, 50, 51, 52, 53, 54, 55, 56, 57, 97, 98, 99, 100, 101, 102] : List UInt8).getD n 0
/-- Two digits a byte. -/
def hexL (l : List UInt8) : List UInt8 := l.flatMap fun b => [hd (b.toNat / 16), hd (b.toNat % 16)]
theorem hexL_length (l : List UInt8) : (hexL l).length = 2 * l.length := by
  induction l with
  | nil => rfl
  | cons b l ih => simp [hexL] at ih ⊢; omega
theorem take_snoc (s : ByteArray) (k : Nat) (h : k < s.size) : s.data.toList.take (k + 1) = s.data.toList.take k ++ [s[k]] := by
  rw [List.take_succ_eq_append_getElem (by simpa using h)]; rfl
theorem hexL_snoc (l : List UInt8) (b : UInt8) : hexL (l ++ [b]) = hexL l ++ [hd (b.toNat / 16)] ++ [hd (b.toNat % 16)] := by simp [hexL]
theorem byteCells_snoc (l : List UInt8) (b : UInt8) : Lib.byteCells (l ++ [b]) = Lib.byteCells l ++ [.int .u8 (b.toNat : Int)] := by simp [Lib.byteCells]
theorem dig16 (i : Nat) (h : i < (⟨#[48, 49, 50, 51, 52, 53, 54, 55, 56, 57, 97, 98, 99, 100, 101, 102]⟩ : ByteArray).size) : (⟨#[48, 49, 50, 51, 52, 53, 54, 55, 56, 57, 97, 98, 99, 100, 101, 102]⟩ : ByteArray)[i] = hd i := by
  have h' : i < 16 := h
  have : ∀ j : Fin 16, (⟨#[48, 49, 50, 51, 52, 53, 54, 55, 56, 57, 97, 98, 99, 100, 101, 102]⟩ : ByteArray)[j.1]'(j.2) = hd j.1 := by decide
  exact this ⟨i, h'⟩
end Go.Proofs.YtmfbfhkhfhphfabGreatDoor.Sm
namespace Go.Proofs.YtmfbfhkhfhphfabGreatDoor.Sm
open Go.RowKit
/-- The table that tells trailing zeros, at the one place that is asked here. -/
def DB (w : World) : Prop := 9 < w.heap.size ∧ w.cell? ⟨9, 15, none⟩ = some (.int .u8 4)
theorem DB.below {w w' : World} (h : DB w) (hb : Below w.heap.size w w') : DB w' :=
  ⟨Nat.lt_of_lt_of_le h.1 hb.size, by rw [hb.cell h.1]; exact h.2⟩
set_option maxHeartbeats 400000 in
theorem tz64 (w : World) (h : DB w) : Calls Tryz.prog 197 #[.int .u64 16] w fun e w' => e = .returned (.int .i64 4) ∧ w' = w := by
  have hc := h.2
  have e1 : bits BinOp.and IntKind.u64 16 (IntKind.u64.wrap (-16)) = 16 := by decide +kernel
  go_enter Tryz.func197, Tryz.ntmps197
  go_wp2
  go_ret
  exact ⟨rfl, rfl⟩
set_option maxHeartbeats 400000 in
theorem tz (w : World) (h : DB w) : Calls Tryz.prog 176 #[.int .u64 16] w fun e w' => e = .returned (.int .i64 4) ∧ w' = w := by
  go_enter Tryz.func176, Tryz.ntmps176
  go_wp2_with (go_at_call 197; refine (tz64 _ h).mono ?_; rintro e w' ⟨rfl, rfl⟩)
  go_ret
  exact ⟨rfl, rfl⟩
theorem dig36 (i : Nat) (h : i < (⟨#[48, 49, 50, 51, 52, 53, 54, 55, 56, 57, 97, 98, 99, 100, 101, 102, 103, 104, 105, 106, 107, 108, 109, 110, 111, 112, 113, 114, 115, 116, 117, 118, 119, 120, 121, 122]⟩ : ByteArray).size) (h16 : i < 16) :
    (⟨#[48, 49, 50, 51, 52, 53, 54, 55, 56, 57, 97, 98, 99, 100, 101, 102, 103, 104, 105, 106, 107, 108, 109, 110, 111, 112, 113, 114, 115, 116, 117, 118, 119, 120, 121, 122]⟩ : ByteArray)[i] = hd i := by
  have : ∀ j : Fin 16, (⟨#[48, 49, 50, 51, 52, 53, 54, 55, 56, 57, 97, 98, 99, 100, 101, 102, 103, 104, 105, 106, 107, 108, 109, 110, 111, 112, 113, 114, 115, 116, 117, 118, 119, 120, 121, 122]⟩ : ByteArray)[j.1]'(Nat.lt_of_lt_of_le j.2 (by decide)) = hd j.1 := by decide
  exact this ⟨i, h16⟩
/-- What formatBits has written behind st digits. -/
def fbA (x st j : Nat) : UInt8 := if j = 64 then (if 1 ≤ st then hd (x % 16) else 0) else if j = 63 then (if 2 ≤ st then hd (x / 16) else 0) else if j = 62 then (if 3 ≤ st then 49 else 0) else 0
theorem fbA_end (x : Nat) : (tb 65 (fbA x 3)).extract 62 (62 + 3) = (Lib.byteCells [49, hd (x / 16), hd (x % 16)]).toArray := by
  apply Array.toList_inj.1
  simp only [tb, Array.toList_extract, List.extract_eq_take_drop, ← List.map_drop, ← List.map_take]
  rfl
theorem zeroValue_run {P : Program} (t : TypeId) (v : Value) (h : (P.info? t).map (·.zero) = some (some v)) (w : World) : (zeroValue t).run P w = .ok v w := by
  obtain ⟨i, hi, hz⟩ := Option.map_eq_some_iff.1 h
  simp only [zeroValue, typeInfo, Sem.run_bind, run_program, Result.andThen_ok, hi, Sem.run_pure, hz]
theorem z84 (w : World) : (zeroValue 249).run Tryz.prog w = .ok (.agg (tb 65 (fun _ => 0))) w := zeroValue_run 249 _ (by kernel_rfl) w
set_option maxRecDepth 100000 in
set_option maxHeartbeats 1000000 in
theorem fbits (x : Nat) (w : World) (hx : x < 256) (h : DB w) : Calls Tryz.prog 151 #[.slice none 0 0, .int .u64 (256 + (x : Int)), .int .i64 16, .bool false, .bool false] w fun e w' =>
    e = .returned (.tuple #[.slice none 0 0, .string ⟨#[49, hd (x / 16), hd (x % 16)]⟩]) ∧ Below w.heap.size w w' := by
  have e1 : bits BinOp.and IntKind.i64 16 15 = 0 := by decide +kernel
  have hz := z84
  have hd' := fun o => h.below ((Below.refl w.heap.size w).alloc (Nat.le_refl _) o)
  go_enter Tryz.func151, Tryz.ntmps151
  go_wp2_with (first
    | (go_at_call 175; go_in)
    | (go_at_call 176; refine (tz _ (hd' _)).mono ?_; rintro e w' ⟨rfl, rfl⟩))
  go_loopw [1, 13] (fun u i wr => ∃ (st : Nat) (q : Nat), st ≤ 2 ∧ i = .int .i64 (65 - (st : Int)) ∧ u = .int .u64 (q : Int) ∧ Hid (q = (256 + x) / 16 ^ st) ∧ Blk wr w.heap.size (tb 65 (fbA x st)) 249 ∧ Below w.heap.size w wr) (fun _ i _ => (intOf i).toNat)
  case atStart => exact ⟨0, 256 + x, by omega, rfl, by simp, by simp [Hid], by rw [tb_congr 65 (fbA x 0) (fun _ => 0) (fun j _ => by simp [fbA])]; exact Blk.new w _ 249, (Below.refl _ _).alloc (Nat.le_refl _) _⟩
  case round =>
    obtain ⟨st, q, hst, rfl, rfl, hq, hb, hbel⟩ := hrel
    have hc := fun j (hj : j < 65) => hb.bcell j hj
    have hf := fun j => hb.frozen j
    by_cases hge : st < 2
    · have hq16 : 16 ≤ q ∧ q < 512 := by
        rw [hq.out]
        rcases (show st = 0 ∨ st = 1 by omega) with rfl | rfl <;> simp <;> omega
      obtain ⟨l16, u16⟩ := hq16
      have a15 : bits .and .u64 (q : Int) 15 = ((q % 16 : Nat) : Int) := by
        rw [show (15 : Int) = ((15 : Nat) : Int) from rfl, bits_and_u64_nat _ _ (by omega) (by omega), show (15:Nat) = 2 ^ 4 - 1 from rfl, Nat.and_two_pow_sub_one_eq_mod]
      have i1 : 65 - (st : Int) - 1 = ((64 - st : Nat) : Int) := by omega
      have i2 : 64 - st < 65 := by omega
      have i3 : q % 16 < 36 := by omega
      go_wp2
      rw [dig36 _ _ (by omega)]
      refine ⟨⟨st + 1, q / 16, by omega, ?_, by simp, ?_, ?_, hbel.setCell (Nat.le_refl _) _⟩, by simp [intOf]; omega⟩
      · refine congrArg (Value.int .i64) ?_; omega
      · show q / 16 = _
        rw [hq.out, Nat.pow_succ, ← Nat.div_div_eq_div_mul]
      · have := hb.set (64 - st) (.int .u8 ((hd (q % 16)).toNat : Int))
        rw [tb_set] at this
        rw [tb_congr 65 (fbA x (st + 1)) (fun j => if j = 64 - st then hd (q % 16) else fbA x st j)]
        · exact this
        · intro j hj
          rcases (show st = 0 ∨ st = 1 by omega) with rfl | rfl
          · rw [hq.out]; by_cases e : j = 64
            · subst e; simp [fbA]; congr 1; omega
            · simp [fbA, e]
          · rw [hq.out]; by_cases e : j = 63
            · subst e; simp [fbA]; congr 1; omega
            · simp [fbA, e]
    · have hst2 : st = 2 := by omega
      subst hst2
      have hq1 : q = 1 := by rw [hq.out]; simp; omega
      subst hq1
      have hb3 := hb.set 62 (.int .u8 ((49 : UInt8).toNat : Int))
      rw [tb_set, tb_congr 65 _ (fbA x 3) (fun j hj => by
        by_cases e : j = 62
        · subst e; simp [fbA]
        · simp [fbA, e])] at hb3
      go_wp2_with (refine wpl_string rfl 105 9 5 _ rfl Tryz.underlying105 Tryz.underlying5 Tryz.underlying9 _ _ _ _ _ _ rfl hb3 (by simp [tb_size]) _ (fbA_end x) ?_)
      go_ret2
      exact ⟨rfl, hbel.setCell (Nat.le_refl _) _⟩
set_option maxHeartbeats 400000 in
theorem fint31 (x : Nat) (w : World) (hx : x < 256) (h : DB w) : Calls Tryz.prog 116 #[.int .i64 (256 + (x : Int)), .int .i64 16] w fun e w' =>
    e = .returned (.string ⟨#[49, hd (x / 16), hd (x % 16)]⟩) ∧ Below w.heap.size w w' := by
  have n0 : decide ((256 : Int) + (x : Int) < 0) = false := by simp; omega
  go_enter Tryz.func116, Tryz.ntmps116
  go_wp2_with (go_at_call 151; refine (fbits x _ hx h).mono ?_; rintro e w1 ⟨rfl, h1⟩)
  go_ret
  exact ⟨rfl, h1⟩
end Go.Proofs.YtmfbfhkhfhphfabGreatDoor.Sm
