/-
  Part of the proof: a call of SuperWrites returns true, whatever the input, where the two variables that it reads lie as laid.
-/
import Derived.Test.YtfkgfakjhjbidaaDoorSu7
import Derived.Test.YtfkgfakjhjbidaaDoorA3
namespace Go.Proofs.YtfkgfakjhjbidaaDoor.Su
open Go.RowKit Pg
theorem bare_any (w : World) (n : Int) (hE : EB w) : Calls Tryd.prog 24 #[errV n, .int .i64 n] w fun e w' => e = .returned (.bool true) ∧ Below w.heap.size w w' := by
  unfold errV
  by_cases h : n = 0
  · subst h
    rw [if_pos rfl]
    exact (bare_nil w).mono fun e w' ⟨he, hw⟩ => ⟨he, by rw [hw]; exact Below.refl _ _⟩
  · rw [if_neg h]; exact bare_some w n hE
theorem four {w : World} {b : Nat} {T : TypeId} {x y z u : ByteArray} (h : Blk w b #[.string x, .string y, .string z, .string u] T) (hx : x.size ≤ 300) (hy : y.size ≤ 300) (hz : z.size ≤ 300) (hu : u.size ≤ 300) (j : Nat) (hj : j < 4) : ∃ v : ByteArray, w.cell? ⟨b, j, none⟩ = some (.string v) ∧ v.size ≤ 300 := by
  have hc := h.cell j
  match j, hj with
  | 0, _ => exact ⟨x, hc, hx⟩
  | 1, _ => exact ⟨y, hc, hy⟩
  | 2, _ => exact ⟨z, hc, hz⟩
  | 3, _ => exact ⟨u, hc, hu⟩
section
variable {P : Program} {Q : Exit → Act → World → Prop} {K : Act → World → Prop} {a : Act} {w : World} {o : Oper}
theorem op_loadV (t : TypeId) (x : Operand) (ho : o.op = .load t x) (p : Addr) (hx : a.eval x = .pointer (some p)) (v : Value) (hl : (loadVar t p).run P w = .ok v w) (h : K (a.put o.dst v) w) : o.wp P a w K Q := by
  unfold Oper.wp
  rw [exec_load t x ho p hx v hl]
  exact h
end
section
variable {P : Program} {ops : Array Oper} {Q : Exit → Act → World → Prop} {a : Act} {w : World} {rest : List Oper} {o : Oper}
/-- .. where its guard wants it. -/
theorem wpl_loadW (hw : Region.wanted o (yielded ops a.tmps) = true) (t : TypeId) (x : Operand) (ho : o.op = .load t x) (p : Addr) (hx : a.eval x = .pointer (some p)) (v : Value) (hl : (loadVar t p).run P w = .ok v w) (h : wpList P ops Q rest (a.put o.dst v) w) : wpList P ops Q (o :: rest) a w := by
  refine BigFrame.wpList_want hw fun K hK => ?_
  exact op_loadV t x ho p hx v hl (hK _ _ h)
end
theorem par_sup (key s : ByteArray) : ∃ c e f r, parV key s = supA c e f r := by
  unfold parV
  split
  · split
    · exact ⟨_, _, _, _, rfl⟩
    · split
      · exact ⟨_, _, _, _, rfl⟩
      · exact ⟨_, _, _, _, rfl⟩
  · exact ⟨_, _, _, _, rfl⟩
theorem par_size (key s : ByteArray) : (parV key s).size = 35 := by
  obtain ⟨c, e, f, r, h⟩ := par_sup key s
  rw [h]; exact supA_size _ _ _ _
theorem par_one (key s : ByteArray) : ∀ v ∈ (parV key s).toList, v.oneCell' = true := by
  obtain ⟨c, e, f, r, h⟩ := par_sup key s
  rw [h]; exact supA_one _ _ _ _
theorem par_ne (key s : ByteArray) (w : World) : (binOp .neq 93 (.agg (parV key s)) (.agg (parV key s))).run Tryd.prog w = .ok (.bool false) w := by
  obtain ⟨c, e, f, r, h⟩ := par_sup key s
  rw [h]; exact ne_super _ _ _ _ w
theorem wrT_size (key : ByteArray) (c e : Int) (f : Nat → Bool) (r : ByteArray) : (wrT key c e f r).size ≤ 82 := by
  unfold wrT
  cases ho : okW key c e r with
  | false => exact Nat.zero_le _
  | true => rw [if_pos rfl, allT_size, (okW_parts ho).2.2.2]; exact Nat.le_refl _
theorem guard93 : Tryd.prog.eqGuardType Tryd.prog.depth 93 = false := by kernel_rfl
set_option maxRecDepth 100000 in
set_option maxHeartbeats 2000000 in
theorem law_any (key : ByteArray) (c e : Int) (f : Nat → Bool) (r s : ByteArray) (w : World) (h1 : key.size ≤ maxLen) (h2 : r.size ≤ maxLen) (h3 : s.size ≤ maxLen) (hK : Sm.KB w) (hE : EB w) :
    Calls Tryd.prog 11 #[.string key, .agg (supA c e f r), .string s] w fun e' w' => e' = .returned (.bool true) ∧ Below w.heap.size w w' := by
  obtain ⟨V, hV⟩ : ∃ V, Hid (supA c e f r = V) := ⟨_, rfl⟩
  have j0 : Blk (w.alloc (.cells V 93)) w.heap.size (supA c e f r) 93 := by rw [hV.out]; exact Blk.new w V 93
  have c3 := sup_c3 j0
  have g0 := below_alloc w (.cells V 93)
  have i0 := Blk.new w V 93
  have vn := supA_size c e f r
  rw [hV.out] at vn
  rw [hV.out]
  clear j0
  have hl := Sm.long_any key (w.alloc (.cells V 93)) h1
  have hl2 := Sm.long_any r (w.alloc (.cells V 93)) h2
  unfold maxLen at h1 h2 h3
  by_cases c1 : 60 < key.size
  · rw [decide_eq_true c1] at hl
    go_enter Tryd.func11, Tryd.ntmps11
    go_wp2_with (go_at_call 12; refine hl.mono ?_; rintro e' w' ⟨rfl, rfl⟩)
    go_ret
    exact ⟨rfl, g0⟩
  rw [decide_eq_false c1] at hl
  by_cases c2 : 60 < r.size
  · rw [decide_eq_true c2] at hl2
    go_enter Tryd.func11, Tryd.ntmps11
    go_wp2_with fail
    refine hl.mono ?_
    rintro e' w' ⟨rfl, rfl⟩
    go_wp2_with fail
    refine hl2.mono ?_
    rintro e' w' ⟨rfl, rfl⟩
    go_wp2
    go_ret
    exact ⟨rfl, g0⟩
  rw [decide_eq_false c2] at hl2
  by_cases c4 : 300 < s.size
  · have d3 : decide ((300 : Int) < (s.size : Int)) = true := decide_eq_true (by omega)
    go_enter Tryd.func11, Tryd.ntmps11
    go_wp2_with fail
    refine hl.mono ?_
    rintro e' w' ⟨rfl, rfl⟩
    go_wp2_with fail
    refine hl2.mono ?_
    rintro e' w' ⟨rfl, rfl⟩
    go_wp2
    go_ret
    exact ⟨rfl, g0⟩
  have d3 : decide ((300 : Int) < (s.size : Int)) = false := decide_eq_false (by omega)
  go_enter Tryd.func11, Tryd.ntmps11
  go_wp2_with fail
  refine hl.mono ?_
  rintro e' w' ⟨rfl, rfl⟩
  go_wp2_with fail
  refine hl2.mono ?_
  rintro e' w' ⟨rfl, rfl⟩
  generalize hw1 : w.alloc (.cells V 93) = w1 at *
  clear hl hl2 c3 hw1
  go_wp2_with fail
  refine (Sm.new_any _).mono ?_
  rintro e' w2 ⟨rb, rfl, hrb, hR2, g2⟩
  have R2 : RB w2 rb := hR2
  have b2 := g0.trans (g2.mono g0.size)
  have i2 := i0.below g2 i0.lt
  have HS := fun (w0 : World) (r0 : RB w0 rb) => rwrite_any rb key c e f r w0 r0
  have HT := fun (w0 : World) (k0 : Sm.KB w0) => write_any key c e f r w0 k0
  have zT := wrT_size key c e f r
  simp only [hV.out] at HS HT
  generalize wrT key c e f r = A at *
  generalize wrC key c e r = C at *
  clear g0 g2 i0 hR2 hrb d3 hV
  go_wp2_with (first
    | (refine wpl_loadV rfl 93 _ rfl Tryd.isAgg93 35 sz93 w.heap.size 0 V 93 rfl i2 (by omega) ?_; rw [ext_all vn])
    | fail)
  refine (HS _ R2).mono ?_
  rintro e' w3 ⟨rfl, g3⟩
  have b3 := b2.trans (g3.mono b2.size)
  have i3 := i2.below g3 i2.lt
  have R3 := R2.below g3
  go_wp2_with (first
    | (refine wpl_loadV rfl 93 _ rfl Tryd.isAgg93 35 sz93 w.heap.size 0 V 93 rfl i3 (by omega) ?_; rw [ext_all vn])
    | fail)
  refine (HT _ (hK.below b3)).mono ?_
  rintro e' w4 ⟨rfl, g4⟩
  have b4 := b3.trans (g4.mono b3.size)
  have R4 := R3.below g4
  go_wp2_with fail
  refine (bare_any _ C (hE.below b4)).mono ?_
  rintro e' w5 ⟨rfl, g5⟩
  have b5 := b4.trans (g5.mono b4.size)
  have R5 := R4.below g5
  have za : (A ++ ⟨#[0, 0]⟩).size = A.size + 2 := by rw [ByteArray.size_append]; rfl
  have zb : (A ++ ⟨#[120]⟩).size = A.size + 1 := by rw [ByteArray.size_append]; rfl
  clear HS HT i2 i3 R2 R3 R4 b2 b3 b4 g3 g4 g5
  go_wp2_with fail
  have g7 := below_alloc w5 (.cells #[.string s, .string A, .string (A ++ ⟨#[0, 0]⟩), .string (A ++ ⟨#[120]⟩)] 9)
  have b7 := b5.trans (g7.mono b5.size)
  have R7 := R5.below g7
  have bk := Blk.new w5 #[.string s, .string A, .string (A ++ ⟨#[0, 0]⟩), .string (A ++ ⟨#[120]⟩)] 9
  obtain ⟨w7, hw7⟩ : ∃ w7, Hid (w5.alloc (.cells #[.string s, .string A, .string (A ++ ⟨#[0, 0]⟩), .string (A ++ ⟨#[120]⟩)] 9) = w7) := ⟨_, rfl⟩
  obtain ⟨Bk, hBk⟩ : ∃ Bk, Hid (Bk = w5.heap.size) := ⟨_, rfl⟩
  rw [hw7.out] at b7 R7 bk
  rw [← hBk.out] at bk
  rw [hw7.out, ← hBk.out]
  clear g7 b5 R5 hw7 hBk h1 h2 h3
  go_loopw [61] (fun i wr => ∃ j : Nat, j ≤ 4 ∧ i = .int .i64 j ∧ Below w7.heap.size w7 wr) (fun i _ => 4 - (intOf i).toNat)
  case atStart => exact ⟨0, by omega, rfl, Below.refl _ _⟩
  case round =>
    obtain ⟨j, hj, rfl, br⟩ := hrel
    have gr := b7.trans (br.mono b7.size)
    have Rr := R7.below br
    by_cases hlt : j < 4
    · obtain ⟨x, hx, zx⟩ := four (bk.below br bk.lt) (by omega) (by omega) (by omega) (by omega) j hlt
      have hlt' : (j : Int) < 4 := by omega
      have hj0 : (0 : Int) ≤ (j : Int) := by omega
      have HP := fun (w0 : World) (r0 : RB w0 rb) => rparse_any rb key x w0 (by omega) r0
      have HC := fun (w0 : World) (k0 : Sm.KB w0) => parse_any key x w0 (by omega) k0
      have pn := par_size key x
      have p1 := par_one key x
      have hne := par_ne key x
      generalize parV key x = U at *
      generalize parC key x = D at *
      have z93 := zero93
      have zn := sup0_size
      obtain ⟨Z, hZ⟩ : ∃ Z, Hid (sup0 = Z) := ⟨_, rfl⟩
      rw [hZ.out] at zn
      simp only [hZ.out] at z93
      have hgd := guard93
      go_wp2_with fail
      refine (HP _ Rr).mono ?_
      rintro e' w8 ⟨rfl, g8⟩
      have b8 := br.trans (g8.mono br.size)
      go_wp2_with (first
        | (refine wpl_storeV rfl rfl 93 _ _ rfl 35 sz93 w8.heap.size Z 93 U p1 rfl rfl (Blk.new w8 Z 93) zn pn ?_; intro w9 hu9 i9)
        | fail)
      have b9 := below_upd (b8.alloc b8.size (.cells Z 93)) hu9 b8.size
      refine (HC _ (hK.below (b7.trans (b9.mono b7.size)))).mono ?_
      rintro e' wA ⟨rfl, gA⟩
      have bA := b9.trans (gA.mono b9.size)
      have iA := i9.below gA i9.lt
      go_wp2_with (first
        | (refine wpl_storeV rfl rfl 93 _ _ rfl 35 sz93 wA.heap.size Z 93 U p1 rfl rfl (Blk.new wA Z 93) zn pn ?_; intro wB huB iB)
        | fail)
      have bB := below_upd (bA.alloc bA.size (.cells Z 93)) huB bA.size
      have iAB := (iA.alloc (.cells Z 93)).upd huB (by have := iA.lt; omega)
      refine (bare_any _ D (hE.below (b7.trans (bB.mono b7.size)))).mono ?_
      rintro e' wC ⟨rfl, gC⟩
      have bC := bB.trans (gC.mono bB.size)
      have l1 := loadV_run wC 93 Tryd.isAgg93 35 sz93 w8.heap.size 0 U 93 (iAB.below gC iAB.lt) (by omega)
      have l2 := loadV_run wC 93 Tryd.isAgg93 35 sz93 wA.heap.size 0 U 93 (iB.below gC iB.lt) (by omega)
      rw [ext_all pn] at l1 l2
      clear HP HC i9 iA iB iAB g8 gA gC b8 b9 bA bB hu9 huB z93
      go_wp2_with (first
        | (refine wpl_loadW (by kernel_rfl) 93 _ rfl ⟨w8.heap.size, 0, none⟩ rfl _ l1 ?_)
        | (refine wpl_loadW (by kernel_rfl) 93 _ rfl ⟨wA.heap.size, 0, none⟩ rfl _ l2 ?_)
        | fail)
      exact ⟨⟨j + 1, by omega, by go_num, bC⟩, by simp [intOf]; omega⟩
    · have hj3 : decide ((j : Int) < 4) = false := decide_eq_false (by omega)
      go_wp2_with fail
      go_ret
      exact ⟨rfl, gr⟩
end Go.Proofs.YtfkgfakjhjbidaaDoor.Su
