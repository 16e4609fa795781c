/-
  Part of the proof: the reference's SuperWrite is walked.
-/
import Derived.Test.YtfkgfakjhjbidaaDoorSu3
import Derived.Maps.Own
namespace Go.Proofs.YtfkgfakjhjbidaaDoor.Su
open Go.RowKit Pg Go.ChangeMaps Go.Maps
theorem plainElem_string_inv {H : Type} {P : Program} {e : TypeId} (he : P.underlying e = some .string) {v : Value} {z : DataW H × List MemPlace} (h : plainElem P e v = some z) : ∃ s, v = .string s ∧ z.1 = .lit (.string s.data.toList) := by
  unfold plainElem at h
  rw [he] at h
  cases v with
  | string s =>
    simp only at h
    split at h
    · cases h; exact ⟨s, rfl, rfl⟩
    · cases h
  | _ => cases h
theorem grown_below {w w' : World} {b B : Nat} (h : w.grownBy w' (some b)) (hb : B ≤ b) (hB : B ≤ w.heap.size) : Below B w w' :=
  ⟨h.os, h.tape, h.output, h.size, fun k hk => h.block k (by omega) (by simp; omega)⟩
theorem map_below (w : World) : Below w.heap.size w (w.alloc (.map #[] 0)) := below_alloc w _
set_option maxRecDepth 20000 in
/-- What the small map of digits tells. -/
theorem look_digit (w : World) (b : Bool) : ∃ w2 w3, (Instr.mapUpdate 161 (.map (some w.heap.size)) (.bool true) (.string ⟨#[49]⟩)).run Tryd.prog (w.alloc (.map #[] 0)) = .ok () w2 ∧
    (Instr.mapUpdate 161 (.map (some w.heap.size)) (.bool false) (.string ⟨#[48]⟩)).run Tryd.prog w2 = .ok () w3 ∧
    (Instr.lookup 161 (.map (some w.heap.size)) (.bool b) false).run Tryd.prog w3 = .ok (.string ⟨#[dig b]⟩) w3 ∧ Below w.heap.size w w3 := by
  have K := bool_keyed (P := Tryd.prog) Tryd.underlying4
  have o1 := World.ownsMap_made (H := Unit) w Tryd.prog 4 (plainElem Tryd.prog 9)
  obtain ⟨w2, r2, o2, g2⟩ := o1.update K Tryd.underlying161 (by decide) (keyOf_bool_mk Tryd.underlying4 true) (plainElem_string Tryd.underlying9 (s := ⟨#[49]⟩) (by decide))
  obtain ⟨w3, r3, o3, g3⟩ := o2.update K Tryd.underlying161 (by decide) (keyOf_bool_mk Tryd.underlying4 false) (plainElem_string Tryd.underlying9 (s := ⟨#[48]⟩) (by decide))
  obtain ⟨v, ps, r4, hv⟩ := o3.lookup K Tryd.underlying161 (Tryd.zeroValue9 w3) (plainElem_string Tryd.underlying9 (s := ⟨#[]⟩) (by decide)) (keyOf_bool_mk Tryd.underlying4 b)
  refine ⟨w2, w3, r2, r3, ?_, ?_⟩
  · rw [r4]
    obtain ⟨s, rfl, hs⟩ := plainElem_string_inv Tryd.underlying9 hv
    have hd : (((DataW.map (H := Unit) []).put (.bool true) (.lit (.string [49]))).put (.bool false) (.lit (.string [48]))).atKey (.bool b) (.lit (.string [])) = .lit (.string [dig b]) := by cases b <;> rfl
    have he : (DataW.lit (.string s.data.toList) : DataW Unit) = .lit (.string [dig b]) := hs.symm.trans hd
    have hl : s.data.toList = [dig b] := by injection he with he; injection he
    have : s = ⟨#[dig b]⟩ := by apply ByteArray.ext; exact Array.toList_inj.1 hl
    rw [this]
  · have b1 := map_below w
    have b2 := b1.trans (grown_below g2 (Nat.le_refl _) (by simp))
    exact b2.trans (grown_below g3 (Nat.le_refl _) b2.size)
section
variable {ops : Array Oper} {Q : Exit → Act → World → Prop} {a : Act} {w : World} {rest : List Oper} {o : Oper}
/-- One of a row of 32 bools. -/
theorem wpl_index32 (hgd : o.guard = none) (x y : Operand) (ho : o.op = .index 91 x y) (f : Nat → Bool) (F : Array Value) (hF : F = bl 32 f) (k : Nat) (hx : a.eval x = .agg F) (hy : a.eval y = .int .i64 (k : Int)) (hk : k < 32)
    (h : wpList Tryd.prog ops Q rest (a.put o.dst (.bool (f k))) w) : wpList Tryd.prog ops Q (o :: rest) a w := by
  subst hF
  refine wpList_plain hgd fun K hK => ?_
  have hr : (Instr.index 91 (.agg (bl 32 f)) (.int .i64 (k : Int))).run Tryd.prog w = .ok (.bool (f k)) w := by
    have hk' : (0 : Int) ≤ (k : Int) ∧ (k : Int) < ((32 : Nat) : Int) := by omega
    have hg := bl_get 32 f k hk
    have u31 := Tryd.underlying91
    have a30 := Tryd.isAgg4 w
    have z30 := Tryd.sizeOf4 w
    simp only [Instr.index, asIntOf, Sem.run_bind, Sem.run_pure, Result.andThen_ok, underlying, run_program, u31, Sem.run_ite, if_pos hk', z30, part, a30]
    simp [hg]
  unfold Oper.wp execOp
  simp only [ho, hx, hy, Sem.run_bind, Sem.run_pure, Result.andThen_ok, hr]
  exact hK _ _ h
theorem wpl_insert {P : Program} (hgd : o.guard = none) (hdn : o.dst = none) (t : TypeId) (m x y : Operand) (ho : o.op = .insert t m x y) (vm vx vy : Value) (hm : a.eval m = vm) (hx : a.eval x = vx) (hy : a.eval y = vy) (w' : World) (hr : (Instr.mapUpdate t vm vx vy).run P w = .ok () w')
    (h : wpList P ops Q rest a w') : wpList P ops Q (o :: rest) a w := by
  refine wpList_plain hgd fun K hK => ?_
  unfold Oper.wp execOp
  simp only [ho, hm, hx, hy, Sem.run_bind, Sem.run_pure, Result.andThen_ok, hr]
  simp only [Oper.upon_skip, hdn, Act.put]
  exact hK _ _ h
theorem wpl_look {P : Program} (hgd : o.guard = none) (t : TypeId) (m x : Operand) (ho : o.op = .lookup t m x false) (vm vx v : Value) (hm : a.eval m = vm) (hx : a.eval x = vx) (hr : (Instr.lookup t vm vx false).run P w = .ok v w)
    (h : wpList P ops Q rest (a.put o.dst v) w) : wpList P ops Q (o :: rest) a w := by
  refine wpList_plain hgd fun K hK => ?_
  unfold Oper.wp execOp
  simp only [ho, hm, hx, Sem.run_bind, Sem.run_pure, Result.andThen_ok, hr]
  exact hK _ _ h
end
set_option maxRecDepth 100000 in
set_option maxHeartbeats 2000000 in
theorem rwrite_bad (rb : Nat) (key : ByteArray) (c e : Int) (f : Nat → Bool) (r : ByteArray) (w : World) (ho : okW key c e r = false) :
    Calls Tryd.prog 67 #[.pointer (some ⟨rb, 0, none⟩), .string key, .agg (supA c e f r)] w fun e' w' => e' = .returned (.tuple #[.string ⟨#[]⟩, .int .i64 1]) ∧ Below w.heap.size w w' := by
  have j0 := Blk.new w (supA c e f r) 93
  have c0 := sup_c0 j0
  have c1 := sup_c1 j0
  have c3 := sup_c3 j0
  have g0 := below_alloc w (.cells (supA c e f r) 93)
  by_cases h1 : key.size = 32
  · have h1' : (key.size : Int) = 32 := by omega
    cases h2 : okN c with
    | false =>
      go_enter Tryd.func67, Tryd.ntmps67
      go_wp2_with (go_at_call 83; refine (in_any _ _).mono ?_; rintro e' w' ⟨rfl, rfl⟩; rw [h2])
      go_ret2
      exact ⟨rfl, g0⟩
    | true =>
      cases h3 : okN e with
      | false =>
        go_enter Tryd.func67, Tryd.ntmps67
        go_wp2_with (go_at_call 83; refine (in_any _ _).mono ?_; rintro e' w' ⟨rfl, rfl⟩; first | rw [h2] | rw [h3])
        go_ret2
        exact ⟨rfl, g0⟩
      | true =>
        have h4 : decide (r.size = 16) = false := by
          refine decide_eq_false fun h5 => ?_
          unfold okW at ho
          rw [h2, h3, decide_eq_true h1, decide_eq_true h5] at ho
          cases ho
        go_enter Tryd.func67, Tryd.ntmps67
        go_wp2_with (first
          | (go_at_call 83; refine (in_any _ _).mono ?_; rintro e' w' ⟨rfl, rfl⟩; first | rw [h2] | rw [h3])
          | (go_at_call 117; refine (mark_any _ _).mono ?_; rintro e' w' ⟨rfl, rfl⟩; rw [h4]))
        go_ret2
        exact ⟨rfl, g0⟩
  · have h1' : ¬ ((key.size : Int) = 32) := by omega
    go_enter Tryd.func67, Tryd.ntmps67
    go_wp2
    go_ret2
    exact ⟨rfl, g0⟩
set_option maxRecDepth 100000 in
set_option maxHeartbeats 2000000 in
theorem rwrite_good (rb : Nat) (key : ByteArray) (c e : Int) (f : Nat → Bool) (r : ByteArray) (w : World) (ho : okW key c e r = true) (hR : RB w rb) :
    Calls Tryd.prog 67 #[.pointer (some ⟨rb, 0, none⟩), .string key, .agg (supA c e f r)] w fun e' w' => e' = .returned (.tuple #[.string (allT key c e f r), .int .i64 0]) ∧ Below w.heap.size w w' := by
  obtain ⟨h1, h2, h3, h4⟩ := okW_parts ho
  have h1' : (key.size : Int) = 32 := by omega
  have h4' : decide (r.size = 16) = true := decide_eq_true h4
  obtain ⟨V, hV⟩ : ∃ V, Hid (supA c e f r = V) := ⟨_, rfl⟩
  have j0 : Blk (w.alloc (.cells V 93)) w.heap.size (supA c e f r) 93 := by rw [hV.out]; exact Blk.new w V 93
  have c0 := sup_c0 j0
  have c1 := sup_c1 j0
  have c3 := sup_c3 j0
  have g0 := below_alloc w (.cells V 93)
  rw [hV.out]
  have za := ahd_size c e f r
  have zm := mk_size 122 [key, ahd c e f r]
  have z1 := numS_size c
  have z2 := numS_size e
  have HA : Hid (ahd c e f r ++ mk 122 [key, ahd c e f r] = allT key c e f r) := rfl
  go_enter Tryd.func67, Tryd.ntmps67
  go_wp2_with (first
    | (go_at_call 83; refine (in_any _ _).mono ?_; rintro e' w' ⟨rfl, rfl⟩; first | rw [h2] | rw [h3])
    | (go_at_call 117; refine (mark_any _ _).mono ?_; rintro e' w' ⟨rfl, rfl⟩; rw [h4']))
  generalize hw1 : w.alloc (.cells V 93) = w1 at *
  have HW : Hid (w.heap.size < w1.heap.size) := by unfold Hid; rw [← hw1]; simp
  clear hw1 c0 c1 c3 hV
  have HS : Hid (∀ w', Below w1.heap.size w1 w' → Blk w' w.heap.size (supA c e f r) 93) := fun w' hb => j0.below hb HW.out
  refine regS_in 9 (fun w' => Below w1.heap.size w1 w') mixed rfl ?_
  have s0 : Below w1.heap.size w1 w1.drew := below_drewN (Below.refl _ _) 1
  refine regS_take 0 32 (.pointer (some ⟨w.heap.size, 0, none⟩)) rfl rfl (by kernel_rfl) (fun _ _ _ h => h) rfl (fun w _ => by go_simp) s0 ?_
  refine regS_take 1 33 (.int .i64 c) rfl rfl (by kernel_rfl) (fun _ _ _ h => h) rfl (fun w hs => by have c0 := sup_c0 (HS.out w hs); go_simp) s0 ?_
  refine regS_take 4 36 (.pointer (some ⟨w.heap.size, 1, none⟩)) rfl rfl (by kernel_rfl) (fun _ _ _ h => h) rfl (fun w _ => by go_simp) s0 ?_
  refine regS_take 5 37 (.int .i64 e) rfl rfl (by kernel_rfl) (fun _ _ _ h => h) rfl (fun w hs => by have c0 := sup_c1 (HS.out w hs); go_simp) s0 ?_
  simp only [Act.put, List.setIfInBounds_toArray, List.set_cons_succ, List.set_cons_zero]
  refine regS_one 2 rfl (by kernel_rfl) rfl (fun K hK' => ?_)
  go_wp2_with fail
  refine (rnum_s c _).mono ?_
  rintro e' w2 ⟨rfl, g2⟩
  have s2 := s0.trans g2
  refine hK' _ _ s2 ?_
  clear hK' K
  refine regS_take 3 35 (.string (⟨#[99, 102]⟩ ++ numS c)) rfl rfl (by kernel_rfl) (fun _ _ _ h => h) rfl (fun w _ => by go_simp) s2 ?_
  simp only [Act.put, List.setIfInBounds_toArray, List.set_cons_succ, List.set_cons_zero]
  refine regS_one 6 rfl (by kernel_rfl) rfl (fun K hK' => ?_)
  go_wp2_with fail
  refine (rnum_s e _).mono ?_
  rintro e' w3 ⟨rfl, g3⟩
  have s3 := s2.trans (g3.mono s2.size)
  refine hK' _ _ s3 ?_
  clear hK' K
  refine regS_take 7 39 (.string (⟨#[99, 102]⟩ ++ numS c ++ numS e)) rfl rfl (by kernel_rfl) (fun _ _ _ h => h) rfl (fun w _ => by go_simp) s3 ?_
  refine regS_take 8 8 (.string (⟨#[99, 102]⟩ ++ numS c ++ numS e)) rfl rfl (by kernel_rfl) (fun _ _ _ h => h) rfl (fun w _ => by go_simp) s3 ?_
  simp only [Act.put, List.setIfInBounds_toArray, List.set_cons_succ, List.set_cons_zero]
  refine regS_end (by kernel_rfl) ?_
  have b3 := g0.trans (s3.mono g0.size)
  have j3 := HS.out _ s3
  have hp : ((⟨#[99, 102]⟩ : ByteArray) ++ numS c ++ numS e).size = 18 := by
    rw [ByteArray.size_append, ByteArray.size_append, z1, z2]; rfl
  have HF : Hid (∀ p : ByteArray, p = ⟨#[99, 102]⟩ ++ numS c ++ numS e → p ++ sb 32 (fun j => dig (f j)) ++ r = ahd c e f r) := fun p hp => by rw [hp]; rfl
  obtain ⟨A, hA⟩ : ∃ A : ByteArray, Hid (A = ⟨#[99, 102]⟩ ++ numS c ++ numS e) := ⟨_, rfl⟩
  rw [← hA.out] at hp
  rw [← hA.out]
  have HG := HF.out A hA.out
  have HG' : Hid (A ++ sb 32 (fun j => dig (f j)) ++ r = ahd c e f r) := HG
  have R3 : RB w3 rb := hR.below b3
  clear HG HF hA g2 g3 s0 s2 s3 HS j0 g0 z1 z2
  go_wp2_with (first
    | (refine wpl_loadV rfl 91 _ rfl Tryd.isAgg91 32 sz91 w.heap.size 2 _ 93 rfl j3 (by rw [supA_size]; omega) ?_; rw [supA_sides])
    | fail)
  obtain ⟨F, hF⟩ : ∃ F, Hid (F = bl 32 f) := ⟨_, rfl⟩
  rw [← hF.out]
  have j3' : Hid (Blk w3 w.heap.size (supA c e f r) 93) := j3
  have HZ : Hid (key.size = 32 ∧ r.size = 16 ∧ (ahd c e f r).size = 50 + r.size ∧ (mk 122 [key, ahd c e f r]).size = 16 ∧ A.size = 18) := ⟨h1, h4, za, zm, hp⟩
  clear j3 hp za zm h1' h4' h1 h2 h3 h4 ho
  go_loopw [8, 42] (fun t i wr => ∃ k : Nat, k ≤ 32 ∧ i = .int .i64 k ∧ t = .string (A ++ sb k (fun j => dig (f j))) ∧ Below w3.heap.size w3 wr) (fun _ i _ => 32 - (intOf i).toNat)
  case atStart => exact ⟨0, by omega, rfl, by rw [sb_zero]; exact congrArg Value.string (by apply ByteArray.ext; simp), Below.refl _ _⟩
  case round =>
    obtain ⟨k, hk, rfl, rfl, br⟩ := hrel
    by_cases hlt : k < 32
    · obtain ⟨wa, wb, r1, r2, r3, bb⟩ := look_digit wr (f k)
      have zs : (A ++ sb k (fun j => dig (f j))).size ≤ 1000 := by rw [ByteArray.size_append, sb_size, HZ.out.2.2.2.2]; omega
      have ze : Hid ((A ++ sb k (fun j => dig (f j))) ++ ⟨#[dig (f k)]⟩ = A ++ sb (k + 1) (fun j => dig (f j))) := by
        unfold Hid; rw [ByteArray.append_assoc, sb_succ]
      generalize dig (f k) = D at *
      have q1 : Hid _ := r1
      have q2 : Hid _ := r2
      have q3 : Hid _ := r3
      clear r1 r2 r3
      generalize A ++ sb k (fun j => dig (f j)) = T at *
      have hmm := @run_makeMap Tryd.prog
      go_wp2_with (first
        | (refine wpl_index32 rfl _ _ rfl f F hF.out k rfl rfl hlt ?_)
        | (refine wpl_insert rfl rfl 161 _ _ _ rfl (.map (some wr.heap.size)) (.bool true) (.string ⟨#[49]⟩) rfl rfl rfl wa q1.out ?_)
        | (refine wpl_insert rfl rfl 161 _ _ _ rfl (.map (some wr.heap.size)) (.bool false) (.string ⟨#[48]⟩) rfl rfl rfl wb q2.out ?_)
        | (refine wpl_look rfl 161 _ _ rfl (.map (some wr.heap.size)) (.bool (f k)) (.string ⟨#[D]⟩) rfl rfl q3.out ?_)
        | fail)
      rw [ze.out]
      exact ⟨⟨k + 1, by omega, by go_num, rfl, br.trans (bb.mono br.size)⟩, by simp [intOf]; omega⟩
    · have hk' : k = 32 := by omega
      subst hk'
      obtain ⟨h1, h4, za, zm, hp⟩ := HZ.out
      have zs : (A ++ sb 32 (fun j => dig (f j))).size = 50 := by rw [ByteArray.size_append, sb_size, hp]
      generalize A ++ sb 32 (fun j => dig (f j)) = T at *
      have c3 := sup_c3 (j3'.out.below br j3'.out.lt)
      have b4 := b3.trans (br.mono b3.size)
      have R4 := R3.below br
      have h1' : (key.size : Int) = 32 := by omega
      clear b3 br R3 j3' HZ
      have HT : Hid (T ++ r = ahd c e f r) := HG'
      clear HG'
      go_wp2_with fail
      rw [HT.out]
      have g5 := below_alloc wr (.cells #[.string key, .string (ahd c e f r)] 9)
      have b5 := b4.trans (g5.mono b4.size)
      refine (rmark2 rb rfl (R4.below g5) (Blk.new wr _ 9) (by omega) (by omega)).mono ?_
      rintro e' w6 ⟨rfl, g6⟩
      have b6 := b5.trans (g6.mono b5.size)
      clear g5 g6 b5 b4 R4 c3 HT
      generalize mk 122 [key, ahd c e f r] = M at *
      generalize ahd c e f r = B at *
      go_wp2
      rw [HA.out]
      go_ret2
      exact ⟨rfl, b6⟩
theorem rwrite_any (rb : Nat) (key : ByteArray) (c e : Int) (f : Nat → Bool) (r : ByteArray) (w : World) (hR : RB w rb) :
    Calls Tryd.prog 67 #[.pointer (some ⟨rb, 0, none⟩), .string key, .agg (supA c e f r)] w fun e' w' => e' = .returned (.tuple #[.string (wrT key c e f r), .int .i64 (wrC key c e r)]) ∧ Below w.heap.size w w' := by
  unfold wrT wrC
  cases ho : okW key c e r with
  | false => exact rwrite_bad rb key c e f r w ho
  | true => exact rwrite_good rb key c e f r w ho hR
end Go.Proofs.YtfkgfakjhjbidaaDoor.Su
