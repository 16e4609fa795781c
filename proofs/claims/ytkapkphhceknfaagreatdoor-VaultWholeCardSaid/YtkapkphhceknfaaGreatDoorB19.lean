/-
  Part of the proof: the code's Write of what tells of all is walked.
  Part of the proof: strings.Clone tells the text itself.
-/
import Derived.Test.YtkapkphhceknfaaGreatDoorB17
import Derived.Test.YtkapkphhceknfaaGreatDoorB18
import Derived.Shelf.Pu.Clone
import Derived.Test.YtkapkphhceknfaaGreatDoorProg
import Derived.Test.YtkapkphhceknfaaGreatDoorB02
namespace Go.Proofs.YtkapkphhceknfaaGreatDoor.Su
open Go.RowKit Pg
/-- What Write asks. -/
def okW (key : ByteArray) (c e : Int) (r : ByteArray) : Bool := decide (key.size = 32) && okN c && okN e && decide (r.size = 16)
/-- What stands ahead of the seal. -/
def ahd (c e : Int) (f : Nat → Bool) (r : ByteArray) : ByteArray := ⟨#[99, 102]⟩ ++ numS c ++ numS e ++ dg f ++ r
theorem ahd_size (c e : Int) (f : Nat → Bool) (r : ByteArray) : (ahd c e f r).size = 50 + r.size := by
  unfold ahd
  rw [ByteArray.size_append, ByteArray.size_append, ByteArray.size_append, ByteArray.size_append, numS_size, numS_size, dg_size]
  have : ByteArray.size ⟨#[99, 102]⟩ = 2 := rfl
  omega
/-- All of it. -/
def allT (key : ByteArray) (c e : Int) (f : Nat → Bool) (r : ByteArray) : ByteArray := ahd c e f r ++ mk 122 [key, ahd c e f r]
theorem allT_size (key : ByteArray) (c e : Int) (f : Nat → Bool) (r : ByteArray) : (allT key c e f r).size = 66 + r.size := by
  unfold allT; rw [ByteArray.size_append, ahd_size, mk_size]; omega
def wrT (key : ByteArray) (c e : Int) (f : Nat → Bool) (r : ByteArray) : ByteArray := if okW key c e r then allT key c e f r else ⟨#[]⟩
def wrC (key : ByteArray) (c e : Int) (r : ByteArray) : Int := if okW key c e r then 0 else 1
def errV (n : Int) : Value := if n = 0 then .nilIface else .iface 41 (.int .i64 n)
theorem parts2 {w : World} {b : Nat} {T : TypeId} {x y : ByteArray} (h : Blk w b #[.string x, .string y] T) : Sm.Parts w (some ⟨b, 0, none⟩) 2 [x, y] := by
  refine ⟨rfl, fun j hj => ?_⟩
  have hc := h.cell j
  match j, hj with
  | 0, _ => exact ⟨b, 0, x, rfl, h.lt, hc, rfl⟩
  | 1, _ => exact ⟨b, 0, y, rfl, h.lt, hc, rfl⟩
theorem all2 {x y : ByteArray} (hx : x.size ≤ 300) (hy : y.size ≤ 300) : ∀ p ∈ [x, y], p.size ≤ 300 := by
  intro p hp
  simp only [List.mem_cons, List.not_mem_nil, or_false] at hp
  rcases hp with rfl | rfl <;> assumption
theorem mark2 {k : Int} (hk : k = 122) {b : Nat} {T : TypeId} {x y : ByteArray} {w : World} (h : Blk w b #[.string x, .string y] T) (hx : x.size ≤ 300) (hy : y.size ≤ 300) (hK : Sm.KB w) :
    Calls Tryz.prog 56 #[.int .u8 k, .slice (some ⟨b, 0, none⟩) 2 2] w fun e w' => e = .returned (.string (mk 122 [x, y])) ∧ Below w.heap.size w w' := by
  subst hk; exact Sm.mark_any 122 _ 2 2 _ w (parts2 h) (by decide) (all2 hx hy) hK
theorem exec_load {P : Program} {a : Act} {o : Oper} {w : World} (t : TypeId) (x : Operand) (ho : o.op = .load t x) (p : Addr) (hx : a.eval x = .pointer (some p)) (v : Value) (hl : (loadVar t p).run P w = .ok v w) : (execOp a.eval o).run P w = .ok (.value v) w := by
  unfold execOp
  simp only [ho, hx, Instr.loadAt, Instr.sureAddr, Sem.run_bind, Sem.run_pure, Result.andThen_ok, hl]
section
variable {w : World} {b : Nat} {c e : Int} {f : Nat → Bool} {r : ByteArray}
theorem sup_c0 (h : Blk w b (supA c e f r) 72) : w.cell? ⟨b, 0, none⟩ = some (.int .i64 c) := by rw [h.cell, supA_0]
theorem sup_c1 (h : Blk w b (supA c e f r) 72) : w.cell? ⟨b, 1, none⟩ = some (.int .i64 e) := by rw [h.cell, supA_1]
theorem sup_c3 (h : Blk w b (supA c e f r) 72) : w.cell? ⟨b, 34, none⟩ = some (.string r) := by rw [h.cell, supA_34]
theorem sup_ld (h : Blk w b (supA c e f r) 72) : (loadVar 70 ⟨b, 2, none⟩).run Tryz.prog w = .ok (.agg (bl 32 f)) w := by
  rw [loadV_run w _ Tryz.isAgg70 32 sz91 b 2 _ _ h (by rw [supA_size]; omega), supA_sides]
end
set_option maxRecDepth 100000 in
set_option maxHeartbeats 2000000 in
theorem write_bad (key : ByteArray) (c e : Int) (f : Nat → Bool) (r : ByteArray) (w : World) (ho : okW key c e r = false) :
    Calls Tryz.prog 38 #[.string key, .agg (supA c e f r)] w fun e w' => e = .returned (.tuple #[.string ⟨#[]⟩, .iface 41 (.int .i64 1)]) ∧ Below w.heap.size w w' := by
  have j0 := Blk.new w (supA c e f r) 72
  have c0 := sup_c0 j0
  have c1 := sup_c1 j0
  have c3 := sup_c3 j0
  have g0 := below_alloc w (.cells (supA c e f r) 72)
  by_cases h1 : key.size = 32
  · have h1' : (key.size : Int) = 32 := by omega
    cases h2 : okN c with
    | false =>
      go_enter Tryz.func38, Tryz.ntmps38
      go_wp2_with (go_at_call 53; refine (isNumber_any _ _).mono ?_; rintro e' w' ⟨rfl, rfl⟩; rw [h2])
      go_ret2
      exact ⟨rfl, g0⟩
    | true =>
      cases h3 : okN e with
      | false =>
        go_enter Tryz.func38, Tryz.ntmps38
        go_wp2_with (go_at_call 53; refine (isNumber_any _ _).mono ?_; rintro e' w' ⟨rfl, rfl⟩; first | rw [h2] | rw [h3])
        go_ret2
        exact ⟨rfl, g0⟩
      | true =>
        have h4 : ¬ ((r.size : Int) = 16) := by
          intro h4
          have h5 : r.size = 16 := by omega
          unfold okW at ho
          rw [h2, h3, decide_eq_true h1, decide_eq_true h5] at ho
          cases ho
        go_enter Tryz.func38, Tryz.ntmps38
        go_wp2_with (go_at_call 53; refine (isNumber_any _ _).mono ?_; rintro e' w' ⟨rfl, rfl⟩; first | rw [h2] | rw [h3])
        go_ret2
        exact ⟨rfl, g0⟩
  · have h1' : ¬ ((key.size : Int) = 32) := by omega
    go_enter Tryz.func38, Tryz.ntmps38
    go_wp2
    go_ret2
    exact ⟨rfl, g0⟩
theorem okW_parts {key : ByteArray} {c e : Int} {r : ByteArray} (h : okW key c e r = true) : key.size = 32 ∧ okN c = true ∧ okN e = true ∧ r.size = 16 := by
  unfold okW at h
  simp only [Bool.and_eq_true, decide_eq_true_eq] at h
  exact ⟨h.1.1.1, h.1.1.2, h.1.2, h.2⟩
set_option maxRecDepth 100000 in
set_option maxHeartbeats 2000000 in
theorem write_good (key : ByteArray) (c e : Int) (f : Nat → Bool) (r : ByteArray) (w : World) (ho : okW key c e r = true) (hK : Sm.KB w) :
    Calls Tryz.prog 38 #[.string key, .agg (supA c e f r)] w fun e' w' => e' = .returned (.tuple #[.string (allT key c e f r), .nilIface]) ∧ Below w.heap.size w w' := by
  obtain ⟨h1, h2, h3, h4⟩ := okW_parts ho
  have h1' : (key.size : Int) = 32 := by omega
  have h4' : (r.size : Int) = 16 := by omega
  have j0 := Blk.new w (supA c e f r) 72
  have c0 := sup_c0 j0
  have c1 := sup_c1 j0
  have c3 := sup_c3 j0
  have g0 := below_alloc w (.cells (supA c e f r) 72)
  have za := ahd_size c e f r
  have zm := mk_size 122 [key, ahd c e f r]
  have z1 := numS_size c
  have z2 := numS_size e
  have z3 := dg_size f
  have HF : Hid (⟨#[99, 102]⟩ ++ numS c ++ numS e ++ dg f ++ r = ahd c e f r) := rfl
  have HA : Hid (ahd c e f r ++ mk 122 [key, ahd c e f r] = allT key c e f r) := rfl
  go_enter Tryz.func38, Tryz.ntmps38
  go_wp2_with (go_at_call 53; refine (isNumber_any _ _).mono ?_; rintro e' w' ⟨rfl, rfl⟩; first | rw [h2] | rw [h3])
  generalize hw1 : w.alloc (.cells (supA c e f r) 72) = w1 at *
  have HW : Hid (w.heap.size < w1.heap.size) := by unfold Hid; rw [← hw1]; simp
  clear hw1 c0 c1 c3
  have HS : Hid (∀ w', Below w1.heap.size w1 w' → Blk w' w.heap.size (supA c e f r) 72) := fun w' hb => j0.below hb HW.out
  refine regS_in 16 (fun w' => Below w1.heap.size w1 w') mixed rfl ?_
  have s0 : Below w1.heap.size w1 w1.drew := below_drewN (Below.refl _ _) 1
  refine regS_take 0 29 (.pointer (some ⟨w.heap.size, 0, none⟩)) rfl rfl (by kernel_rfl) (fun _ _ _ h => h) rfl (fun w _ => by go_simp) s0 ?_
  refine regS_take 1 30 (.int .i64 c) rfl rfl (by kernel_rfl) (fun _ _ _ h => h) rfl (fun w hs => by have c0 := sup_c0 (HS.out w hs); go_simp) s0 ?_
  refine regS_take 4 33 (.pointer (some ⟨w.heap.size, 1, none⟩)) rfl rfl (by kernel_rfl) (fun _ _ _ h => h) rfl (fun w _ => by go_simp) s0 ?_
  refine regS_take 5 34 (.int .i64 e) rfl rfl (by kernel_rfl) (fun _ _ _ h => h) rfl (fun w hs => by have c0 := sup_c1 (HS.out w hs); go_simp) s0 ?_
  refine regS_take 8 37 (.pointer (some ⟨w.heap.size, 2, none⟩)) rfl rfl (by kernel_rfl) (fun _ _ _ h => h) rfl (fun w _ => by go_simp) s0 ?_
  refine regS_take 9 38 (.agg (bl 32 f)) rfl rfl (by kernel_rfl) (fun _ _ _ h => h) rfl (fun w' hs => exec_load 70 _ rfl ⟨w.heap.size, 2, none⟩ rfl _ (sup_ld (HS.out w' hs))) s0 ?_
  refine regS_take 12 41 (.pointer (some ⟨w.heap.size, 34, none⟩)) rfl rfl (by kernel_rfl) (fun _ _ _ h => h) rfl (fun w _ => by go_simp) s0 ?_
  refine regS_take 13 42 (.string r) rfl rfl (by kernel_rfl) (fun _ _ _ h => h) rfl (fun w hs => by have c0 := sup_c3 (HS.out w hs); go_simp) s0 ?_
  simp only [Act.put, List.setIfInBounds_toArray, List.set_cons_succ, List.set_cons_zero]
  refine regS_one 2 rfl (by kernel_rfl) rfl (fun K hK' => ?_)
  go_wp2_with fail
  refine (num_s c _).mono ?_
  rintro e' w2 ⟨rfl, g2⟩
  have s2 := s0.trans g2
  refine hK' _ _ s2 ?_
  clear hK' K
  refine regS_take 3 32 (.string (⟨#[99, 102]⟩ ++ numS c)) rfl rfl (by kernel_rfl) (fun _ _ _ h => h) rfl (fun w _ => by go_simp) s2 ?_
  simp only [Act.put, List.setIfInBounds_toArray, List.set_cons_succ, List.set_cons_zero]
  refine regS_one 6 rfl (by kernel_rfl) rfl (fun K hK' => ?_)
  go_wp2_with fail
  refine (num_s e _).mono ?_
  rintro e' w3 ⟨rfl, g3⟩
  have s3 := s2.trans (g3.mono s2.size)
  refine hK' _ _ s3 ?_
  clear hK' K
  refine regS_take 7 36 (.string (⟨#[99, 102]⟩ ++ numS c ++ numS e)) rfl rfl (by kernel_rfl) (fun _ _ _ h => h) rfl (fun w _ => by go_simp) s3 ?_
  simp only [Act.put, List.setIfInBounds_toArray, List.set_cons_succ, List.set_cons_zero]
  refine regS_one 10 rfl (by kernel_rfl) rfl (fun K hK' => ?_)
  go_wp2_with fail
  refine (sidesText_any f _).mono ?_
  rintro e' w4 ⟨rfl, g4⟩
  have s4 := s3.trans (g4.mono s3.size)
  refine hK' _ _ s4 ?_
  clear hK' K
  refine regS_take 11 40 (.string (⟨#[99, 102]⟩ ++ numS c ++ numS e ++ dg f)) rfl rfl (by kernel_rfl) (fun _ _ _ h => h) rfl (fun w _ => by go_simp) s4 ?_
  refine regS_take 14 43 (.string (⟨#[99, 102]⟩ ++ numS c ++ numS e ++ dg f ++ r)) rfl rfl (by kernel_rfl) (fun _ _ _ h => h) rfl (fun w _ => by go_simp) s4 ?_
  refine regS_take 15 6 (.string (⟨#[99, 102]⟩ ++ numS c ++ numS e ++ dg f ++ r)) rfl rfl (by kernel_rfl) (fun _ _ _ h => h) rfl (fun w _ => by go_simp) s4 ?_
  simp only [Act.put, List.setIfInBounds_toArray, List.set_cons_succ, List.set_cons_zero]
  rw [HF.out]
  refine regS_end (by kernel_rfl) ?_
  have b4 := g0.trans (s4.mono g0.size)
  clear g2 g3 g4 s0 s2 s3 s4 HS HW j0 g0 HF
  go_wp2_with fail
  have g5 := below_alloc w4 (.cells #[.string key, .string (ahd c e f r)] 9)
  have b5 := b4.trans (g5.mono b4.size)
  refine (mark2 rfl (Blk.new w4 _ 9) (by omega) (by omega) (hK.below b5)).mono ?_
  rintro e' w6 ⟨rfl, g6⟩
  have b6 := b5.trans (g6.mono b5.size)
  clear g5 g6 b5 b4
  generalize mk 122 [key, ahd c e f r] = M at *
  generalize ahd c e f r = A at *
  go_wp2
  rw [HA.out]
  go_ret2
  exact ⟨rfl, b6⟩
theorem write_any (key : ByteArray) (c e : Int) (f : Nat → Bool) (r : ByteArray) (w : World) (hK : Sm.KB w) :
    Calls Tryz.prog 38 #[.string key, .agg (supA c e f r)] w fun e' w' => e' = .returned (.tuple #[.string (wrT key c e f r), errV (wrC key c e r)]) ∧ Below w.heap.size w w' := by
  unfold wrT wrC errV
  cases ho : okW key c e r with
  | false => exact write_bad key c e f r w ho
  | true => exact write_good key c e f r w ho hK
end Go.Proofs.YtkapkphhceknfaaGreatDoor.Su
namespace Go.Proofs.YtkapkphhceknfaaGreatDoor.Su
open Go.Shelf Go.RowKit
def lr : Go.Shelf.Ren := ⟨fun | 25 => 123 | n => n, fun | 37 => 87 | 47 => 171 | n => n, fun | n => n⟩
theorem lays25 : Go.Proofs.LaysPu.n25 Tryz.prog lr := {
  mixed := by kernel_rfl
  f25 := Tryz.func123.trans (congrArg some (by kernel_rfl))
  t0 := Tryz.underlying0
  a0 := Tryz.isAgg0
  z0 := Tryz.sizeOf0
  v0 := Tryz.zeroValue0
  i0 := by kernel_rfl
  t3 := Tryz.underlying3
  a3 := Tryz.isAgg3
  z3 := Tryz.sizeOf3
  v3 := Tryz.zeroValue3
  i3 := by kernel_rfl
  t4 := Tryz.underlying4
  a4 := Tryz.isAgg4
  z4 := Tryz.sizeOf4
  v4 := Tryz.zeroValue4
  i4 := by kernel_rfl
  t5 := Tryz.underlying5
  a5 := Tryz.isAgg5
  z5 := Tryz.sizeOf5
  v5 := Tryz.zeroValue5
  i5 := by kernel_rfl
  t9 := Tryz.underlying9
  a9 := Tryz.isAgg9
  z9 := Tryz.sizeOf9
  v9 := Tryz.zeroValue9
  i9 := by kernel_rfl
  t37 := Tryz.underlying87
  a37 := Tryz.isAgg87
  z37 := Tryz.sizeOf87
  v37 := Tryz.zeroValue87
  i37 := by kernel_rfl
  t47 := Tryz.underlying171
  a47 := Tryz.isAgg171
  z47 := Tryz.sizeOf171
  v47 := Tryz.zeroValue171
  i47 := by kernel_rfl }
theorem slClone_any (s : ByteArray) (w : World) (h : s.size ≤ 10000) : Calls Tryz.prog 123 #[.string s] w fun e w' => e = .returned (.string s) ∧ Below w.heap.size w w' := AnyPu.stringslite_Clone lays25 s w (by omega)
theorem clone_any (s : ByteArray) (w : World) (h : s.size ≤ 10000) : Calls Tryz.prog 118 #[.string s] w fun e w' => e = .returned (.string s) ∧ Below w.heap.size w w' := by
  go_enter Tryz.func118, Tryz.ntmps118
  go_wp2_with (go_at_call 123; refine (slClone_any s _ h).mono ?_; rintro e w1 ⟨rfl, g1⟩)
  go_ret
  exact ⟨rfl, g1⟩
end Go.Proofs.YtkapkphhceknfaaGreatDoor.Su
