/-
  Part of the proof: a region that draws its order, operation by operation, while a condition on the memory is kept: what yields the same wherever it holds is taken first; else what may come up is looked at.
  Part of the proof: the code's Write of what tells of all is walked.
  Part of the proof: strings.Clone tells the text itself.
  Part of the proof: the code's fields and Parse of what tells of all are walked.
-/
import Derived.Test.YtkapkphhceknfaaGreatDoorB11
import Derived.Test.YtkapkphhceknfaaGreatDoorB02
import Derived.Shelf.Pu.Clone
import Derived.Test.YtkapkphhceknfaaGreatDoorProg
import Derived.Test.YtkapkphhceknfaaGreatDoorB01
import Derived.Laws.Tables
namespace Go.Proofs.YtkapkphhceknfaaGreatDoor
open Go.RowKit
section
variable {P : Program} {l : List Oper} {Q : Exit → Act → World → Prop} {S : World → Prop} {fuel : Nat} {listed : Array Bool} {a : Act} {w : World}
/-- Whatever order is picked from here on; S holds behind each operation. -/
def wpS (P : Program) (l : List Oper) (Q : Exit → Act → World → Prop) (S : World → Prop) : Nat → Array Bool → Act → World → Prop := wpAnyS P l.toArray Q (fun _ => true) S
theorem regS_in {id : Nat} (n : Nat) (S : World → Prop) (hm : P.follows .mixedOrders = true) (hn : l.length = n) (h : wpS P l Q S n (Array.replicate n false) a w.drew) : (Code.region id l.toArray true).wp P Q a w := by
  refine wp_region_any hm ?_
  rw [List.size_toArray, hn]
  exact wpAny_of_S _ _ _ _ h
theorem clo_of {ops : Array Oper} {listed : Array Bool} (h1 : closedB ops listed = true) : Clo ops listed := by
  intro j oj hj hl e he hb
  have := List.all_eq_true.1 h1 j (List.mem_range.2 (Array.getElem?_eq_some_iff.1 hj).1)
  simp only [hl, hj, Bool.not_true, Bool.false_or] at this
  have := Array.all_eq_true_iff_forall_mem.1 this e he
  simpa [hb] using this
theorem regS_first (i : Nat) (d : Tmp) (v : Value) {o : Oper} (hi : l[i]? = some o) (hd : o.dst = some d) (hB : (Region.noSelect l.toArray && Region.free .any l.toArray listed i && (Region.ready .any l.toArray listed).contains i && closedB l.toArray listed) = true)
    (hQ : ∀ c a w, Q (.panic c) (a.put (some d) v) w → Q (.panic c) a w) (hy : YieldsIf P l.toArray S o v a) (hS : S w)
    (h : wpS P l Q S fuel (listed.setIfInBounds i true) (a.put (some d) v) w) : wpS P l Q S (fuel + 1) listed a w := by
  simp only [Bool.and_eq_true] at hB
  have hi' : l.toArray[i]? = some o := by rw [List.getElem?_toArray]; exact hi
  have hr : i ∈ Region.ready .any l.toArray listed := by simpa using hB.1.2
  refine wpAnyS_first (v := v) (S' := S) hi' (Region.noSelect_spec hB.1.1.1) (by rw [hd]; exact hQ) (fun _ _ _ _ _ _ _ h0 hk => hk rfl h0) fuel listed a w (clo_of hB.2) (Region.free_spec hi' hB.1.1.2) hr hy hS ?_
  rw [hd]; exact h
/-- What yields the same wherever S holds is taken first. -/
theorem regS_take (i : Nat) (d : Tmp) (v : Value) {o : Oper} (hi : l[i]? = some o) (hd : o.dst = some d) (hB : (Region.noSelect l.toArray && Region.free .any l.toArray listed i && (Region.ready .any l.toArray listed).contains i && closedB l.toArray listed) = true)
    (hQ : ∀ c a w, Q (.panic c) (a.put (some d) v) w → Q (.panic c) a w) (hw : Region.wanted o (yielded l.toArray a.tmps) = true) (hv : ∀ w, S w → (execOp a.eval o).run P w = .ok (.value v) w) (hS : S w)
    (h : wpS P l Q S fuel (listed.setIfInBounds i true) (a.put (some d) v) w) : wpS P l Q S (fuel + 1) listed a w :=
  regS_first i d v hi hd hB hQ (Or.inl ⟨hw, hv⟩) hS h
/-- What its guard leaves out. -/
theorem regS_skip (i : Nat) (d : Tmp) {o : Oper} (hi : l[i]? = some o) (hd : o.dst = some d) (hB : (Region.noSelect l.toArray && Region.free .any l.toArray listed i && (Region.ready .any l.toArray listed).contains i && closedB l.toArray listed) = true)
    (hQ : ∀ c a w, Q (.panic c) (a.put (some d) undef) w → Q (.panic c) a w) (hw : Region.wanted o (yielded l.toArray a.tmps) = false) (hS : S w)
    (h : wpS P l Q S fuel (listed.setIfInBounds i true) (a.put (some d) undef) w) : wpS P l Q S (fuel + 1) listed a w :=
  regS_first i d undef hi hd hB hQ (Or.inr ⟨hw, rfl⟩) hS h
theorem regS_op (i : Nat) {o : Oper} (hi : l[i]? = some o) (hw : Region.wanted o (yielded l.toArray a.tmps) = true) {K0 : Act → World → Prop} (h : ∀ K : Act → World → Prop, (∀ a' w', S w' → K0 a' w' → K a' w') → o.wp P a w K Q) : wpOp P l.toArray Q i (fun a' w' => (true = true → S w → S w') ∧ K0 a' w') a w := by
  have hi' : l.toArray[i]? = some o := by rw [List.getElem?_toArray]; exact hi
  unfold wpOp
  simp only [hi', hw, if_true]
  exact Or.inl (h _ fun _ _ hS hk => ⟨fun _ _ => hS, hk⟩)
/-- One operation alone may come up. -/
theorem regS_one (i : Nat) {o : Oper} (hi : l[i]? = some o) (hr : (Region.ready .any l.toArray listed == [i]) = true) (hw : Region.wanted o (yielded l.toArray a.tmps) = true)
    (h : ∀ K : Act → World → Prop, (∀ a' w', S w' → wpS P l Q S fuel (listed.setIfInBounds i true) a' w' → K a' w') → o.wp P a w K Q) : wpS P l Q S (fuel + 1) listed a w := by
  rw [beq_iff_eq] at hr
  refine ⟨fun h0 => (by rw [hr] at h0; cases h0), fun j hj => ?_⟩
  rw [hr] at hj
  obtain rfl := List.mem_singleton.1 hj
  exact regS_op _ hi hw h
theorem regS_two (i j : Nat) {o o' : Oper} (hi : l[i]? = some o) (hj : l[j]? = some o') (hr : (Region.ready .any l.toArray listed == [i, j]) = true) (hw : Region.wanted o (yielded l.toArray a.tmps) = true) (hw' : Region.wanted o' (yielded l.toArray a.tmps) = true)
    (h : ∀ K : Act → World → Prop, (∀ a' w', S w' → wpS P l Q S fuel (listed.setIfInBounds i true) a' w' → K a' w') → o.wp P a w K Q)
    (h' : ∀ K : Act → World → Prop, (∀ a' w', S w' → wpS P l Q S fuel (listed.setIfInBounds j true) a' w' → K a' w') → o'.wp P a w K Q) : wpS P l Q S (fuel + 1) listed a w := by
  rw [beq_iff_eq] at hr
  refine ⟨fun h0 => (by rw [hr] at h0; cases h0), fun k hk => ?_⟩
  rw [hr] at hk
  rcases List.mem_cons.1 hk with rfl | hk
  · exact regS_op _ hi hw h
  · obtain rfl := List.mem_singleton.1 hk
    exact regS_op _ hj hw' h'
theorem regS_end (hr : (Region.ready .any l.toArray listed == []) = true) (h : Q .normal a w) : wpS P l Q S fuel listed a w := by
  rw [beq_iff_eq] at hr
  cases fuel with
  | zero => exact ⟨hr, h⟩
  | succ n => exact ⟨fun _ => h, fun i hi => by rw [hr] at hi; cases hi⟩
/-- The last operation. -/
theorem regS_last (i : Nat) {o : Oper} (hi : l[i]? = some o) (hB : ((Region.ready .any l.toArray listed == [i]) && (Region.ready .any l.toArray (listed.setIfInBounds i true) == [])) = true) (hw : Region.wanted o (yielded l.toArray a.tmps) = true)
    (h : ∀ K : Act → World → Prop, (∀ a' w', S w' → Q .normal a' w' → K a' w') → o.wp P a w K Q) : wpS P l Q S (fuel + 1) listed a w := by
  rw [Bool.and_eq_true] at hB
  exact regS_one i hi hB.1 hw fun K hK => h K fun a' w' hS hQ => hK a' w' hS (regS_end hB.2 hQ)
end
end Go.Proofs.YtkapkphhceknfaaGreatDoor
namespace Go.Proofs.YtkapkphhceknfaaGreatDoor.Su
open Go.RowKit Pg
/-- What Write asks. -/
def okW (key : ByteArray) (c e : Int) (r : ByteArray) : Bool := decide (key.size = 32) && okN c && okN e && decide (r.size = 16)
/-- What stands ahead of the seal. -/
def ahd (c e : Int) (f : Nat → Bool) (r : ByteArray) : ByteArray := ⟨#[99, 102]⟩ ++ numS c ++ numS e ++ dg f ++ r
theorem ahd_size (c e : Int) (f : Nat → Bool) (r : ByteArray) : (ahd c e f r).size = 50 + r.size := by
  unfold ahd
  rw [ByteArray.size_append, ByteArray.size_append, ByteArray.size_append, ByteArray.size_append, numS_size, numS_size, dg_size]
  have : ByteArray.size ⟨#[99, 102]⟩ = 2 := rfl
  omega
/-- All of it. -/
def allT (key : ByteArray) (c e : Int) (f : Nat → Bool) (r : ByteArray) : ByteArray := ahd c e f r ++ mk 122 [key, ahd c e f r]
theorem allT_size (key : ByteArray) (c e : Int) (f : Nat → Bool) (r : ByteArray) : (allT key c e f r).size = 66 + r.size := by
  unfold allT; rw [ByteArray.size_append, ahd_size, mk_size]; omega
def wrT (key : ByteArray) (c e : Int) (f : Nat → Bool) (r : ByteArray) : ByteArray := if okW key c e r then allT key c e f r else ⟨#[]⟩
def wrC (key : ByteArray) (c e : Int) (r : ByteArray) : Int := if okW key c e r then 0 else 1
def errV (n : Int) : Value := if n = 0 then .nilIface else .iface 41 (.int .i64 n)
theorem parts2 {w : World} {b : Nat} {T : TypeId} {x y : ByteArray} (h : Blk w b #[.string x, .string y] T) : Sm.Parts w (some ⟨b, 0, none⟩) 2 [x, y] := by
  refine ⟨rfl, fun j hj => ?_⟩
  have hc := h.cell j
  match j, hj with
  | 0, _ => exact ⟨b, 0, x, rfl, h.lt, hc, rfl⟩
  | 1, _ => exact ⟨b, 0, y, rfl, h.lt, hc, rfl⟩
theorem all2 {x y : ByteArray} (hx : x.size ≤ 300) (hy : y.size ≤ 300) : ∀ p ∈ [x, y], p.size ≤ 300 := by
  intro p hp
  simp only [List.mem_cons, List.not_mem_nil, or_false] at hp
  rcases hp with rfl | rfl <;> assumption
theorem mark2 {k : Int} (hk : k = 122) {b : Nat} {T : TypeId} {x y : ByteArray} {w : World} (h : Blk w b #[.string x, .string y] T) (hx : x.size ≤ 300) (hy : y.size ≤ 300) (hK : Sm.KB w) :
    Calls Tryz.prog 56 #[.int .u8 k, .slice (some ⟨b, 0, none⟩) 2 2] w fun e w' => e = .returned (.string (mk 122 [x, y])) ∧ Below w.heap.size w w' := by
  subst hk; exact Sm.mark_any 122 _ 2 2 _ w (parts2 h) (by decide) (all2 hx hy) hK
theorem exec_load {P : Program} {a : Act} {o : Oper} {w : World} (t : TypeId) (x : Operand) (ho : o.op = .load t x) (p : Addr) (hx : a.eval x = .pointer (some p)) (v : Value) (hl : (loadVar t p).run P w = .ok v w) : (execOp a.eval o).run P w = .ok (.value v) w := by
  unfold execOp
  simp only [ho, hx, Instr.loadAt, Instr.sureAddr, Sem.run_bind, Sem.run_pure, Result.andThen_ok, hl]
section
variable {w : World} {b : Nat} {c e : Int} {f : Nat → Bool} {r : ByteArray}
theorem sup_c0 (h : Blk w b (supA c e f r) 72) : w.cell? ⟨b, 0, none⟩ = some (.int .i64 c) := by rw [h.cell, supA_0]
theorem sup_c1 (h : Blk w b (supA c e f r) 72) : w.cell? ⟨b, 1, none⟩ = some (.int .i64 e) := by rw [h.cell, supA_1]
theorem sup_c3 (h : Blk w b (supA c e f r) 72) : w.cell? ⟨b, 34, none⟩ = some (.string r) := by rw [h.cell, supA_34]
theorem sup_ld (h : Blk w b (supA c e f r) 72) : (loadVar 70 ⟨b, 2, none⟩).run Tryz.prog w = .ok (.agg (bl 32 f)) w := by
  rw [loadV_run w _ Tryz.isAgg70 32 sz91 b 2 _ _ h (by rw [supA_size]; omega), supA_sides]
end
set_option maxRecDepth 100000 in
set_option maxHeartbeats 2000000 in
theorem write_bad (key : ByteArray) (c e : Int) (f : Nat → Bool) (r : ByteArray) (w : World) (ho : okW key c e r = false) :
    Calls Tryz.prog 38 #[.string key, .agg (supA c e f r)] w fun e w' => e = .returned (.tuple #[.string ⟨#[]⟩, .iface 41 (.int .i64 1)]) ∧ Below w.heap.size w w' := by
  have j0 := Blk.new w (supA c e f r) 72
  have c0 := sup_c0 j0
  have c1 := sup_c1 j0
  have c3 := sup_c3 j0
  have g0 := below_alloc w (.cells (supA c e f r) 72)
  by_cases h1 : key.size = 32
  · have h1' : (key.size : Int) = 32 := by omega
    cases h2 : okN c with
    | false =>
      go_enter Tryz.func38, Tryz.ntmps38
      go_wp2_with (go_at_call 53; refine (isNumber_any _ _).mono ?_; rintro e' w' ⟨rfl, rfl⟩; rw [h2])
      go_ret2
      exact ⟨rfl, g0⟩
    | true =>
      cases h3 : okN e with
      | false =>
        go_enter Tryz.func38, Tryz.ntmps38
        go_wp2_with (go_at_call 53; refine (isNumber_any _ _).mono ?_; rintro e' w' ⟨rfl, rfl⟩; first | rw [h2] | rw [h3])
        go_ret2
        exact ⟨rfl, g0⟩
      | true =>
        have h4 : ¬ ((r.size : Int) = 16) := by
          intro h4
          have h5 : r.size = 16 := by omega
          unfold okW at ho
          rw [h2, h3, decide_eq_true h1, decide_eq_true h5] at ho
          cases ho
        go_enter Tryz.func38, Tryz.ntmps38
        go_wp2_with (go_at_call 53; refine (isNumber_any _ _).mono ?_; rintro e' w' ⟨rfl, rfl⟩; first | rw [h2] | rw [h3])
        go_ret2
        exact ⟨rfl, g0⟩
  · have h1' : ¬ ((key.size : Int) = 32) := by omega
    go_enter Tryz.func38, Tryz.ntmps38
    go_wp2
    go_ret2
    exact ⟨rfl, g0⟩
theorem okW_parts {key : ByteArray} {c e : Int} {r : ByteArray} (h : okW key c e r = true) : key.size = 32 ∧ okN c = true ∧ okN e = true ∧ r.size = 16 := by
  unfold okW at h
  simp only [Bool.and_eq_true, decide_eq_true_eq] at h
  exact ⟨h.1.1.1, h.1.1.2, h.1.2, h.2⟩
set_option maxRecDepth 100000 in
set_option maxHeartbeats 2000000 in
theorem write_good (key : ByteArray) (c e : Int) (f : Nat → Bool) (r : ByteArray) (w : World) (ho : okW key c e r = true) (hK : Sm.KB w) :
    Calls Tryz.prog 38 #[.string key, .agg (supA c e f r)] w fun e' w' => e' = .returned (.tuple #[.string (allT key c e f r), .nilIface]) ∧ Below w.heap.size w w' := by
  obtain ⟨h1, h2, h3, h4⟩ := okW_parts ho
  have h1' : (key.size : Int) = 32 := by omega
  have h4' : (r.size : Int) = 16 := by omega
  have j0 := Blk.new w (supA c e f r) 72
  have c0 := sup_c0 j0
  have c1 := sup_c1 j0
  have c3 := sup_c3 j0
  have g0 := below_alloc w (.cells (supA c e f r) 72)
  have za := ahd_size c e f r
  have zm := mk_size 122 [key, ahd c e f r]
  have z1 := numS_size c
  have z2 := numS_size e
  have z3 := dg_size f
  have HF : Hid (⟨#[99, 102]⟩ ++ numS c ++ numS e ++ dg f ++ r = ahd c e f r) := rfl
  have HA : Hid (ahd c e f r ++ mk 122 [key, ahd c e f r] = allT key c e f r) := rfl
  go_enter Tryz.func38, Tryz.ntmps38
  go_wp2_with (go_at_call 53; refine (isNumber_any _ _).mono ?_; rintro e' w' ⟨rfl, rfl⟩; first | rw [h2] | rw [h3])
  generalize hw1 : w.alloc (.cells (supA c e f r) 72) = w1 at *
  have HW : Hid (w.heap.size < w1.heap.size) := by unfold Hid; rw [← hw1]; simp
  clear hw1 c0 c1 c3
  have HS : Hid (∀ w', Below w1.heap.size w1 w' → Blk w' w.heap.size (supA c e f r) 72) := fun w' hb => j0.below hb HW.out
  refine regS_in 16 (fun w' => Below w1.heap.size w1 w') mixed rfl ?_
  have s0 : Below w1.heap.size w1 w1.drew := below_drewN (Below.refl _ _) 1
  refine regS_take 0 29 (.pointer (some ⟨w.heap.size, 0, none⟩)) rfl rfl (by kernel_rfl) (fun _ _ _ h => h) rfl (fun w _ => by go_simp) s0 ?_
  refine regS_take 1 30 (.int .i64 c) rfl rfl (by kernel_rfl) (fun _ _ _ h => h) rfl (fun w hs => by have c0 := sup_c0 (HS.out w hs); go_simp) s0 ?_
  refine regS_take 4 33 (.pointer (some ⟨w.heap.size, 1, none⟩)) rfl rfl (by kernel_rfl) (fun _ _ _ h => h) rfl (fun w _ => by go_simp) s0 ?_
  refine regS_take 5 34 (.int .i64 e) rfl rfl (by kernel_rfl) (fun _ _ _ h => h) rfl (fun w hs => by have c0 := sup_c1 (HS.out w hs); go_simp) s0 ?_
  refine regS_take 8 37 (.pointer (some ⟨w.heap.size, 2, none⟩)) rfl rfl (by kernel_rfl) (fun _ _ _ h => h) rfl (fun w _ => by go_simp) s0 ?_
  refine regS_take 9 38 (.agg (bl 32 f)) rfl rfl (by kernel_rfl) (fun _ _ _ h => h) rfl (fun w' hs => exec_load 70 _ rfl ⟨w.heap.size, 2, none⟩ rfl _ (sup_ld (HS.out w' hs))) s0 ?_
  refine regS_take 12 41 (.pointer (some ⟨w.heap.size, 34, none⟩)) rfl rfl (by kernel_rfl) (fun _ _ _ h => h) rfl (fun w _ => by go_simp) s0 ?_
  refine regS_take 13 42 (.string r) rfl rfl (by kernel_rfl) (fun _ _ _ h => h) rfl (fun w hs => by have c0 := sup_c3 (HS.out w hs); go_simp) s0 ?_
  simp only [Act.put, List.setIfInBounds_toArray, List.set_cons_succ, List.set_cons_zero]
  refine regS_one 2 rfl (by kernel_rfl) rfl (fun K hK' => ?_)
  go_wp2_with fail
  refine (num_s c _).mono ?_
  rintro e' w2 ⟨rfl, g2⟩
  have s2 := s0.trans g2
  refine hK' _ _ s2 ?_
  clear hK' K
  refine regS_take 3 32 (.string (⟨#[99, 102]⟩ ++ numS c)) rfl rfl (by kernel_rfl) (fun _ _ _ h => h) rfl (fun w _ => by go_simp) s2 ?_
  simp only [Act.put, List.setIfInBounds_toArray, List.set_cons_succ, List.set_cons_zero]
  refine regS_one 6 rfl (by kernel_rfl) rfl (fun K hK' => ?_)
  go_wp2_with fail
  refine (num_s e _).mono ?_
  rintro e' w3 ⟨rfl, g3⟩
  have s3 := s2.trans (g3.mono s2.size)
  refine hK' _ _ s3 ?_
  clear hK' K
  refine regS_take 7 36 (.string (⟨#[99, 102]⟩ ++ numS c ++ numS e)) rfl rfl (by kernel_rfl) (fun _ _ _ h => h) rfl (fun w _ => by go_simp) s3 ?_
  simp only [Act.put, List.setIfInBounds_toArray, List.set_cons_succ, List.set_cons_zero]
  refine regS_one 10 rfl (by kernel_rfl) rfl (fun K hK' => ?_)
  go_wp2_with fail
  refine (sidesText_any f _).mono ?_
  rintro e' w4 ⟨rfl, g4⟩
  have s4 := s3.trans (g4.mono s3.size)
  refine hK' _ _ s4 ?_
  clear hK' K
  refine regS_take 11 40 (.string (⟨#[99, 102]⟩ ++ numS c ++ numS e ++ dg f)) rfl rfl (by kernel_rfl) (fun _ _ _ h => h) rfl (fun w _ => by go_simp) s4 ?_
  refine regS_take 14 43 (.string (⟨#[99, 102]⟩ ++ numS c ++ numS e ++ dg f ++ r)) rfl rfl (by kernel_rfl) (fun _ _ _ h => h) rfl (fun w _ => by go_simp) s4 ?_
  refine regS_take 15 6 (.string (⟨#[99, 102]⟩ ++ numS c ++ numS e ++ dg f ++ r)) rfl rfl (by kernel_rfl) (fun _ _ _ h => h) rfl (fun w _ => by go_simp) s4 ?_
  simp only [Act.put, List.setIfInBounds_toArray, List.set_cons_succ, List.set_cons_zero]
  rw [HF.out]
  refine regS_end (by kernel_rfl) ?_
  have b4 := g0.trans (s4.mono g0.size)
  clear g2 g3 g4 s0 s2 s3 s4 HS HW j0 g0 HF
  go_wp2_with fail
  have g5 := below_alloc w4 (.cells #[.string key, .string (ahd c e f r)] 9)
  have b5 := b4.trans (g5.mono b4.size)
  refine (mark2 rfl (Blk.new w4 _ 9) (by omega) (by omega) (hK.below b5)).mono ?_
  rintro e' w6 ⟨rfl, g6⟩
  have b6 := b5.trans (g6.mono b5.size)
  clear g5 g6 b5 b4
  generalize mk 122 [key, ahd c e f r] = M at *
  generalize ahd c e f r = A at *
  go_wp2
  rw [HA.out]
  go_ret2
  exact ⟨rfl, b6⟩
theorem write_any (key : ByteArray) (c e : Int) (f : Nat → Bool) (r : ByteArray) (w : World) (hK : Sm.KB w) :
    Calls Tryz.prog 38 #[.string key, .agg (supA c e f r)] w fun e' w' => e' = .returned (.tuple #[.string (wrT key c e f r), errV (wrC key c e r)]) ∧ Below w.heap.size w w' := by
  unfold wrT wrC errV
  cases ho : okW key c e r with
  | false => exact write_bad key c e f r w ho
  | true => exact write_good key c e f r w ho hK
end Go.Proofs.YtkapkphhceknfaaGreatDoor.Su
namespace Go.Proofs.YtkapkphhceknfaaGreatDoor.Su
open Go.Shelf Go.RowKit
def lr : Go.Shelf.Ren := ⟨fun | 25 => 123 | n => n, fun | 37 => 87 | 47 => 171 | n => n, fun | n => n⟩
theorem lays25 : Go.Proofs.LaysPu.n25 Tryz.prog lr := {
  mixed := by kernel_rfl
  f25 := Tryz.func123.trans (congrArg some (by kernel_rfl))
  t0 := Tryz.underlying0
  a0 := Tryz.isAgg0
  z0 := Tryz.sizeOf0
  v0 := Tryz.zeroValue0
  i0 := by kernel_rfl
  t3 := Tryz.underlying3
  a3 := Tryz.isAgg3
  z3 := Tryz.sizeOf3
  v3 := Tryz.zeroValue3
  i3 := by kernel_rfl
  t4 := Tryz.underlying4
  a4 := Tryz.isAgg4
  z4 := Tryz.sizeOf4
  v4 := Tryz.zeroValue4
  i4 := by kernel_rfl
  t5 := Tryz.underlying5
  a5 := Tryz.isAgg5
  z5 := Tryz.sizeOf5
  v5 := Tryz.zeroValue5
  i5 := by kernel_rfl
  t9 := Tryz.underlying9
  a9 := Tryz.isAgg9
  z9 := Tryz.sizeOf9
  v9 := Tryz.zeroValue9
  i9 := by kernel_rfl
  t37 := Tryz.underlying87
  a37 := Tryz.isAgg87
  z37 := Tryz.sizeOf87
  v37 := Tryz.zeroValue87
  i37 := by kernel_rfl
  t47 := Tryz.underlying171
  a47 := Tryz.isAgg171
  z47 := Tryz.sizeOf171
  v47 := Tryz.zeroValue171
  i47 := by kernel_rfl }
theorem slClone_any (s : ByteArray) (w : World) (h : s.size ≤ 10000) : Calls Tryz.prog 123 #[.string s] w fun e w' => e = .returned (.string s) ∧ Below w.heap.size w w' := AnyPu.stringslite_Clone lays25 s w (by omega)
theorem clone_any (s : ByteArray) (w : World) (h : s.size ≤ 10000) : Calls Tryz.prog 118 #[.string s] w fun e w' => e = .returned (.string s) ∧ Below w.heap.size w w' := by
  go_enter Tryz.func118, Tryz.ntmps118
  go_wp2_with (go_at_call 123; refine (slClone_any s _ h).mono ?_; rintro e w1 ⟨rfl, g1⟩)
  go_ret
  exact ⟨rfl, g1⟩
end Go.Proofs.YtkapkphhceknfaaGreatDoor.Su
namespace Go.Proofs.YtkapkphhceknfaaGreatDoor.Su
open Go.RowKit Pg
theorem build4 (c e : Int) (f : Nat → Bool) (r : ByteArray) (w : World) : (Instr.build 72 #[(0, .int .i64 c), (1, .int .i64 e), (2, .agg (bl 32 f)), (3, .string r)]).run Tryz.prog w = .ok (.agg (supA c e f r)) w := run_build w 72 _ _ (by kernel_rfl)
theorem build3 (c e : Int) (r : ByteArray) (w : World) : (Instr.build 72 #[(0, .int .i64 c), (1, .int .i64 e), (3, .string r)]).run Tryz.prog w = .ok (.agg (supA c e (fun _ => false) r)) w := run_build w 72 _ _ (by kernel_rfl)
theorem build0 (w : World) : (Instr.build 72 #[]).run Tryz.prog w = .ok (.agg sup0) w := run_build w 72 _ _ (by kernel_rfl)
section
variable {P : Program} {Q : Exit → Act → World → Prop} {K : Act → World → Prop} {a : Act} {w : World} {o : Oper}
theorem op_storeV (hdn : o.dst = none) (t : TypeId) (x y : Operand) (ho : o.op = .store t x y) (n : Nat) (hi0 : (P.info? t).map (·.size) = some n)
    (b : Nat) (arr : Array Value) (T : TypeId) (vs : Array Value) (hone : ∀ v ∈ vs.toList, v.oneCell' = true) (hx : a.eval x = .pointer (some ⟨b, 0, none⟩)) (hy : a.eval y = .agg vs) (hb : Blk w b arr T) (hn : arr.size = n) (hv : vs.size = n)
    (h : ∀ w', Upd w w' b → Blk w' b vs T → K a w') : o.wp P a w K Q := by
  unfold Oper.wp execOp
  simp only [ho, hx, hy, Instr.storeAt, Instr.sureAddr, Sem.run_bind, Sem.run_pure, Result.andThen_ok, storeVar_run t n hi0 b arr vs T hone hb hn hv]
  simp only [Oper.upon_skip, hdn, Act.put]
  exact h _ (putBlk_upd _ _ _) (putBlk_blk hb)
end
theorem exec_build {P : Program} {a : Act} {o : Oper} {w : World} (t : TypeId) (parts : Array (Nat × Operand)) (ho : o.op = .build t parts) (v : Value) (vs : Array (Nat × Value)) (hp : (parts.map fun p => (p.1, a.eval p.2)) = vs) (hb : (Instr.build t vs).run P w = .ok v w) : (execOp a.eval o).run P w = .ok (.value v) w := by
  subst hp
  unfold execOp
  simp only [ho, Sem.run_bind, Sem.run_pure]
  rw [show (parts.map fun x => (x.1, a.eval x.2)) = (parts.map fun (x : Nat × Operand) => match x with | (i, p) => (i, a.eval p)) from rfl] at hb
  rw [hb]
  rfl
theorem sup0_size : sup0.size = 35 := supA_size _ _ _ _
/-- What stands at a text's places. -/
def fC (s : ByteArray) : Int := verN (s.extract 2 10)
def fE (s : ByteArray) : Int := verN (s.extract 10 18)
def fF (s : ByteArray) : Nat → Bool := sideF (s.extract 18 50) 0
def fR (s : ByteArray) : ByteArray := s.extract 50 66
set_option maxRecDepth 100000 in
set_option maxHeartbeats 2000000 in
theorem fields_any (s : ByteArray) (w : World) (h82 : 82 ≤ s.size) (hs : s.size ≤ 10000) :
    Calls Tryz.prog 100 #[.string s] w fun e w' => e = .returned (.agg (supA (fC s) (fE s) (fF s) (fR s))) ∧ Below w.heap.size w w' := by
  have z93 := zero93
  have x1 : (s.extract 2 10).size = 8 := by rw [ByteArray.size_extract]; omega
  have x2 : (s.extract 10 18).size = 8 := by rw [ByteArray.size_extract]; omega
  have x3 : (s.extract 18 50).size = 32 := by rw [ByteArray.size_extract]; omega
  have x4 : (s.extract 50 66).size = 16 := by rw [ByteArray.size_extract]; omega
  have h82' : (82 : Int) ≤ (s.size : Int) := by omega
  go_enter Tryz.func100, Tryz.ntmps100
  go_wp2_with fail
  have g0 := below_alloc w (.cells sup0 72)
  have j0 := Blk.new w sup0 72
  generalize hw1 : w.alloc (.cells sup0 72) = w1 at *
  have HW : Hid (w.heap.size < w1.heap.size) := by unfold Hid; rw [← hw1]; simp
  clear hw1 z93
  refine regS_in 14 (fun _ => True) mixed rfl ?_
  refine regS_take 0 3 (.string s) rfl rfl (by kernel_rfl) (fun _ _ _ h => h) rfl (fun w _ => by go_simp) trivial ?_
  refine regS_take 1 4 (.string (s.extract 2 10)) rfl rfl (by kernel_rfl) (fun _ _ _ h => h) rfl (fun w _ => by go_simp; intro h; exfalso; omega) trivial ?_
  refine regS_take 3 6 (.string s) rfl rfl (by kernel_rfl) (fun _ _ _ h => h) rfl (fun w _ => by go_simp) trivial ?_
  refine regS_take 4 7 (.string (s.extract 10 18)) rfl rfl (by kernel_rfl) (fun _ _ _ h => h) rfl (fun w _ => by go_simp; intro h; exfalso; omega) trivial ?_
  refine regS_take 6 9 (.string s) rfl rfl (by kernel_rfl) (fun _ _ _ h => h) rfl (fun w _ => by go_simp) trivial ?_
  refine regS_take 7 10 (.string (s.extract 18 50)) rfl rfl (by kernel_rfl) (fun _ _ _ h => h) rfl (fun w _ => by go_simp; intro h; exfalso; omega) trivial ?_
  refine regS_take 9 12 (.string s) rfl rfl (by kernel_rfl) (fun _ _ _ h => h) rfl (fun w _ => by go_simp) trivial ?_
  refine regS_take 10 13 (.string (s.extract 50 66)) rfl rfl (by kernel_rfl) (fun _ _ _ h => h) rfl (fun w _ => by go_simp; intro h; exfalso; omega) trivial ?_
  simp only [Act.put, List.setIfInBounds_toArray, List.set_cons_succ, List.set_cons_zero]
  clear h82' h82 hs
  refine regS_one 2 rfl (by kernel_rfl) rfl (fun K hK' => ?_)
  go_wp2_with fail
  refine (snumber_any _ _ (by omega) (by omega)).mono ?_
  rintro e' w2 ⟨rfl, rfl⟩
  refine hK' _ _ trivial ?_
  clear hK' K
  refine regS_one 5 rfl (by kernel_rfl) rfl (fun K hK' => ?_)
  go_wp2_with fail
  refine (snumber_any _ _ (by omega) (by omega)).mono ?_
  rintro e' w2 ⟨rfl, rfl⟩
  refine hK' _ _ trivial ?_
  clear hK' K
  refine regS_one 8 rfl (by kernel_rfl) rfl (fun K hK' => ?_)
  go_wp2_with fail
  refine (sides_any _ _ x3).mono ?_
  rintro e' w2 ⟨rfl, g2⟩
  refine hK' _ _ trivial ?_
  clear hK' K
  refine regS_one 11 rfl (by kernel_rfl) rfl (fun K hK' => ?_)
  go_wp2_with fail
  refine (clone_any _ _ (by omega)).mono ?_
  rintro e' w3 ⟨rfl, g3⟩
  refine hK' _ _ trivial ?_
  clear hK' K
  have b1 : Below w1.heap.size w1 w3 := ((below_drewN (Below.refl _ _) 1).trans g2).trans (g3.mono g2.size)
  have j3 := j0.below b1 HW.out
  have b3 := g0.trans (b1.mono g0.size)
  refine regS_take 12 15 (.agg (supA (fC s) (fE s) (fF s) (fR s))) rfl rfl (by kernel_rfl) (fun _ _ _ h => h) rfl (fun w _ => exec_build 72 #[(0, .tmp 5), (1, .tmp 8), (2, .tmp 11), (3, .tmp 14)] rfl _ #[(0, .int .i64 (fC s)), (1, .int .i64 (fE s)), (2, .agg (bl 32 (fF s))), (3, .string (fR s))] (by kernel_rfl) (build4 (fC s) (fE s) (fF s) (fR s) w)) trivial ?_
  simp only [Act.put, List.setIfInBounds_toArray, List.set_cons_succ, List.set_cons_zero]
  have hn := supA_size (fC s) (fE s) (fF s) (fR s)
  have h1 := supA_one (fC s) (fE s) (fF s) (fR s)
  obtain ⟨V, hV⟩ : ∃ V, Hid (supA (fC s) (fE s) (fF s) (fR s) = V) := ⟨_, rfl⟩
  rw [hV.out] at hn h1
  rw [hV.out]
  refine regS_last 13 rfl (by kernel_rfl) rfl (fun K hK' => ?_)
  refine op_storeV rfl 72 (.tmp 2) (.tmp 15) rfl 35 sz93 w.heap.size sup0 72 V h1 rfl rfl j3 sup0_size hn ?_
  intro w4 hu4 j4
  refine hK' _ _ trivial ?_
  clear hK' K
  go_wp2_with fail
  exact ret_cellV 2 72 rfl Tryz.isAgg72 35 sz93 w.heap.size V 72 hn rfl j4 rfl ⟨by rw [hV.out], below_upd b3 hu4 (Nat.le_refl _)⟩
/-- Whether a text, long enough, was written so. -/
def okP (key s : ByteArray) : Bool := okW key (fC s) (fE s) (fR s) && ((s.extract 0 82).toList == (allT key (fC s) (fE s) (fF s) (fR s)).toList) && blank (s.extract 82 s.size)
/-- What Parse tells. -/
def parC (key s : ByteArray) : Int := if key.size = 32 then if s.size < 82 then 15 else if okP key s then 0 else 15 else 1
def parV (key s : ByteArray) : Array Value := if key.size = 32 then if s.size < 82 then sup0 else if okP key s then supA (fC s) (fE s) (fF s) (fR s) else sup0 else sup0
theorem sup0_one : ∀ v ∈ sup0.toList, v.oneCell' = true := supA_one _ _ _ _
set_option maxRecDepth 100000 in
set_option maxHeartbeats 2000000 in
theorem parse_short (key s : ByteArray) (w : World) (h : key.size = 32 → s.size < 82) :
    Calls Tryz.prog 87 #[.string key, .string s] w fun e w' => e = .returned (.tuple #[.agg sup0, .iface 41 (.int .i64 (if key.size = 32 then 15 else 1))]) ∧ Below w.heap.size w w' := by
  have z93 := zero93
  have hb := build0
  have hn := sup0_size
  have h1 := sup0_one
  obtain ⟨V, hV⟩ : ∃ V, Hid (sup0 = V) := ⟨_, rfl⟩
  rw [hV.out] at hn h1
  simp only [hV.out] at z93 hb
  rw [hV.out]
  have j0 := Blk.new w V 72
  have g0 := below_alloc w (.cells V 72)
  by_cases c1 : key.size = 32
  · have c1' : (key.size : Int) = 32 := by omega
    have c2 := h c1
    have c2' : (s.size : Int) < 82 := by omega
    rw [if_pos c1]
    go_enter Tryz.func87, Tryz.ntmps87
    go_wp2_with (refine wpl_storeV rfl rfl 72 _ _ rfl 35 sz93 w.heap.size V 72 V h1 rfl rfl j0 hn hn ?_; intro w1 hu1 j1)
    exact ret_cellV2 4 5 72 rfl Tryz.isAgg72 35 sz93 w.heap.size V 72 hn _ rfl rfl j1 rfl ⟨rfl, below_upd g0 hu1 (Nat.le_refl _)⟩
  · have c1' : ¬ ((key.size : Int) = 32) := by omega
    rw [if_neg c1]
    go_enter Tryz.func87, Tryz.ntmps87
    go_wp2_with (refine wpl_storeV rfl rfl 72 _ _ rfl 35 sz93 w.heap.size V 72 V h1 rfl rfl j0 hn hn ?_; intro w1 hu1 j1)
    exact ret_cellV2 4 5 72 rfl Tryz.isAgg72 35 sz93 w.heap.size V 72 hn _ rfl rfl j1 rfl ⟨rfl, below_upd g0 hu1 (Nat.le_refl _)⟩
theorem ext_all {vs : Array Value} {n : Nat} (h : vs.size = n) : vs.extract 0 (0 + n) = vs := by
  subst h; rw [Nat.zero_add]; exact Array.extract_size
set_option maxRecDepth 100000 in
set_option maxHeartbeats 2000000 in
theorem parse_long (key s : ByteArray) (w : World) (hk : key.size = 32) (h82 : 82 ≤ s.size) (hs : s.size ≤ 10000) (hK : Sm.KB w) (X : Array Value) (Y : Value)
    (hg : okP key s = true → X = supA (fC s) (fE s) (fF s) (fR s) ∧ Y = .nilIface) (hf : okP key s = false → X = sup0 ∧ Y = .iface 41 (.int .i64 15)) :
    Calls Tryz.prog 87 #[.string key, .string s] w fun e w' => e = .returned (.tuple #[.agg X, Y]) ∧ Below w.heap.size w w' := by
  have HG : Hid (okP key s = true → X = supA (fC s) (fE s) (fF s) (fR s) ∧ Y = .nilIface) := hg
  have HB : Hid (okP key s = false → X = sup0 ∧ Y = .iface 41 (.int .i64 15)) := hf
  clear hg hf
  have z93 := zero93
  have hb := build0
  have zn := sup0_size
  have z1 := sup0_one
  obtain ⟨Z, hZ⟩ : ∃ Z, Hid (sup0 = Z) := ⟨_, rfl⟩
  rw [hZ.out] at zn z1
  simp only [hZ.out] at z93 hb
  have hn := supA_size (fC s) (fE s) (fF s) (fR s)
  have h1 := supA_one (fC s) (fE s) (fF s) (fR s)
  have HW := fun (w0 : World) (k0 : Sm.KB w0) => write_any key (fC s) (fE s) (fF s) (fR s) w0 k0
  have HF := fun (w0 : World) => fields_any s w0 h82 hs
  obtain ⟨V, hV⟩ : ∃ V, Hid (supA (fC s) (fE s) (fF s) (fR s) = V) := ⟨_, rfl⟩
  rw [hV.out] at hn h1
  simp only [hV.out] at HW HF
  have k1 : (key.size : Int) = 32 := by omega
  have k2 : ¬ ((s.size : Int) < 82) := by omega
  have x1 : (s.extract 82 s.size).size ≤ 10000 := by rw [ByteArray.size_extract]; omega
  have j0 := Blk.new w Z 72
  have g0 := below_alloc w (.cells Z 72)
  go_enter Tryz.func87, Tryz.ntmps87
  go_wp2_with fail
  generalize hw1 : w.alloc (.cells Z 72) = w1 at *
  have HL : Hid (w.heap.size < w1.heap.size) := by unfold Hid; rw [← hw1]; simp
  clear hw1
  refine (HF _).mono ?_
  rintro e' w2 ⟨rfl, g2⟩
  have j2 := j0.below g2 HL.out
  have b2 := g0.trans (g2.mono g0.size)
  go_wp2_with (first
    | (refine wpl_storeV rfl rfl 72 _ _ rfl 35 sz93 w2.heap.size Z 72 V h1 rfl rfl (Blk.new w2 Z 72) zn hn ?_; intro w3 hu3 i3)
    | (refine wpl_loadV rfl 72 _ rfl Tryz.isAgg72 35 sz93 w2.heap.size 0 V 72 rfl i3 (by omega) ?_; rw [ext_all hn])
    | fail)
  have b3 := below_upd (b2.alloc b2.size (.cells Z 72)) hu3 b2.size
  have j3 := (j2.alloc (.cells Z 72)).upd hu3 (by have := j2.lt; omega)
  clear g2 b2 j2 g0 j0
  refine (HW _ (hK.below b3)).mono ?_
  rintro e' w4 ⟨rfl, g4⟩
  have b4 := b3.trans (g4.mono b3.size)
  have j4 := j3.below g4 j3.lt
  have i4 := i3.below g4 i3.lt
  clear b3 j3 i3 hu3 g4 HW HF
  cases ho : okW key (fC s) (fE s) (fR s) with
  | false =>
    obtain ⟨hX, hY⟩ := HB.out (by unfold okP; rw [ho]; rfl)
    rw [hZ.out] at hX
    have hT : wrT key (fC s) (fE s) (fF s) (fR s) = ⟨#[]⟩ := by unfold wrT; rw [ho]; rfl
    have hC : errV (wrC key (fC s) (fE s) (fR s)) = .iface 41 (.int .i64 1) := by unfold wrC errV; rw [ho]; rfl
    rw [hT, hC]
    clear HG HB hT hC
    go_wp2_with (refine wpl_storeV rfl rfl 72 _ _ rfl 35 sz93 w.heap.size Z 72 Z z1 rfl rfl j4 zn zn ?_; intro w5 hu5 j5)
    exact ret_cellV2 4 5 72 rfl Tryz.isAgg72 35 sz93 w.heap.size Z 72 zn _ rfl rfl j5 rfl ⟨by rw [hX, hY]; rfl, below_upd b4 hu5 (Nat.le_refl _)⟩
  | true =>
    have hC : errV (wrC key (fC s) (fE s) (fR s)) = .nilIface := by unfold wrC errV; rw [ho]; rfl
    have hT : wrT key (fC s) (fE s) (fF s) (fR s) = allT key (fC s) (fE s) (fF s) (fR s) := by unfold wrT; rw [ho]; rfl
    have hO : okP key s = (((s.extract 0 82).toList == (allT key (fC s) (fE s) (fF s) (fR s)).toList) && blank (s.extract 82 s.size)) := by unfold okP; rw [ho, Bool.true_and]
    rw [hT, hC]
    clear hT hC
    generalize allT key (fC s) (fE s) (fF s) (fR s) = A at *
    cases c1 : ((s.extract 0 82).toList == A.toList) with
    | false =>
      obtain ⟨hX, hY⟩ := HB.out (by rw [hO, c1]; rfl)
      rw [hZ.out] at hX
      clear HG HB hO
      go_wp2_with (refine wpl_storeV rfl rfl 72 _ _ rfl 35 sz93 w.heap.size Z 72 Z z1 rfl rfl j4 zn zn ?_; intro w5 hu5 j5)
      exact ret_cellV2 4 5 72 rfl Tryz.isAgg72 35 sz93 w.heap.size Z 72 zn _ rfl rfl j5 rfl ⟨by rw [hX, hY]; rfl, below_upd b4 hu5 (Nat.le_refl _)⟩
    | true =>
      cases c2 : blank (s.extract 82 s.size) with
      | false =>
        obtain ⟨hX, hY⟩ := HB.out (by rw [hO, c1, c2]; rfl)
        rw [hZ.out] at hX
        clear HG HB hO
        go_wp2_with (first
          | (go_at_call 101; refine (isBlank_any _ _ x1).mono ?_; rintro e' w' ⟨rfl, rfl⟩; rw [c2])
          | (refine wpl_storeV rfl rfl 72 _ _ rfl 35 sz93 w.heap.size Z 72 Z z1 rfl rfl j4 zn zn ?_; intro w5 hu5 j5)
          | fail)
        exact ret_cellV2 4 5 72 rfl Tryz.isAgg72 35 sz93 w.heap.size Z 72 zn _ rfl rfl j5 rfl ⟨by rw [hX, hY]; rfl, below_upd b4 hu5 (Nat.le_refl _)⟩
      | true =>
        obtain ⟨hX, hY⟩ := HG.out (by rw [hO, c1, c2]; rfl)
        rw [hV.out] at hX
        clear HG HB hO
        go_wp2_with (first
          | (go_at_call 101; refine (isBlank_any _ _ x1).mono ?_; rintro e' w' ⟨rfl, rfl⟩; rw [c2])
          | (refine wpl_storeV rfl rfl 72 _ _ rfl 35 sz93 w.heap.size Z 72 V h1 rfl rfl j4 zn hn ?_; intro w5 hu5 j5)
          | (refine wpl_loadV rfl 72 _ rfl Tryz.isAgg72 35 sz93 w2.heap.size 0 V 72 rfl i4 (by omega) ?_; rw [ext_all hn])
          | fail)
        exact ret_cellV2 4 5 72 rfl Tryz.isAgg72 35 sz93 w.heap.size V 72 hn _ rfl rfl j5 rfl ⟨by rw [hX, hY]; rfl, below_upd b4 hu5 (Nat.le_refl _)⟩
theorem parse_any (key s : ByteArray) (w : World) (hs : s.size ≤ 10000) (hK : Sm.KB w) :
    Calls Tryz.prog 87 #[.string key, .string s] w fun e w' => e = .returned (.tuple #[.agg (parV key s), errV (parC key s)]) ∧ Below w.heap.size w w' := by
  by_cases c1 : key.size = 32
  · by_cases c2 : s.size < 82
    · have := parse_short key s w (fun _ => c2)
      unfold parV parC errV
      simpa [c1, c2] using this
    · refine parse_long key s w c1 (by omega) hs hK _ _ (fun h => ?_) (fun h => ?_)
      · unfold parV parC errV; simp [c1, c2, h]
      · unfold parV parC errV; simp [c1, c2, h]
  · have := parse_short key s w (fun h => absurd h c1)
    unfold parV parC errV
    simpa [c1] using this
end Go.Proofs.YtkapkphhceknfaaGreatDoor.Su
