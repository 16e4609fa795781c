/-
  Part of the proof of SumTells: the reference's primes are walked.
-/
import Derived.Test.YtfkgfakjhjbidaaDoorSmV2
namespace Go.Proofs.YtfkgfakjhjbidaaDoor.Sm
open Go.RowKit
def okP (l : List Nat) (k : Nat) : Bool := l.all fun p => decide (k % p ≠ 0)
/-- The primes below a number, one behind the other. -/
def pl : Nat → List Nat
  | 0 => []
  | k + 1 => if 2 ≤ k ∧ okP (pl k) k = true then pl k ++ [k] else pl k
theorem pl_two : pl 2 = [] := rfl
theorem pl_312 : (pl 312).length = 64 := by decide +kernel
theorem pl_mono (a d : Nat) : ∃ r, pl (a + d) = pl a ++ r := by
  induction d with
  | zero => exact ⟨[], by simp⟩
  | succ d ih =>
    obtain ⟨r, hr⟩ := ih
    rw [← Nat.add_assoc]
    simp only [pl]
    split
    · exact ⟨r ++ [a + d], by rw [hr, List.append_assoc]⟩
    · exact ⟨r, hr⟩
theorem pl_lt (k : Nat) (h : (pl k).length < 64) : k < 312 := by
  rcases Nat.lt_or_ge k 312 with h' | h'
  · exact h'
  · exfalso
    obtain ⟨r, hr⟩ := pl_mono 312 (k - 312)
    rw [show 312 + (k - 312) = k from by omega] at hr
    have : (pl k).length = 64 + r.length := by rw [hr, List.length_append, pl_312]
    omega
theorem pl_end (k : Nat) (hk : k ≤ 312) (h : 64 ≤ (pl k).length) : pl k = pl 312 := by
  obtain ⟨r, hr⟩ := pl_mono k (312 - k)
  rw [show k + (312 - k) = 312 from by omega] at hr
  have := pl_312
  rw [hr, List.length_append] at this
  have : r = [] := List.eq_nil_of_length_eq_zero (by omega)
  rw [hr, this, List.append_nil]
theorem pl_pos (k : Nat) : ∀ p ∈ pl k, 2 ≤ p ∧ p < k := by
  induction k with
  | zero => intro p hp; simp [pl] at hp
  | succ k ih =>
    intro p hp
    simp only [pl] at hp
    split at hp
    · rename_i h
      rcases List.mem_append.1 hp with h1 | h1
      · have := ih p h1; omega
      · simp at h1; omega
    · have := ih p hp; omega
def ins (l : List Nat) : List Value := l.map fun d : Nat => Value.int .i64 (d : Int)
theorem ins_length (l : List Nat) : (ins l).length = l.length := by simp [ins]
theorem ins_snoc (l : List Nat) (d : Nat) : ins (l ++ [d]) = ins l ++ [.int .i64 (d : Int)] := by simp [ins]
theorem ins_get (l : List Nat) (j d : Nat) (h : l[j]? = some d) : (ins l)[j]? = some (.int .i64 (d : Int)) := by simp [ins, h]
theorem info3 : (Tryd.prog.info? 3).map (fun i => (i.zero, i.size, i.bytes)) = some (some (.int .i64 0), 1, 8) := by kernel_rfl
theorem okP_succ (l : List Nat) (k j p : Nat) (h : l[j]? = some p) : okP (l.take (j + 1)) k = (okP (l.take j) k && decide (k % p ≠ 0)) := by
  rw [List.take_add_one, h]; simp [okP]
set_option maxRecDepth 100000 in
set_option maxHeartbeats 1000000 in
theorem primes_any (w : World) : Calls Tryd.prog 71 #[.int .i64 64] w fun e w' => ∃ g cap, e = .returned (.slice (some ⟨g, 0, none⟩) 64 cap) ∧ Row w' w.heap.size 3 (.slice (some ⟨g, 0, none⟩) 64 cap) (ins (pl 312)) ∧ g < w'.heap.size ∧ Below w.heap.size w w' := by
  go_enter Tryd.func71, Tryd.ntmps71
  go_wp2_with fail
  go_loopw [3, 4] (fun l i wr => ∃ (k n cap : Nat) (a : Option Addr), 2 ≤ k ∧ k ≤ 312 ∧ i = .int .i64 k ∧ l = .slice a n cap ∧ Hid ((pl k).length = n) ∧ n ≤ 64 ∧ Row wr w.heap.size 3 l (ins (pl k)) ∧ Below w.heap.size w wr) (fun _ i _ => 312 - (intOf i).toNat)
  case atStart => exact ⟨2, 0, 0, none, by omega, by omega, rfl, rfl, rfl, by omega, Row.nil _ _ _, Below.refl _ _⟩
  case round =>
    obtain ⟨k, n, cap, a, hk2, hk, rfl, rfl, hn, hn64, hrow, hbel⟩ := hrel
    by_cases hlt : n < 64
    · have hk3 : k < 312 := pl_lt k (by rw [hn.out]; exact hlt)
      go_wp2_with fail
      go_loop [5, 16] (fun b i => ∃ j : Nat, j ≤ n ∧ i = .int .i64 j ∧ b = .bool (okP ((pl k).take j) k)) (fun _ i => n - (intOf i).toNat)
      case atStart => exact ⟨0, by omega, rfl, rfl⟩
      case round =>
        obtain ⟨j, hj, rfl, rfl⟩ := hrel
        by_cases hltj : j < n
        · obtain ⟨p, hp⟩ : ∃ p, (pl k)[j]? = some p := ⟨(pl k)[j]'(by rw [hn.out]; exact hltj), List.getElem?_eq_getElem _⟩
          have hpp := pl_pos k p (List.mem_of_getElem? hp)
          obtain ⟨p1, p2⟩ := hpp
          rcases hrow.form with ⟨_, e1⟩ | ⟨g, cap', e1, e2, e3⟩
          · exfalso
            have : (pl k).length = 0 := by rw [← ins_length, e1]; rfl
            have := hn.out; omega
          · have ea : a = some ⟨g, 0, none⟩ := by injection e1
            subst ea
            have hc := hrow.cell j _ (ins_get (pl k) j p hp)
            have HO := okP_succ (pl k) k j p hp
            have HO' : Hid (okP ((pl k).take (j + 1)) k = (okP ((pl k).take j) k && decide (k % p ≠ 0))) := HO
            clear HO hp e1
            generalize okP ((pl k).take j) k = bb at *
            cases bb
            · go_wp2
              exact ⟨⟨j + 1, by omega, by go_num, by rw [HO'.out]; rfl⟩, by simp [intOf]; omega⟩
            · go_wp2
              refine ⟨⟨j + 1, by omega, by go_num, ?_⟩, by simp [intOf]; omega⟩
              rw [HO'.out]
              refine congrArg Value.bool ?_
              rw [Bool.true_and, Bool.eq_iff_iff]
              simp; omega
        · have hj' : j = n := by omega
          have ht : Hid ((pl k).take j = pl k) := List.take_of_length_le (by rw [hn.out]; omega)
          rw [ht.out]
          have HP : Hid (pl (k + 1) = if 2 ≤ k ∧ okP (pl k) k = true then pl k ++ [k] else pl k) := rfl
          have hil := ins_length (pl k)
          have HI : Hid ((ins (pl k)).length = n) := by rw [Hid, hil]; exact hn.out
          clear ht hil
          generalize okP (pl k) k = bb at *
          cases bb
          · go_wp2
            refine ⟨⟨k + 1, n, cap, a, by omega, by omega, by go_num, rfl, ?_, hn64, ?_, hbel⟩, by simp [intOf]; omega⟩
            · rw [HP.out]; simpa using hn
            · rw [HP.out]; simpa using hrow
          · have hra := fun o => hrow.below ((Below.refl wr.heap.size wr).alloc (Nat.le_refl _) o)
            go_wp2_with (at_builtin; refine wpl_push rfl _ _ 41 rfl w.heap.size 3 (.int .i64 0) 8 Tryd.underlying41 info3 rfl _ _ rfl (hra _) _ _ _ rfl (new_cell _ _ _) rfl (by rw [HI.out]; omega) (by decide) (by have := hbel.size; simp; omega) ?_; intro g3 cap3 w3 hrow3 hgrow3 hat3 hlt3)
            rw [HI.out] at hrow3 ⊢
            have HP' : Hid (pl (k + 1) = pl k ++ [k]) := by rw [Hid, HP.out, if_pos ⟨hk2, rfl⟩]
            refine ⟨⟨k + 1, n + 1, cap3, some ⟨g3, 0, none⟩, by omega, by omega, by go_num, rfl, ?_, by omega, ?_, below_grown (hbel.alloc hbel.size _) (hra _) hgrow3 (by have := hbel.size; simp; omega)⟩, by simp [intOf]; omega⟩
            · rw [HP'.out, Hid, List.length_append, hn.out]; rfl
            · rw [HP'.out, ins_snoc]; exact hrow3
    · have hn' : n = 64 := by omega
      subst hn'
      have hpe := pl_end k hk (by rw [hn.out]; omega)
      rw [hpe] at hrow
      rcases hrow.form with ⟨_, e1⟩ | ⟨g, cap', e1, e2, e3⟩
      · exfalso
        have h64 : (pl 312).length = 0 := by rw [← ins_length, e1]; rfl
        rw [pl_312] at h64; omega
      · have ea : a = some ⟨g, 0, none⟩ := by injection e1
        subst ea
        clear e1 hpe
        go_wp2
        go_ret
        exact ⟨g, cap, rfl, hrow, e3, hbel⟩
end Go.Proofs.YtfkgfakjhjbidaaDoor.Sm
