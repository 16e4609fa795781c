/-
  Part of the proof of SumTells: the product of two great numbers in the reference is walked.
-/
import Derived.Test.YtfkgfakjhjbidaaDoorRow
namespace Go.Proofs.YtfkgfakjhjbidaaDoor.Sm
open Go.RowKit
/-- The number that digits of 2^16 tell, the least first. -/
def val : List Nat → Nat
  | [] => 0
  | d :: l => d + 65536 * val l
theorem val_append (l m : List Nat) : val (l ++ m) = val l + 65536 ^ l.length * val m := by
  induction l with
  | nil => simp [val]
  | cons d l ih =>
    simp only [List.cons_append, val, ih, List.length_cons, Nat.pow_succ]
    rw [Nat.mul_add, ← Nat.mul_assoc, Nat.mul_comm 65536 (65536 ^ l.length)]; omega
/-- Such digits as cells. -/
def us (l : List Nat) : List Value := l.map fun d : Nat => Value.int .u64 (d : Int)
theorem us_length (l : List Nat) : (us l).length = l.length := by simp [us]
theorem us_snoc (l : List Nat) (d : Nat) : us (l ++ [d]) = us l ++ [.int .u64 (d : Int)] := by simp [us]
theorem us_get (l : List Nat) (j d : Nat) (h : l[j]? = some d) : (us l)[j]? = some (.int .u64 (d : Int)) := by simp [us, h]
theorem info38 : (Tryd.prog.info? 108).map (fun i => (i.zero, i.size, i.bytes)) = some (some (.int .u64 0), 1, 8) := by kernel_rfl
/-- One step of the product. -/
theorem val_step (outs ds : List Nat) (k c x d : Nat) (hk : outs.length = k) (hd : ds[k]? = some d) (h : val outs + 65536 ^ k * c = val (ds.take k) * x) :
    val (outs ++ [(c + d * x) % 65536]) + 65536 ^ (k + 1) * ((c + d * x) / 65536) = val (ds.take (k + 1)) * x := by
  rw [val_append, List.take_add_one, hd, val_append, hk, Nat.add_mul]
  have hl : (ds.take k).length = k := by
    have : k < ds.length := by
      rcases Nat.lt_or_ge k ds.length with h' | h'
      · exact h'
      · rw [List.getElem?_eq_none h'] at hd; cases hd
    rw [List.length_take]; omega
  rw [hl]
  simp only [Option.toList, val, Nat.mul_zero, Nat.add_zero]
  have e := Nat.div_add_mod (c + d * x) 65536
  have : 65536 ^ k * ((c + d * x) % 65536) + 65536 ^ (k + 1) * ((c + d * x) / 65536) = 65536 ^ k * c + 65536 ^ k * d * x := by
    rw [Nat.pow_succ, Nat.mul_assoc, ← Nat.mul_add, Nat.mul_assoc, ← Nat.mul_add]
    congr 1; omega
  omega
theorem val_step2 (outs ds : List Nat) (k c x : Nat) (hk : outs.length = k) (hd : ds.length ≤ k) (h : val outs + 65536 ^ k * c = val (ds.take k) * x) :
    val (outs ++ [c % 65536]) + 65536 ^ (k + 1) * (c / 65536) = val (ds.take (k + 1)) * x := by
  rw [val_append, hk, List.take_of_length_le (by omega)]
  rw [List.take_of_length_le hd] at h
  simp only [val, Nat.mul_zero, Nat.add_zero]
  have e := Nat.div_add_mod c 65536
  have : 65536 ^ k * (c % 65536) + 65536 ^ (k + 1) * (c / 65536) = 65536 ^ k * c := by
    rw [Nat.pow_succ, Nat.mul_assoc, ← Nat.mul_add]; congr 1; omega
  omega
theorem new_cell (w : World) (u : Value) (T : TypeId) : (w.alloc (.cells #[u] T)).cell? ⟨w.heap.size, 0, none⟩ = some u := (Blk.new w #[u] T).cell 0
set_option maxRecDepth 100000 in
set_option maxHeartbeats 1000000 in
theorem times_any (ds : List Nat) (x g cap : Nat) (w : World) (hx : x < 4398046511104) (hl : ds.length ≤ 20) (hds : ∀ d ∈ ds, d < 65536) (hg : g < w.heap.size) (hv : ∀ (j d : Nat), ds[j]? = some d → w.cell? ⟨g, j, none⟩ = some (.int .u64 (d : Int))) :
    Calls Tryd.prog 143 #[.slice (some ⟨g, 0, none⟩) ds.length cap, .int .u64 (x : Int)] w fun e w' =>
      ∃ v outs, e = .returned v ∧ Row w' w.heap.size 108 v (us outs) ∧ val outs = val ds * x ∧ (∀ d ∈ outs, d < 65536) ∧ ds.length ≤ outs.length ∧ outs.length ≤ ds.length + 3 ∧ Below w.heap.size w w' := by
  obtain ⟨n, hn⟩ : ∃ n, Hid (ds.length = n) := ⟨_, rfl⟩
  rw [hn.out] at hl ⊢
  go_enter Tryd.func143, Tryd.ntmps143
  go_wp2_with fail
  go_loopw [5, 6, 7] (fun o c i wr => ∃ (k q : Nat) (outs : List Nat), k ≤ n + 3 ∧ i = .int .i64 k ∧ c = .int .u64 (q : Int) ∧ q ≤ x ∧ Hid (outs.length = k) ∧ Hid (n ≤ k → q < 65536 ^ (n + 3 - k)) ∧ Row wr w.heap.size 108 o (us outs) ∧
      Hid (val outs + 65536 ^ k * q = val (ds.take k) * x) ∧ Hid (∀ d ∈ outs, d < 65536) ∧ Below w.heap.size w wr) (fun _ _ i _ => n + 3 - (intOf i).toNat)
  case atStart => exact ⟨0, 0, [], by omega, rfl, rfl, by omega, rfl, fun h => Nat.pow_pos (by decide), Row.nil _ _ _, by simp [Hid, val], by simp [Hid], Below.refl _ _⟩
  case round =>
    obtain ⟨k, q, outs, hk, rfl, rfl, hq, hol, hqb, hrow, hval, hdig, hbel⟩ := hrel
    have hol' : (us outs).length < 100000 := by rw [us_length, hol.out]; omega
    by_cases hlt : k < n
    · obtain ⟨d, hd⟩ : ∃ d, ds[k]? = some d := ⟨ds[k]'(by rw [hn.out]; exact hlt), List.getElem?_eq_getElem _⟩
      have hd6 : d < 65536 := hds d (List.mem_of_getElem? hd)
      have hc : wr.cell? ⟨g, k, none⟩ = some (.int .u64 (d : Int)) := by rw [hbel.cell hg]; exact hv k d hd
      have Hd : Hid (ds[k]? = some d) := hd
      clear hd
      obtain ⟨y, hy⟩ : ∃ y, Hid (y = d * x) := ⟨_, rfl⟩
      have hyl : y ≤ 65535 * x := by rw [hy.out]; exact Nat.mul_le_mul_right x (by omega)
      have hym : (d : Int) * (x : Int) = (y : Int) := by rw [hy.out]; simp
      have hra := fun o => hrow.below ((Below.refl wr.heap.size wr).alloc (Nat.le_refl _) o)
      go_wp2_with (at_builtin; refine wpl_push rfl _ _ 200 rfl w.heap.size 108 (.int .u64 0) 8 Tryd.underlying200 info38 rfl _ _ rfl (hra _) _ _ _ rfl (new_cell _ _ _) rfl hol' (by decide) (by have := hbel.size; simp; omega) ?_; intro g2 cap2 w2 hrow2 hgrow2 hat2 hlt2)
      have hb2 := below_grown (hbel.alloc hbel.size _) (hra _) hgrow2 (by have := hbel.size; simp; omega)
      refine ⟨⟨k + 1, (q + y) / 65536, outs ++ [(q + y) % 65536], by omega, by go_num, by simp, by omega, ?_, ?_, ?_, ?_, ?_, hb2⟩, by simp [intOf]; omega⟩
      · simp [Hid, hol.out]
      · intro hle
        have e : n + 3 - (k + 1) = 3 := by omega
        rw [e]; show _ < 281474976710656; omega
      · rw [us_snoc]; simpa using hrow2
      · rw [hy.out]; exact val_step outs ds k q x d hol.out Hd.out hval.out
      · intro d' hd'
        rcases List.mem_append.1 hd' with h1 | h1
        · exact hdig.out d' h1
        · simp at h1; omega
    · by_cases hq0 : q = 0
      · subst hq0
        go_wp2
        go_ret
        have hkn : Hid (ds.take k = ds) := List.take_of_length_le (by rw [hn.out]; omega)
        refine ⟨u5, outs, rfl, hrow, ?_, hdig.out, by rw [hol.out]; omega, by rw [hol.out]; omega, hbel⟩
        have := hval.out; rw [hkn.out] at this; simpa using this
      · have hk3 : k < n + 3 := by
          rcases Nat.lt_or_ge k (n + 3) with h' | h'
          · exact h'
          · exfalso
            have := hqb.out (by omega)
            rw [show n + 3 - k = 0 from by omega] at this
            simp at this; omega
        have hgt : decide ((0 : Int) < (q : Int)) = true := by simp; omega
        have hra := fun o => hrow.below ((Below.refl wr.heap.size wr).alloc (Nat.le_refl _) o)
        go_wp2_with (at_builtin; refine wpl_push rfl _ _ 200 rfl w.heap.size 108 (.int .u64 0) 8 Tryd.underlying200 info38 rfl _ _ rfl (hra _) _ _ _ rfl (new_cell _ _ _) rfl hol' (by decide) (by have := hbel.size; simp; omega) ?_; intro g2 cap2 w2 hrow2 hgrow2 hat2 hlt2)
        have hb2 := below_grown (hbel.alloc hbel.size _) (hra _) hgrow2 (by have := hbel.size; simp; omega)
        refine ⟨⟨k + 1, q / 65536, outs ++ [q % 65536], by omega, by go_num, by simp, by omega, ?_, ?_, ?_, ?_, ?_, hb2⟩, by simp [intOf]; omega⟩
        · simp [Hid, hol.out]
        · intro hle
          have := hqb.out (by omega)
          rw [show n + 3 - k = (n + 3 - (k + 1)) + 1 from by omega, Nat.pow_succ] at this
          exact Nat.div_lt_of_lt_mul (by rw [Nat.mul_comm]; exact this)
        · rw [us_snoc]; simpa using hrow2
        · exact val_step2 outs ds k q x hol.out (by rw [hn.out]; omega) hval.out
        · intro d' hd'
          rcases List.mem_append.1 hd' with h1 | h1
          · exact hdig.out d' h1
          · simp at h1; omega
end Go.Proofs.YtfkgfakjhjbidaaDoor.Sm
