/-
  Part of the proof of TreeBinds: a row is gone through by two and two; the row above it.
-/
import Derived.Test.YtgbfjdaelcfnjaaDoorU3
namespace Go.Proofs.YtgbfjdaelcfnjaaDoor.Tr
open Go.RowKit Go.Shelf
attribute [local go_sem] Oper.semAt_some
theorem drewN_ind (J : World → Prop) (h : ∀ W, J W → J W.drew) (W : World) (h0 : J W) (k : Nat) : J (W.drewN k) := by
  induction k with
  | zero => exact h0
  | succ k ih => exact h _ ih
set_option maxRecDepth 100000 in
set_option maxHeartbeats 1000000 in
theorem pairs_gives (n Bp : Nat) (_hn : 1 ≤ n) (a : Option Addr) (M c N : Nat) (hM : Hid (M = 2 * N)) (f : Nat → ByteArray) (hN : N ≤ 16) (I : Nat → World → Prop) (hI : ∀ i W, I i W → W.cell? ⟨Bp, 0, none⟩ = some (.slice a M c) ∧ Tx W a f M) :
    Gives Fence.wide n Tryd.prog 143 #[.pointer (some ⟨Bp, 0, none⟩)] (fun i => #[.string (f (2 * i)), .string (f (2 * i + 1))]) N I := by
  intro l J W hJI hJd hY h0
  refine callsIn_of_wp Tryd.func143 rfl trivial ?_ rfl
  simp only [Tryd.ntmps143, List.size_toArray, List.length_cons, List.length_nil, Nat.reduceAdd, Nat.reduceSub, Array.replicate_succ, Array.replicate_zero, List.push_toArray, List.append_toArray, List.nil_append, List.cons_append]
  gi_wp2
  gi_loopw [3] (fun p wr => ∃ i : Nat, i ≤ N ∧ p = .int .i64 (2 * (i : Int) + 1) ∧ J i wr) (fun p _ => (2 * (N : Int) + 1 - intOf p).toNat)
  case atStart => exact ⟨0, by omega, by simp, h0⟩
  case round =>
    obtain ⟨i, hi, rfl, hJ⟩ := hrel
    obtain ⟨c0, hT⟩ := hI i wr (hJI i wr hJ)
    by_cases hlt : i < N
    · obtain ⟨u, hu⟩ : ∃ u : Nat, u = 2 * i := ⟨_, rfl⟩
      obtain ⟨t, ht⟩ : ∃ t : Nat, t = 2 * i + 1 := ⟨_, rfl⟩
      have hMo := hM.out
      have e1 : 2 * (i : Int) + 1 = (t : Int) := by omega
      have htu : (t : Int) - 1 = (u : Int) := by omega
      have htM : (t : Int) < (M : Int) := by omega
      have huM : (u : Int) < (M : Int) := by omega
      have hM32 : M ≤ 32 := by omega
      have e2 : Hid ((t : Int) + 2 = 2 * ((i + 1 : Nat) : Int) + 1) := by unfold Hid; omega
      have e3 : Hid (t ≤ 2 * N) := by unfold Hid; omega
      obtain ⟨g, o, rfl, hg, cu⟩ := hT u (by omega)
      obtain ⟨g', o', hgo, _, ct⟩ := hT t (by omega)
      obtain ⟨rfl, rfl⟩ : g = g' ∧ o = o' := by injection hgo with h; injection h with h1 h2; exact ⟨h1, h2⟩
      have hY' := fun k => hY i (wr.drewN k) hlt (drewN_ind (J i) (hJd i) wr hJ k)
      have ht' : t = u + 1 := by omega
      simp only [← hu, ← ht'] at hY'
      rw [e1]
      generalize f u = x at *
      generalize f t = y at *
      clear hT hY hgo hg hI hJI h0 e1
      have hu0 : (0 : Int) ≤ (u : Int) := by omega
      have ht0 : (0 : Int) ≤ (t : Int) := by omega
      clear hu ht hMo ht'
      gi_wp2
      refine regIn_head 10 12 (fun w' => ∃ n, w' = wr.drewN n) wide_none mixed rfl (by kernel_rfl) (by kernel_rfl) ⟨1, rfl⟩ ?_
      simp only [List.take_succ_cons, List.take_zero]
      repeat (go_big_quiet_step (fail))
      refine wpQuiet_nil ?_
      rintro w' ⟨k, rfl⟩
      obtain ⟨fn, tmps, assign, body, hy, hR⟩ := hY' k
      refine regIn_one 10 rfl (by kernel_rfl) (by kernel_rfl) fun K hK => ?_
      refine opIn_round wide_none (fun c => by simp) 20 rfl l fn tmps assign body (by go_simp) hR ?_
      rintro e w' ⟨rfl, hJ3⟩
      refine ⟨_, rfl, hK _ _ ?_⟩
      clear hK K
      refine regIn_one 11 rfl (by kernel_rfl) (by kernel_rfl) fun K hK => ?_
      refine opIn_value wide_none (fun c => by simp) 21 rfl (.bool false) (by go_simp) (hK _ _ ?_)
      clear hK K
      refine regIn_end (by kernel_rfl) ?_
      simp only [Act.put, List.setIfInBounds_toArray, List.set_cons_succ, List.set_cons_zero]
      gi_wp2
      go_light
      exact ⟨⟨i + 1, by omega, congrArg (Value.int .i64) e2.out, hJ3⟩, by have := e3.out; simp [intOf]; omega⟩
    · obtain rfl : i = N := by omega
      have hMo := hM.out
      have d : decide (2 * (i : Int) + 1 < (M : Int)) = false := decide_eq_false (by omega)
      clear hMo
      gi_wp2
      go_end0
      exact ⟨⟨_, rfl⟩, hJ⟩
end Go.Proofs.YtgbfjdaelcfnjaaDoor.Tr
