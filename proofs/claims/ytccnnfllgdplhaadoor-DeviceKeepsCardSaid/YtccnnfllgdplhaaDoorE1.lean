/-
  Part of the proof: 'few', 'pick' and slices.Equal are walked.
-/
import Derived.Test.YtccnnfllgdplhaaDoorDL
namespace Go.Proofs.YtccnnfllgdplhaaDoor
open Go.RowKit
theorem Texts.below {w w' : World} {O : Nat → Prop} {a : Option Addr} {ls : List ByteArray} (h : Texts w O a ls) (hb : Below w.heap.size w w') : Texts w' O a ls :=
  h.chg (P := fun _ => False) (Chg.of hb _) (fun _ _ hf => hf.elim)
theorem Texts.none {w : World} {O P : Nat → Prop} {a : Option Addr} {ls : List ByteArray} (h : Texts w O a ls) (hp : ∀ k, k < w.heap.size → ¬ P k) : Texts w P a ls := by
  intro i x hx
  obtain ⟨g, o, h1, h2, _, h4⟩ := h i x hx
  exact ⟨g, o, h1, h2, hp g h2, h4⟩
theorem Texts.drewN {w : World} {O : Nat → Prop} {a : Option Addr} {ls : List ByteArray} (h : Texts w O a ls) (n : Nat) : Texts (w.drewN n) O a ls := h
theorem few1_any (s : ByteArray) (w : World) (hs : s.size ≤ maxLen) : Calls Tryd.prog 89 #[.string s] w fun e w' => e = .returned (.bool (decide (256 < s.size))) ∧ w' = w := by
  unfold maxLen at hs
  go_enter Tryd.func89, Tryd.ntmps89
  go_wp2
  go_ret
  refine ⟨?_, rfl⟩
  simp
  omega
set_option maxHeartbeats 400000 in
/-- No text is too long: -1; else a number that is not below 0. -/
theorem indexFunc_any (a : Option Addr) (cap : Nat) (ls : List ByteArray) (w : World) (h : Texts w (fun _ => False) a ls) (hl : ls.length ≤ 20) (hs : ∀ s ∈ ls, s.size ≤ maxLen) :
    Calls Tryd.prog 111 #[.slice a ls.length cap, .func (.func 89) #[] #[]] w fun e w' => (∃ j : Int, e = .returned (.int .i64 j) ∧ (decide (0 ≤ j) = ls.any fun s => decide (256 < s.size))) ∧ w' = w := by
  go_enter Tryd.func111, Tryd.ntmps111
  go_wp2_with fail
  go_loop [8] (fun i => ∃ k : Nat, k ≤ ls.length ∧ i = .int .i64 k ∧ ∀ s ∈ ls.take k, s.size ≤ 256) (fun i => ls.length - (intOf i).toNat)
  case atStart => exact ⟨0, by omega, rfl, fun s hs => by simp at hs⟩
  case round =>
    obtain ⟨k, hk, rfl, hp⟩ := hrel
    by_cases hlt : k < ls.length
    · obtain ⟨g, o, rfl, hg, _, hc⟩ := h k ls[k] (List.getElem?_eq_getElem hlt)
      have hm : ls[k] ∈ ls := List.getElem_mem hlt
      have htk : Hid (ls.take (k + 1) = ls.take k ++ [ls[k]]) := by unfold Hid; rw [List.take_add_one, List.getElem?_eq_getElem hlt]; rfl
      have hsz := hs _ hm
      have hlt' : (k : Int) < (ls.length : Int) := by omega
      generalize ls[k] = x at *
      by_cases hx : 256 < x.size
      · have dx : decide (256 < x.size) = true := decide_eq_true hx
        go_wp2_with (go_at_call 89; refine (few1_any _ _ hsz).mono ?_; rintro e w' ⟨rfl, rfl⟩; rw [dx])
        go_ret
        refine ⟨⟨k, rfl, ?_⟩, rfl⟩
        have : ls.any (fun s => decide (256 < s.size)) = true := List.any_eq_true.2 ⟨x, hm, dx⟩
        rw [this]; simp
      · have dx : decide (256 < x.size) = false := decide_eq_false hx
        go_wp2_with (go_at_call 89; refine (few1_any _ _ hsz).mono ?_; rintro e w' ⟨rfl, rfl⟩; rw [dx])
        go_round
        case rel =>
          refine ⟨k + 1, by omega, by go_num, fun s hs' => ?_⟩
          rw [htk.out] at hs'
          rcases List.mem_append.1 hs' with h' | h'
          · exact hp s h'
          · simp at h'; subst h'; omega
        case measure => simp [intOf]; omega
    · have hk' : k = ls.length := by omega
      subst hk'
      rw [List.take_length] at hp
      have : ls.any (fun s => decide (256 < s.size)) = false := by
        rw [List.any_eq_false]; intro s hs'; have := hp s hs'; simp; omega
      go_wp2_with fail
      go_ret
      exact ⟨⟨-1, rfl, by first | decide | (rw [this]; decide)⟩, rfl⟩
theorem containsFunc_any (a : Option Addr) (cap : Nat) (ls : List ByteArray) (w : World) (h : Texts w (fun _ => False) a ls) (hl : ls.length ≤ 20) (hs : ∀ s ∈ ls, s.size ≤ maxLen) :
    Calls Tryd.prog 88 #[.slice a ls.length cap, .func (.func 89) #[] #[]] w fun e w' => e = .returned (.bool (ls.any fun s => decide (256 < s.size))) ∧ w' = w := by
  go_enter Tryd.func88, Tryd.ntmps88
  go_wp2_with (go_at_call 111; refine (indexFunc_any _ _ _ _ h hl hs).mono ?_; rintro e w' ⟨⟨j, rfl, hj⟩, rfl⟩)
  go_ret
  refine ⟨?_, rfl⟩
  rw [← hj]; simp
/-- The texts are few, and short enough. -/
def fewB (ls : List ByteArray) : Bool := decide (ls.length ≤ 20) && !(ls.any fun s => decide (256 < s.size))
theorem fewB_len {ls : List ByteArray} (h : fewB ls = true) : ls.length ≤ 20 := by unfold fewB at h; simp at h; exact h.1
theorem fewB_size {ls : List ByteArray} (h : fewB ls = true) : ∀ s ∈ ls, s.size ≤ 256 := by unfold fewB at h; simp at h; exact h.2
theorem few_any (a : Option Addr) (cap : Nat) (ls : List ByteArray) (w : World) (h : Texts w (fun _ => False) a ls) (hl : ls.length ≤ maxLen) (hs : ∀ s ∈ ls, s.size ≤ maxLen) :
    Calls Tryd.prog 46 #[.slice a ls.length cap] w fun e w' => e = .returned (.bool (fewB ls)) ∧ w' = w := by
  unfold maxLen at hl
  by_cases hlt : ls.length ≤ 20
  · go_enter Tryd.func46, Tryd.ntmps46
    go_wp2_with (go_at_call 88; refine (containsFunc_any _ _ _ _ h hlt hs).mono ?_; rintro e w' ⟨rfl, rfl⟩)
    go_ret
    refine ⟨?_, rfl⟩
    simp [fewB, hlt]
  · have d1 : decide ((ls.length : Int) ≤ 20) = false := by simp; omega
    go_enter Tryd.func46, Tryd.ntmps46
    go_wp2
    go_ret
    refine ⟨?_, rfl⟩
    simp [fewB, hlt]
theorem pick_any (a : Int) (n : Nat) (w : World) (h0 : 0 < n) (h1 : n ≤ 10000) :
    Calls Tryd.prog 48 #[.int .i64 a, .int .i64 (n : Int)] w fun e w' => ∃ j : Nat, e = .returned (.int .i64 (j : Int)) ∧ j < n ∧ w' = w := by
  obtain ⟨u, hu⟩ : ∃ u : Nat, IntKind.u64.wrap a = (u : Int) := ⟨(a % 18446744073709551616).toNat, by simp [IntKind.wrap, IntKind.bits, IntKind.signed]; omega⟩
  obtain ⟨j, hj, hjn⟩ : ∃ j : Nat, (u : Int) % (n : Int) = (j : Int) ∧ j < n := ⟨u % n, by simp, Nat.mod_lt _ h0⟩
  go_enter Tryd.func48, Tryd.ntmps48
  go_wp2
  go_ret
  exact ⟨j, rfl, hjn, rfl⟩
set_option maxHeartbeats 400000 in
theorem equal_same (a b : Option Addr) (c d : Nat) (ls : List ByteArray) (w : World) (ha : Texts w (fun _ => False) a ls) (hb : Texts w (fun _ => False) b ls) (hl : ls.length ≤ 1000) :
    Calls Tryd.prog 49 #[.slice a ls.length c, .slice b ls.length d] w fun e w' => e = .returned (.bool true) ∧ Below w.heap.size w w' := by
  go_enter Tryd.func49, Tryd.ntmps49
  go_wp2_with fail
  go_loopw [13] (fun i wr => ∃ k n : Nat, k ≤ ls.length ∧ i = .int .i64 k ∧ wr = w.drewN n) (fun i _ => ls.length - (intOf i).toNat)
  case atStart => exact ⟨0, 0, by omega, rfl, rfl⟩
  case round =>
    obtain ⟨k, n, hk, rfl, rfl⟩ := hrel
    by_cases hlt : k < ls.length
    · obtain ⟨g, o, rfl, hg, _, hc⟩ := ha k ls[k] (List.getElem?_eq_getElem hlt)
      obtain ⟨g', o', rfl, hg', _, hc'⟩ := hb k ls[k] (List.getElem?_eq_getElem hlt)
      have hlt' : (k : Int) < (ls.length : Int) := by omega
      generalize ls[k] = x at *
      go_wp2_with fail
      go_quiet (fail)
      go_wp2
      go_light
      exact ⟨⟨k + 1, n + nq, by omega, by go_num, rfl⟩, by simp [intOf]; omega⟩
    · go_wp2_with fail
      go_ret
      exact ⟨rfl, below_drewN (Below.refl _ _) n⟩
end Go.Proofs.YtccnnfllgdplhaaDoor
