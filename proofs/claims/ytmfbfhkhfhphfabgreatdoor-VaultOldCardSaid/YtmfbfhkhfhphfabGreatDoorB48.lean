/-
  Part of the proof: lists is walked.
-/
import Derived.Test.YtmfbfhkhfhphfabGreatDoorB47
namespace Go.Proofs.YtmfbfhkhfhphfabGreatDoor.Vt
open Go.RowKit
theorem l11_any (s : ByteArray) (w : World) (hs : s.size ≤ maxLen) : Calls Tryz.prog 42 #[.string s] w fun e w' => e = .returned (.bool (decide (200 < s.size))) ∧ w' = w := by
  unfold maxLen at hs
  go_enter Tryz.func42, Tryz.ntmps42
  go_wp2
  go_ret
  refine ⟨?_, rfl⟩
  simp
  omega
set_option maxHeartbeats 400000 in
/-- No text is too long: -1; else a number that is not below 0. -/
theorem idx1_any (a : Option Addr) (cap : Nat) (ls : List ByteArray) (w : World) (h : Dv.Texts w (fun _ => False) a ls) (hl : ls.length ≤ 6) (hs : ∀ s ∈ ls, s.size ≤ maxLen) :
    Calls Tryz.prog 70 #[.slice a ls.length cap, .func (.func 42) #[] #[]] w fun e w' => (∃ j : Int, e = .returned (.int .i64 j) ∧ (decide (0 ≤ j) = ls.any fun s => decide (200 < s.size))) ∧ w' = w := by
  go_enter Tryz.func70, Tryz.ntmps70
  go_wp2_with fail
  go_loop [8] (fun i => ∃ k : Nat, k ≤ ls.length ∧ i = .int .i64 k ∧ ∀ s ∈ ls.take k, s.size ≤ 200) (fun i => ls.length - (intOf i).toNat)
  case atStart => exact ⟨0, by omega, rfl, fun s hs => by simp at hs⟩
  case round =>
    obtain ⟨k, hk, rfl, hp⟩ := hrel
    by_cases hlt : k < ls.length
    · obtain ⟨g, o, rfl, hg, _, hc⟩ := h k ls[k] (List.getElem?_eq_getElem hlt)
      have hm : ls[k] ∈ ls := List.getElem_mem hlt
      have htk : Hid (ls.take (k + 1) = ls.take k ++ [ls[k]]) := by unfold Hid; rw [List.take_add_one, List.getElem?_eq_getElem hlt]; rfl
      have hsz := hs _ hm
      have hlt' : (k : Int) < (ls.length : Int) := by omega
      generalize ls[k] = x at *
      by_cases hx : 200 < x.size
      · have dx : decide (200 < x.size) = true := decide_eq_true hx
        go_wp2_with (go_at_call 42; refine (l11_any _ _ hsz).mono ?_; rintro e w' ⟨rfl, rfl⟩; rw [dx])
        go_ret
        refine ⟨⟨k, rfl, ?_⟩, rfl⟩
        have : ls.any (fun s => decide (200 < s.size)) = true := List.any_eq_true.2 ⟨x, hm, dx⟩
        rw [this]; simp
      · have dx : decide (200 < x.size) = false := decide_eq_false hx
        go_wp2_with (go_at_call 42; refine (l11_any _ _ hsz).mono ?_; rintro e w' ⟨rfl, rfl⟩; rw [dx])
        go_round
        case rel =>
          refine ⟨k + 1, by omega, by go_num, fun s hs' => ?_⟩
          rw [htk.out] at hs'
          rcases List.mem_append.1 hs' with h' | h'
          · exact hp s h'
          · simp at h'; subst h'; omega
        case measure => simp [intOf]; omega
    · have hk' : k = ls.length := by omega
      subst hk'
      rw [List.take_length] at hp
      have : ls.any (fun s => decide (200 < s.size)) = false := by
        rw [List.any_eq_false]; intro s hs'; have := hp s hs'; simp; omega
      go_wp2_with fail
      go_ret
      exact ⟨⟨-1, rfl, by first | decide | (rw [this]; decide)⟩, rfl⟩
theorem con1_any (a : Option Addr) (cap : Nat) (ls : List ByteArray) (w : World) (h : Dv.Texts w (fun _ => False) a ls) (hl : ls.length ≤ 6) (hs : ∀ s ∈ ls, s.size ≤ maxLen) :
    Calls Tryz.prog 41 #[.slice a ls.length cap, .func (.func 42) #[] #[]] w fun e w' => e = .returned (.bool (ls.any fun s => decide (200 < s.size))) ∧ w' = w := by
  go_enter Tryz.func41, Tryz.ntmps41
  go_wp2_with (go_at_call 70; refine (idx1_any _ _ _ _ h hl hs).mono ?_; rintro e w' ⟨⟨j, rfl, hj⟩, rfl⟩)
  go_ret
  refine ⟨?_, rfl⟩
  rw [← hj]; simp
/-- A list of texts that may be told. -/
def l1B (ls : List ByteArray) : Bool := decide (6 < ls.length) || ls.any fun s => decide (200 < s.size)
theorem l1_any (a : Option Addr) (cap : Nat) (ls : List ByteArray) (w : World) (h : Dv.Texts w (fun _ => False) a ls) (hl : ls.length ≤ maxLen) (hs : ∀ s ∈ ls, s.size ≤ maxLen) :
    Calls Tryz.prog 40 #[.slice a ls.length cap] w fun e w' => e = .returned (.bool (l1B ls)) ∧ w' = w := by
  unfold maxLen at hl
  by_cases hlt : ls.length ≤ 6
  · have d1 : decide ((6 : Int) < (ls.length : Int)) = false := by simp; omega
    go_enter Tryz.func40, Tryz.ntmps40
    go_wp2_with (go_at_call 41; refine (con1_any _ _ _ _ h hlt hs).mono ?_; rintro e w' ⟨rfl, rfl⟩)
    go_ret
    refine ⟨?_, rfl⟩
    have d2 : decide (6 < ls.length) = false := decide_eq_false (by omega)
    simp [l1B, d2]
  · have d1 : decide ((6 : Int) < (ls.length : Int)) = true := by simp; omega
    go_enter Tryz.func40, Tryz.ntmps40
    go_wp2
    go_ret
    refine ⟨?_, rfl⟩
    have d2 : decide (6 < ls.length) = true := decide_eq_true (by omega)
    simp [l1B, d2]
/-- A slice of slices of texts: where each lies, its capacity, its texts. -/
def Lst (w : World) (a : Option Addr) (L : List (Option Addr × Nat × List ByteArray)) : Prop :=
  ∀ i x, L[i]? = some x → ∃ g o, a = some ⟨g, o, none⟩ ∧ g < w.heap.size ∧ w.cell? ⟨g, o + i, none⟩ = some (.slice x.1 x.2.2.length x.2.1) ∧ Dv.Texts w (fun _ => False) x.1 x.2.2 ∧ x.2.2.length ≤ maxLen ∧ ∀ s ∈ x.2.2, s.size ≤ maxLen
theorem Lst.below {w w' : World} {a : Option Addr} {L : List (Option Addr × Nat × List ByteArray)} (h : Lst w a L) (hb : Below w.heap.size w w') : Lst w' a L := fun i x hx => by
  obtain ⟨g, o, h1, h2, h3, h4, h5⟩ := h i x hx
  exact ⟨g, o, h1, Nat.lt_of_lt_of_le h2 hb.size, (World.cell?_of_block (hb.block g h2)).trans h3, h4.chg ((Dv.Chg.refl w (fun _ => False)).below hb) (fun _ _ h => h), h5⟩
set_option maxHeartbeats 400000 in
theorem idx2_any (a : Option Addr) (cap : Nat) (L : List (Option Addr × Nat × List ByteArray)) (w : World) (h : Lst w a L) (hl : L.length ≤ 8) :
    Calls Tryz.prog 69 #[.slice a L.length cap, .func (.func 40) #[] #[]] w fun e w' => (∃ j : Int, e = .returned (.int .i64 j) ∧ (decide (0 ≤ j) = L.any fun x => l1B x.2.2)) ∧ w' = w := by
  go_enter Tryz.func69, Tryz.ntmps69
  go_wp2_with fail
  go_loop [8] (fun i => ∃ k : Nat, k ≤ L.length ∧ i = .int .i64 k ∧ ∀ x ∈ L.take k, l1B x.2.2 = false) (fun i => L.length - (intOf i).toNat)
  case atStart => exact ⟨0, by omega, rfl, fun s hs => by simp at hs⟩
  case round =>
    obtain ⟨k, hk, rfl, hp⟩ := hrel
    by_cases hlt : k < L.length
    · obtain ⟨g, o, rfl, hg, hc, ht, hz1, hz2⟩ := h k L[k] (List.getElem?_eq_getElem hlt)
      have hm : L[k] ∈ L := List.getElem_mem hlt
      have htk : Hid (L.take (k + 1) = L.take k ++ [L[k]]) := by unfold Hid; rw [List.take_add_one, List.getElem?_eq_getElem hlt]; rfl
      have hlt' : (k : Int) < (L.length : Int) := by omega
      generalize L[k] = x at *
      cases dx : l1B x.2.2 with
      | true =>
        go_wp2_with (go_at_call 40; refine (l1_any _ _ _ _ ht hz1 hz2).mono ?_; rintro e w' ⟨rfl, rfl⟩; rw [dx])
        go_ret
        refine ⟨⟨k, rfl, ?_⟩, rfl⟩
        have : L.any (fun x => l1B x.2.2) = true := List.any_eq_true.2 ⟨x, hm, dx⟩
        rw [this]; simp
      | false =>
        go_wp2_with (go_at_call 40; refine (l1_any _ _ _ _ ht hz1 hz2).mono ?_; rintro e w' ⟨rfl, rfl⟩; rw [dx])
        go_round
        case rel =>
          refine ⟨k + 1, by omega, by go_num, fun s hs' => ?_⟩
          rw [htk.out] at hs'
          rcases List.mem_append.1 hs' with h' | h'
          · exact hp s h'
          · simp at h'; subst h'; exact dx
        case measure => simp [intOf]; omega
    · have hk' : k = L.length := by omega
      subst hk'
      rw [List.take_length] at hp
      have : L.any (fun x => l1B x.2.2) = false := by
        rw [List.any_eq_false]; intro s hs'; rw [hp s hs']; decide
      go_wp2_with fail
      go_ret
      exact ⟨⟨-1, rfl, by first | decide | (rw [this]; decide)⟩, rfl⟩
theorem con2_any (a : Option Addr) (cap : Nat) (L : List (Option Addr × Nat × List ByteArray)) (w : World) (h : Lst w a L) (hl : L.length ≤ 8) :
    Calls Tryz.prog 39 #[.slice a L.length cap, .func (.func 40) #[] #[]] w fun e w' => e = .returned (.bool (L.any fun x => l1B x.2.2)) ∧ w' = w := by
  go_enter Tryz.func39, Tryz.ntmps39
  go_wp2_with (go_at_call 69; refine (idx2_any _ _ _ _ h hl).mono ?_; rintro e w' ⟨⟨j, rfl, hj⟩, rfl⟩)
  go_ret
  refine ⟨?_, rfl⟩
  rw [← hj]; simp
/-- Lists are few, and short enough. -/
def lsB (L : List (Option Addr × Nat × List ByteArray)) : Bool := decide (L.length ≤ 8) && !(L.any fun x => l1B x.2.2)
theorem lists_any (a : Option Addr) (cap : Nat) (L : List (Option Addr × Nat × List ByteArray)) (w : World) (h : Lst w a L) (hl : L.length ≤ maxLen) :
    Calls Tryz.prog 8 #[.slice a L.length cap] w fun e w' => e = .returned (.bool (lsB L)) ∧ w' = w := by
  unfold maxLen at hl
  by_cases hlt : L.length ≤ 8
  · go_enter Tryz.func8, Tryz.ntmps8
    go_wp2_with (go_at_call 39; refine (con2_any _ _ _ _ h hlt).mono ?_; rintro e w' ⟨rfl, rfl⟩)
    go_ret
    refine ⟨?_, rfl⟩
    simp [lsB, hlt]
  · have d1 : decide ((L.length : Int) ≤ 8) = false := by simp; omega
    go_enter Tryz.func8, Tryz.ntmps8
    go_wp2
    go_ret
    refine ⟨?_, rfl⟩
    simp [lsB, hlt]
theorem lsB_ok {L : List (Option Addr × Nat × List ByteArray)} (h : lsB L = true) : L.length ≤ 8 ∧ ∀ x ∈ L, x.2.2.length ≤ 6 ∧ ∀ s ∈ x.2.2, s.size ≤ 200 := by
  unfold lsB l1B at h
  simp at h
  exact ⟨h.1, fun x hx => ⟨(h.2 x.1 x.2.1 x.2.2 hx).1, fun s hs => (h.2 x.1 x.2.1 x.2.2 hx).2 s hs⟩⟩
end Go.Proofs.YtmfbfhkhfhphfabGreatDoor.Vt
