/-
  Part of the proof: a call of PageSeals returns true, whatever the input, where the two variables that it reads lie as laid.
-/
import Derived.Test.YtccnnfllgdplhaaDoorP6
import Derived.Test.YtccnnfllgdplhaaDoorA3
namespace Go.Proofs.YtccnnfllgdplhaaDoor.Pg
open Go.RowKit
theorem bare_any (w : World) (n : Int) (hE : EB w) : Calls Tryd.prog 22 #[errV n, .int .i64 n] w fun e w' => e = .returned (.bool true) ∧ Below w.heap.size w w' := by
  unfold errV
  by_cases h : n = 0
  · subst h
    rw [if_pos rfl]
    exact (bare_nil w).mono fun e w' ⟨he, hw⟩ => ⟨he, by rw [hw]; exact Below.refl _ _⟩
  · rw [if_neg h]; exact bare_some w n hE
theorem three {w : World} {b : Nat} {T : TypeId} {x y z : ByteArray} (h : Blk w b #[.string x, .string y, .string z] T) (hx : x.size ≤ 300) (hy : y.size ≤ 300) (hz : z.size ≤ 300) (j : Nat) (hj : j < 3) : ∃ u : ByteArray, w.cell? ⟨b, j, none⟩ = some (.string u) ∧ u.size ≤ 300 := by
  have hc := h.cell j
  match j, hj with
  | 0, _ => exact ⟨x, hc, hx⟩
  | 1, _ => exact ⟨y, hc, hy⟩
  | 2, _ => exact ⟨z, hc, hz⟩
set_option maxRecDepth 100000 in
set_option maxHeartbeats 2000000 in
theorem law_any (key : ByteArray) (id v : Int) (text s : ByteArray) (w : World) (h1 : key.size ≤ maxLen) (h2 : text.size ≤ maxLen) (h3 : s.size ≤ maxLen) (hK : Sm.KB w) (hE : EB w) :
    Calls Tryd.prog 9 #[.string key, .int .i64 id, .int .i64 v, .string text, .string s] w fun e w' => e = .returned (.bool true) ∧ Below w.heap.size w w' := by
  have hl := Sm.long_any key w h1
  unfold maxLen at h1 h2 h3
  by_cases c1 : 60 < key.size
  · rw [decide_eq_true c1] at hl
    go_enter Tryd.func9, Tryd.ntmps9
    go_wp2_with (go_at_call 10; refine hl.mono ?_; rintro e w' ⟨rfl, rfl⟩)
    go_ret
    exact ⟨rfl, Below.refl _ _⟩
  rw [decide_eq_false c1] at hl
  by_cases c2 : 260 < text.size
  · have d2 : decide ((260 : Int) < (text.size : Int)) = true := decide_eq_true (by omega)
    go_enter Tryd.func9, Tryd.ntmps9
    go_wp2_with (go_at_call 10; refine hl.mono ?_; rintro e w' ⟨rfl, rfl⟩)
    go_ret
    exact ⟨rfl, Below.refl _ _⟩
  have d2 : decide ((260 : Int) < (text.size : Int)) = false := decide_eq_false (by omega)
  by_cases c3 : 300 < s.size
  · have d3 : decide ((300 : Int) < (s.size : Int)) = true := decide_eq_true (by omega)
    go_enter Tryd.func9, Tryd.ntmps9
    go_wp2_with (go_at_call 10; refine hl.mono ?_; rintro e w' ⟨rfl, rfl⟩)
    go_ret
    exact ⟨rfl, Below.refl _ _⟩
  have d3 : decide ((300 : Int) < (s.size : Int)) = false := decide_eq_false (by omega)
  have zV := sealV_size key id v text
  have HS := fun (rb : Nat) (w0 : World) (hR : RB w0 rb) => rseal_any rb key id v text w0 hR (by omega) (by omega)
  have HT := fun (w0 : World) (hK0 : Sm.KB w0) => seal_any key id v text w0 (by omega) (by omega) hK0
  generalize sealV key id v text = V at *
  generalize sealC key id v text = C at *
  have zx : (V ++ ⟨#[120]⟩).size = V.size + 1 := by rw [ByteArray.size_append]; rfl
  go_enter Tryd.func9, Tryd.ntmps9
  go_wp2_with (go_at_call 10; refine hl.mono ?_; rintro e w' ⟨rfl, rfl⟩)
  refine (Sm.new_any _).mono ?_
  rintro e w1 ⟨rb, rfl, hrb, hR1, g1⟩
  have R1 : RB w1 rb := hR1
  clear hR1 d2 d3
  go_wp2_with fail
  refine (HS rb _ R1).mono ?_
  rintro e w2 ⟨rfl, g2⟩
  have b2 := g1.trans (g2.mono g1.size)
  have R2 := R1.below g2
  go_wp2_with fail
  refine (HT _ (hK.below b2)).mono ?_
  rintro e w3 ⟨rfl, g3⟩
  have b3 := b2.trans (g3.mono b2.size)
  have R3 := R2.below g3
  go_wp2_with fail
  refine (bare_any _ C (hE.below b3)).mono ?_
  rintro e w4 ⟨rfl, g4⟩
  have b4 := b3.trans (g4.mono b3.size)
  have R4 := R3.below g4
  go_wp2_with fail
  refine (pmark_any id v text _ (by omega) (hK.below b4)).mono ?_
  rintro e w5 ⟨rfl, g5⟩
  have b5 := b4.trans (g5.mono b4.size)
  have R5 := R4.below g5
  go_wp2_with fail
  refine (rpmark_any rb id v text _ R5 (by omega)).mono ?_
  rintro e w6 ⟨rfl, g6⟩
  have b6 := b5.trans (g6.mono b5.size)
  have R6 := R5.below g6
  go_wp2_with fail
  have g7 := below_alloc w6 (.cells #[.string s, .string V, .string (V ++ ⟨#[120]⟩)] 9)
  have b7 := b6.trans (g7.mono b6.size)
  have R7 := R6.below g7
  have bk := Blk.new w6 #[.string s, .string V, .string (V ++ ⟨#[120]⟩)] 9
  obtain ⟨w7, hw7⟩ : ∃ w7, Hid (w6.alloc (.cells #[.string s, .string V, .string (V ++ ⟨#[120]⟩)] 9) = w7) := ⟨_, rfl⟩
  obtain ⟨Bk, hBk⟩ : ∃ Bk, Hid (Bk = w6.heap.size) := ⟨_, rfl⟩
  rw [hw7.out] at b7 R7 bk
  rw [← hBk.out] at bk
  rw [hw7.out, ← hBk.out]
  clear g1 g2 g3 g4 g5 g6 g7 b2 b3 b4 b5 b6 R1 R2 R3 R4 R5 R6 hw7 hBk hrb
  go_loopw [81] (fun i wr => ∃ j : Nat, j ≤ 3 ∧ i = .int .i64 j ∧ Below w7.heap.size w7 wr) (fun i _ => 3 - (intOf i).toNat)
  case atStart => exact ⟨0, by omega, rfl, Below.refl _ _⟩
  case round =>
    obtain ⟨j, hj, rfl, br⟩ := hrel
    have gr := b7.trans (br.mono b7.size)
    have Rr := R7.below br
    by_cases hlt : j < 3
    · obtain ⟨x, hx, zx'⟩ := three (bk.below br bk.lt) (by omega) (by omega) (by omega) j hlt
      have hlt' : (j : Int) < 3 := by omega
      have hj0 : (0 : Int) ≤ (j : Int) := by omega
      go_wp2_with fail
      refine (ropen_any rb key id x _ Rr (by omega) zx').mono ?_
      rintro e w8 ⟨rfl, g8⟩
      have b8 := br.trans (g8.mono br.size)
      have gr8 := b7.trans (b8.mono b7.size)
      go_wp2_with fail
      refine (open_any key id x _ (by omega) zx' (hK.below gr8)).mono ?_
      rintro e w9 ⟨rfl, g9⟩
      have b9 := b8.trans (g9.mono b8.size)
      have gr9 := b7.trans (b9.mono b7.size)
      generalize openC key id x = D
      generalize openN key id x = N
      generalize openT key id x = T
      go_wp2_with fail
      refine (bare_any _ D (hE.below gr9)).mono ?_
      rintro e wA ⟨rfl, gA⟩
      have bA := b9.trans (gA.mono b9.size)
      go_wp2_with fail
      go_light
      exact ⟨⟨j + 1, by omega, by go_num, bA⟩, by simp [intOf]; omega⟩
    · have hj3 : decide ((j : Int) < 3) = false := decide_eq_false (by omega)
      go_wp2_with fail
      go_ret
      exact ⟨rfl, gr⟩
end Go.Proofs.YtccnnfllgdplhaaDoor.Pg
