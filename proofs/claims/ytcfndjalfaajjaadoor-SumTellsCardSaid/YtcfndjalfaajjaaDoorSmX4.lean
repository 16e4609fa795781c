/-
  Part of the proof of SumTells: a call of SumTells returns true, whatever the input, where the two tables that it reads lie as laid.
-/
import Derived.Test.YtcfndjalfaajjaaDoorSmX3
namespace Go.Proofs.YtcfndjalfaajjaaDoor.Sm
open Go.RowKit
set_option maxRecDepth 100000 in
set_option maxHeartbeats 1000000 in
theorem law_any (s : ByteArray) (n : Int) (kb : UInt8) (a : Option Addr) (m cap : Nat) (ss : List ByteArray) (w : World) (hs : s.size ≤ maxLen) (hm : m ≤ maxLen) (hp : Parts w a m ss) (hss : ∀ p ∈ ss, p.size ≤ maxLen) (hK : KB w) (hD : DB w) :
    Calls Tryd.prog 3 #[.string s, .int .i64 n, .int .u8 (kb.toNat : Int), .slice a m cap] w fun e w' => e = .returned (.bool true) ∧ Below w.heap.size w w' := by
  unfold maxLen at hs hm
  by_cases h1 : 400 < s.size
  · go_enter Tryd.func3, Tryd.ntmps3
    go_wp2
    go_ret
    exact ⟨rfl, Below.refl _ _⟩
  by_cases h2 : 10 < m
  · go_enter Tryd.func3, Tryd.ntmps3
    go_wp2
    go_ret
    exact ⟨rfl, Below.refl _ _⟩
  go_enter Tryd.func3, Tryd.ntmps3
  go_wp2_with fail
  go_loopw [9] (fun i wr => ∃ j : Nat, j ≤ m ∧ i = .int .i64 j ∧ (∀ p ∈ ss.take j, p.size ≤ 60) ∧ Below w.heap.size w wr) (fun i _ => m - (intOf i).toNat)
  case atStart => exact ⟨0, by omega, rfl, by simp, Below.refl _ _⟩
  case round =>
    obtain ⟨j, hj, rfl, hsh, hbr⟩ := hrel
    by_cases hltj : j < m
    · obtain ⟨b, off, p, rfl, hbl, hc, hsp⟩ := hp.at' j hltj
      have hc' : wr.cell? ⟨b, off + j, none⟩ = some (.string p) := by rw [hbr.cell hbl]; exact hc
      have hz := hss p (List.mem_of_getElem? hsp.out)
      clear hc
      go_wp2_with fail
      refine (long_any p _ hz).mono ?_
      rintro e w' ⟨rfl, rfl⟩
      by_cases h60 : 60 < p.size
      · simp only [h60, decide_true]
        go_wp2
        go_ret
        exact ⟨rfl, hbr⟩
      · simp only [h60, decide_false]
        go_wp2
        go_light
        refine ⟨⟨j + 1, by omega, by go_num, fun q hq => ?_, hbr⟩, by simp [intOf]; omega⟩
        rw [List.take_add_one, hsp.out] at hq
        rcases List.mem_append.1 hq with h | h
        · exact hsh q h
        · simp at h; subst h; omega
    · have hj' : j = m := by omega
      subst hj'
      rw [List.take_of_length_le (by rw [hp.len]; exact Nat.le_refl _)] at hsh
      go_wp2_with fail
      refine (new_any _).mono ?_
      rintro e w1 ⟨rb, rfl, hrb, hR, g1⟩
      have b1 := hbr.trans (g1.mono hbr.size)
      go_wp2_with fail
      refine (sum_any s _ (by omega) (hK.below b1)).mono ?_
      rintro e w2 ⟨rfl, g2⟩
      have b2 := b1.trans (g2.mono b1.size)
      have R2 := Blk.below hR g2 hR.lt
      go_wp2_with fail
      refine (rsum_any rb s _ (by omega) R2).mono ?_
      rintro e w3 ⟨rfl, g3⟩
      have b3 := b2.trans (g3.mono b2.size)
      have R3 := Blk.below R2 g3 R2.lt
      go_wp2_with fail
      refine (hex_any s _ (by omega)).mono ?_
      rintro e w4 ⟨rfl, g4⟩
      have b4 := b3.trans (g4.mono b3.size)
      have R4 := Blk.below R3 g4 R3.lt
      go_wp2_with fail
      refine (refhex_any s _ (by omega) (hD.below b4)).mono ?_
      rintro e w5 ⟨rfl, g5⟩
      have b5 := b4.trans (g5.mono b4.size)
      have R5 := Blk.below R4 g5 R4.lt
      go_wp2_with fail
      refine (num_any n _).mono ?_
      rintro e w6 ⟨rfl, g6⟩
      have b6 := b5.trans (g6.mono b5.size)
      have R6 := Blk.below R5 g6 R5.lt
      go_wp2_with fail
      refine (refnum_any n _).mono ?_
      rintro e w7 ⟨rfl, g7⟩
      have b7 := b6.trans (g7.mono b6.size)
      have R7 := Blk.below R6 g7 R6.lt
      go_wp2_with fail
      refine (mark_any kb a j cap ss _ (hp.below b7) (by omega) hsh (hK.below b7)).mono ?_
      rintro e w8 ⟨rfl, g8⟩
      have b8 := b7.trans (g8.mono b7.size)
      have R8 := Blk.below R7 g8 R7.lt
      go_wp2_with fail
      refine (rmark_any rb kb a j cap ss _ R8 (hp.below b8) (by omega) hsh).mono ?_
      rintro e w9 ⟨rfl, g9⟩
      have b9 := b8.trans (g9.mono b8.size)
      go_wp2
      go_ret
      exact ⟨rfl, b9⟩
end Go.Proofs.YtcfndjalfaajjaaDoor.Sm
