/-
  Part of the proof: a call of DeviceKeeps returns true, whatever the input, where the variable that it reads lies as laid.
-/
import Derived.Test.YtccnnfllgdplhaaDoorG7
namespace Go.Proofs.YtccnnfllgdplhaaDoor
open Go.RowKit
theorem kx_at {w0 w : World} {O P : Nat → Prop} {b r c Bx : Nat} {arr : Array Value} {S S' : Nat → Nat → UInt8} {W W' : List (Nat × (Nat → UInt8))} {F F' N : Int} (h : Kp w0 w O P b r c [(Bx, arr)] S W F S' W' F' N) {n : Nat} {v : Value} (hv : Hid (arr[n]? = some v)) : w.cell? ⟨Bx, n, none⟩ = some v := by
  rw [h.x.cell]; exact hv.out
theorem sixInts (w : World) (z : Int) : Ints (w.alloc (.cells #[.int .i64 z, .int .i64 0, .int .i64 1, .int .i64 65, .int .i64 66, .int .i64 (-1)] 3)) (some ⟨w.heap.size, 0, none⟩) [z, 0, 1, 65, 66, -1] := by
  intro i x hx
  have hb : Blk (w.alloc (.cells #[.int .i64 z, .int .i64 0, .int .i64 1, .int .i64 65, .int .i64 66, .int .i64 (-1)] 3)) w.heap.size #[.int .i64 z, .int .i64 0, .int .i64 1, .int .i64 65, .int .i64 66, .int .i64 (-1)] 3 := Blk.new _ _ _
  refine ⟨_, _, rfl, hb.lt, ?_⟩
  rw [Nat.zero_add, hb.cell]
  have hi : i < 6 := (List.getElem?_eq_some_iff.1 hx).1
  match i, hi with
  | 0, _ | 1, _ | 2, _ | 3, _ | 4, _ | 5, _ => simp at hx; subst hx; rfl
  | n + 6, h => omega
theorem lay_texts {wD : World} {O : Nat → Prop} {ls : List ByteArray} {gD cD : Nat} (h : wD.ownsRow 0 9 1 (.slice (some ⟨gD, 0, none⟩) ls.length cD) ls.length (ls.map Value.string)) (hO : ¬ O gD) : Texts wD O (some ⟨gD, 0, none⟩) ls := by
  intro i x hx
  obtain ⟨a, cap, hv, _, hc⟩ := row_form h
  obtain ⟨g', e, _, h4, _⟩ := hc i (.string x) (by simp [hx])
  injection hv with e1
  rw [e] at e1
  injection e1 with e2
  injection e2 with e3
  subst e3
  exact ⟨gD, 0, rfl, World.block_lt_of_cell? wD _ h4, hO, by rw [Nat.zero_add]; exact h4⟩
set_option maxRecDepth 100000 in
set_option maxHeartbeats 8000000 in
theorem dk_law (a1 a2 : Option Addr) (c1 c2 : Nat) (l : List OpD) (ls : List ByteArray) (w : World) (h1 : OpsAt w a1 l) (h2 : Texts w (fun _ => False) a2 ls)
    (l1 : l.length ≤ maxLen) (l2 : ls.length ≤ maxLen) (s2 : ∀ s ∈ ls, s.size ≤ maxLen) (hn2 : a2 = none → c2 = 0) (hE : EB w) :
    Calls Tryd.prog 6 #[.slice a1 l.length c1, .slice a2 ls.length c2] w fun e w' => e = .returned (.bool true) ∧ Below w.heap.size w w' := by
  have l1' := l1
  have l2' := l2
  unfold maxLen at l1' l2'
  go_enter Tryd.func6, Tryd.ntmps6
  by_cases z0 : 40 < l.length
  · have z0' : (40 : Int) < (l.length : Int) := by omega
    go_wp2_with fail
    go_ret
    exact ⟨rfl, Below.refl _ _⟩
  have z0' : decide ((40 : Int) < (l.length : Int)) = false := by simp; omega
  by_cases z1 : 80 < ls.length
  · have z1' : (80 : Int) < (ls.length : Int) := by omega
    go_wp2_with fail
    go_ret
    exact ⟨rfl, Below.refl _ _⟩
  have z1' : decide ((80 : Int) < (ls.length : Int)) = false := by simp; omega
  go_wp2_with fail
  clear z0' z1'
  go_loopw [5] (fun i wr => ∃ k : Nat, k ≤ ls.length ∧ i = .int .i64 k ∧ wr = w ∧ ∀ j s, j < k → ls[j]? = some s → s.size ≤ 300) (fun i _ => ls.length - (intOf i).toNat)
  case atStart => exact ⟨0, by omega, rfl, rfl, fun j s h => absurd h (Nat.not_lt_zero _)⟩
  case round =>
    obtain ⟨k, hk, rfl, hw', hsm⟩ := hrel
    subst hw'
    by_cases hlt : k < ls.length
    · obtain ⟨g, o, rfl, hg, _, hc⟩ := h2 k ls[k] (List.getElem?_eq_getElem hlt)
      have hlt' : (k : Int) < (ls.length : Int) := by omega
      have hk0 : (0 : Int) ≤ (k : Int) := by omega
      have hsz := s2 _ (List.getElem_mem hlt)
      have hkk : Hid (ls[k]? = some ls[k]) := List.getElem?_eq_getElem hlt
      generalize ls[k] = x at *
      unfold maxLen at hsz
      by_cases hx : 300 < x.size
      · have hx' : (300 : Int) < (x.size : Int) := by omega
        go_wp2_with fail
        go_ret
        exact ⟨rfl, Below.refl _ _⟩
      · have hx' : decide ((300 : Int) < (x.size : Int)) = false := by simp; omega
        go_wp2_with fail
        go_light
        refine ⟨⟨k + 1, by omega, by go_num, by trivial, fun j s hj hs => ?_⟩, by simp [intOf]; omega⟩
        by_cases hjk : j < k
        · exact hsm j s hjk hs
        · obtain rfl : j = k := by omega
          rw [hkk.out] at hs
          injection hs with hs
          subst hs
          omega
    · have hk' : k = ls.length := by omega
      subst hk'
      have hsm' : ∀ s ∈ ls, s.size ≤ 1000 := fun s hs => by
        obtain ⟨j, hj, rfl⟩ := List.mem_iff_getElem.1 hs
        exact Nat.le_trans (hsm j _ hj (List.getElem?_eq_getElem hj)) (by decide)
      clear hsm s2
      go_wp2_with fail
      refine (rnew_any _).mono ?_
      rintro e w1 ⟨rfl, ⟨av, hR1⟩, b1⟩
      go_wp2_with fail
      refine (dnew_any _).mono ?_
      rintro e w2 ⟨rfl, hD2, b2, z2'⟩
      have z2 : Hid (w2.heap.size = w1.heap.size + 1) := z2'
      clear z2'
      obtain ⟨b, hb⟩ : ∃ b, Hid (b = w1.heap.size) := ⟨_, rfl⟩
      obtain ⟨r, hr⟩ : ∃ r, Hid (r = wr.heap.size) := ⟨_, rfl⟩
      obtain ⟨C, hC⟩ : ∃ C, Hid (C = w2.heap.size) := ⟨_, rfl⟩
      have gm := (Below.refl w2.heap.size w2).alloc (Nat.le_refl _) (.cells #[.int .i64 0] 44)
      have kp0 : ∃ O P, Kp wr (w2.alloc (.cells #[.int .i64 0] 44)) O P b r C [] (fun _ _ => 0) [] (-1) (fun _ _ => 0) [] (-1) 0 := by
        have ez := z2.out
        have eb := hb.out
        have er := hr.out
        have eC := hC.out
        have zz := b1.size
        subst eb er eC
        refine ⟨_, _, ⟨_, _, hD2.below gm⟩, ⟨_, _, _, (hR1.below b2).below gm⟩, Blk.new _ _ _, ⟨fun e => ?_, fun e => ?_⟩, (b1.trans (b2.mono b1.size)).trans (gm.mono (by omega)), fun k hk => ?_, fun k hk => ?_, by omega, fun k hk hp => ?_, fun x hx => by cases hx⟩
        · have e' : w2.heap.size = w1.heap.size := e
          omega
        · have := e.2
          omega
        · rw [show k = w1.heap.size from hk, World.size_alloc]; omega
        · rw [World.size_alloc]; have := hk.1; have := hk.2; omega
        · have e' : k = w1.heap.size := hk
          have := hp.2
          omega
      obtain ⟨O0, P0, kp0⟩ := kp0
      rw [← hb.out, ← hr.out]
      obtain ⟨w3, hw3⟩ : ∃ w3, w2.alloc (.cells #[.int .i64 0] 44) = w3 := ⟨_, rfl⟩
      go_wp2_with fail
      rw [hw3] at kp0
      rw [← hC.out]
      clear hw3 gm hD2 b2 hR1 b1 hb hr hC z2
      go_loopw [9, 10] (fun m i w' => ∃ (k : Nat) (N : Int) (O P : Nat → Prop) (S : Nat → Nat → UInt8) (W : List (Nat × (Nat → UInt8))) (F : Int), k ≤ l.length ∧ i = .int .i64 k ∧ m = .int .i64 N ∧ Kp wr w' O P b r C [] S W F S W F N ∧ W.length ≤ k) (fun _ i _ => l.length - (intOf i).toNat)
      case atStart => exact ⟨0, 0, _, _, _, _, _, by omega, rfl, rfl, kp0, Nat.le_refl _⟩
      case round =>
        rename World => w'
        clear kp0
        obtain ⟨k, N, O, P, S, W, F, hk, rfl, rfl, kp, hWl⟩ := hrel
        by_cases hlt : k < l.length
        · obtain ⟨g, o, rfl, hx⟩ := h1 k l[k] (List.getElem?_eq_getElem hlt)
          generalize l[k] = x at *
          have hlt' : (k : Int) < (l.length : Int) := by omega
          have hk0 : (0 : Int) ≤ (k : Int) := by omega
          have q0 := (kp.low.cell (p := ⟨g, o + k * 4, none⟩) hx.lt).trans hx.c0
          have q1 := (kp.low.cell (p := ⟨g, o + k * 4 + 1, none⟩) hx.lt).trans hx.c1
          have q2 := (kp.low.cell (p := ⟨g, o + k * 4 + 2, none⟩) hx.lt).trans hx.c2
          have q3 := (kp.low.cell (p := ⟨g, o + k * 4 + 3, none⟩) hx.lt).trans hx.c3
          obtain ⟨wh, at', s, ka, ks, kc⟩ := x
          have hat := hx.atT
          have hsl := hx.sl
          have hkl := hx.kl
          have hkb := hx.keeps
          dsimp only at q0 q1 q2 q3 hat hsl hkl hkb
          clear hx
          unfold maxLen at hsl hkl
          by_cases y1 : 300 < s.size
          · have y1' : (300 : Int) < (s.size : Int) := by omega
            have kx := kp.more #[.int .i64 wh, .int .i64 at', .string s, .slice ka ks.length kc]
            go_wp2_with fail
            go_ret
            exact ⟨rfl, kx.low⟩
          have y1' : decide ((300 : Int) < (s.size : Int)) = false := by simp; omega
          by_cases y2 : 40 < ks.length
          · have y2' : (40 : Int) < (ks.length : Int) := by omega
            have kx := kp.more #[.int .i64 wh, .int .i64 at', .string s, .slice ka ks.length kc]
            go_wp2_with fail
            go_ret
            exact ⟨rfl, kx.low⟩
          have y2' : decide ((40 : Int) < (ks.length : Int)) = false := by simp; omega
          have kx0 := kp.more #[.int .i64 wh, .int .i64 at', .string s, .slice ka ks.length kc]
          obtain ⟨Bx, hBx⟩ : ∃ Bx, Hid (Bx = w'.heap.size) := ⟨_, rfl⟩
          obtain ⟨wX, hwX⟩ : ∃ wX, Hid (w'.alloc (.cells #[.int .i64 wh, .int .i64 at', .string s, .slice ka ks.length kc] 56) = wX) := ⟨_, rfl⟩
          rw [hwX.out, ← hBx.out] at kx0
          clear kp
          obtain ⟨arr, harr⟩ : ∃ arr : Array Value, Hid (#[.int .i64 wh, .int .i64 at', .string s, .slice ka ks.length kc] = arr) := ⟨_, rfl⟩
          have hc1 : Hid (arr[1]? = some (.int .i64 at')) := by rw [← harr.out]; exact rfl
          have hc2 : Hid (arr[2]? = some (.string s)) := by rw [← harr.out]; exact rfl
          have hc3 : Hid (arr[3]? = some (.slice ka ks.length kc)) := by rw [← harr.out]; exact rfl
          rw [harr.out] at kx0 hwX
          by_cases e2 : wh = 2
          · subst e2
            go_wp2_with fail
            rw [harr.out, hwX.out, ← hBx.out]
            refine (kdfuse kx0 at' hat).mono ?_
            rintro e wA ⟨rfl, kA⟩
            have cA := kx_at kA hc1
            go_wp2_with fail
            refine (krfuse kA at' hat).mono ?_
            rintro e wT ⟨rfl, kpT⟩
            have hWT : W.length ≤ k + 1 := by omega
            clear cA
            go_wp2_with fail
            refine (get_any C _ _ kpT.cnt).mono ?_
            intro e wx hh
            rw [hh.1, hh.2]
            clear hh
            go_wp2_with fail
            refine (kdimage kpT).mono ?_
            rintro e wI ⟨⟨G1, rfl, hT1⟩, gI⟩
            have kI := kpT.below gI
            clear kpT gI
            go_wp2_with fail
            refine (krimage kI).mono ?_
            rintro e wJ ⟨⟨G2, cp2, rfl, hT2⟩, gJ⟩
            have kJ := kI.below gJ
            have hT1' := hT1.below gJ
            clear kI gJ hT1
            go_wp2_with fail
            refine (same66 G1 G2 66 cp2 _ _ hT1' hT2).mono ?_
            rintro e wK ⟨rfl, gK⟩
            have kK := kJ.below gK
            clear kJ gK hT1' hT2
            have cK := kx_at kK hc1
            go_wp2_with fail
            have iL := sixInts wK at'
            have kL := kK.below ((Below.refl wK.heap.size wK).alloc (Nat.le_refl _) (.cells #[.int .i64 at', .int .i64 0, .int .i64 1, .int .i64 65, .int .i64 66, .int .i64 (-1)] 3))
            obtain ⟨Bi, hBi⟩ : ∃ Bi, Hid (Bi = wK.heap.size) := ⟨_, rfl⟩
            obtain ⟨wL, hwL⟩ : ∃ wL, Hid (wK.alloc (.cells #[.int .i64 at', .int .i64 0, .int .i64 1, .int .i64 65, .int .i64 66, .int .i64 (-1)] 3) = wL) := ⟨_, rfl⟩
            rw [hwL.out, ← hBi.out] at iL
            rw [hwL.out] at kL
            rw [hwL.out, ← hBi.out]
            clear kK cK hBi hwL
            go_loopw [146] (fun i wq => ∃ j : Nat, j ≤ 6 ∧ i = .int .i64 j ∧ Kp wr wq O P b r C [(Bx, arr)] S W (fuseTo at') S W (fuseTo at') N ∧ Ints wq (some ⟨Bi, 0, none⟩) [at', 0, 1, 65, 66, -1]) (fun i _ => 6 - (intOf i).toNat)
            case atStart => exact ⟨0, by omega, rfl, kL, iL⟩
            case round =>
              rename World => wq
              clear kL iL
              obtain ⟨j, hj, rfl, kq, iq⟩ := hrel
              by_cases hjl : j < 6
              · obtain ⟨z, hz⟩ : ∃ z, ([at', 0, 1, 65, 66, -1] : List Int)[j]? = some z := ⟨_, List.getElem?_eq_getElem hjl⟩
                obtain ⟨gi, oi, ei, _, ci⟩ := iq j z hz
                injection ei with ei
                injection ei with eg eo _
                rw [← eg, ← eo, Nat.zero_add] at ci
                clear eg eo hz
                have hj' : (j : Int) < 6 := by omega
                have hj0 : (0 : Int) ≤ (j : Int) := by omega
                go_wp2_with fail
                refine (krread kq z (by omega)).mono ?_
                intro e wx hh
                rw [hh.1, hh.2]
                clear hh
                go_wp2_with fail
                refine (kdread kq z (by omega)).mono ?_
                rintro e wR ⟨rfl, gR⟩
                have kR := kq.below gR
                have iR := iq.below gR
                clear kq iq gR ci
                generalize rText _ _ z = T
                go_wp2_with fail
                refine (bare_any _ (rCode z) (hE.below kR.low)).mono ?_
                rintro e wS ⟨rfl, gS⟩
                have kS := kR.below gS
                have iS := iR.below gS
                clear kR iR gS
                go_wp2_with fail
                go_light
                exact ⟨⟨j + 1, by omega, by go_num, kS, iS⟩, by simp [intOf]; omega⟩
              · go_wp2_with fail
                go_light
                exact ⟨⟨k + 1, _, _, _, _, _, _, by omega, by go_num, rfl, kq.less, hWT⟩, by simp [intOf]; omega⟩
          by_cases e3 : wh = 3
          · subst e3
            go_wp2_with fail
            rw [harr.out, hwX.out, ← hBx.out]
            refine (kdcrash kx0 ka kc ks (by omega) hkb).mono ?_
            rintro e wA ⟨rfl, kA⟩
            have cA := kx_at kA hc3
            go_wp2_with fail
            refine (krcrash kA (by omega) ka kc ks (by omega) hkb).mono ?_
            rintro e wT ⟨rfl, kpT⟩
            have hWT : ([] : List (Nat × (Nat → UInt8))).length ≤ k + 1 := by simp
            clear cA
            go_wp2_with fail
            refine (get_any C _ _ kpT.cnt).mono ?_
            intro e wx hh
            rw [hh.1, hh.2]
            clear hh
            go_wp2_with fail
            refine (kdimage kpT).mono ?_
            rintro e wI ⟨⟨G1, rfl, hT1⟩, gI⟩
            have kI := kpT.below gI
            clear kpT gI
            go_wp2_with fail
            refine (krimage kI).mono ?_
            rintro e wJ ⟨⟨G2, cp2, rfl, hT2⟩, gJ⟩
            have kJ := kI.below gJ
            have hT1' := hT1.below gJ
            clear kI gJ hT1
            go_wp2_with fail
            refine (same66 G1 G2 66 cp2 _ _ hT1' hT2).mono ?_
            rintro e wK ⟨rfl, gK⟩
            have kK := kJ.below gK
            clear kJ gK hT1' hT2
            have cK := kx_at kK hc1
            go_wp2_with fail
            have iL := sixInts wK at'
            have kL := kK.below ((Below.refl wK.heap.size wK).alloc (Nat.le_refl _) (.cells #[.int .i64 at', .int .i64 0, .int .i64 1, .int .i64 65, .int .i64 66, .int .i64 (-1)] 3))
            obtain ⟨Bi, hBi⟩ : ∃ Bi, Hid (Bi = wK.heap.size) := ⟨_, rfl⟩
            obtain ⟨wL, hwL⟩ : ∃ wL, Hid (wK.alloc (.cells #[.int .i64 at', .int .i64 0, .int .i64 1, .int .i64 65, .int .i64 66, .int .i64 (-1)] 3) = wL) := ⟨_, rfl⟩
            rw [hwL.out, ← hBi.out] at iL
            rw [hwL.out] at kL
            rw [hwL.out, ← hBi.out]
            clear kK cK hBi hwL
            go_loopw [146] (fun i wq => ∃ j : Nat, j ≤ 6 ∧ i = .int .i64 j ∧ Kp wr wq O P b r C [(Bx, arr)] (lS S W ks) ([] : List (Nat × (Nat → UInt8))) (-1) (lS S W ks) ([] : List (Nat × (Nat → UInt8))) (-1) N ∧ Ints wq (some ⟨Bi, 0, none⟩) [at', 0, 1, 65, 66, -1]) (fun i _ => 6 - (intOf i).toNat)
            case atStart => exact ⟨0, by omega, rfl, kL, iL⟩
            case round =>
              rename World => wq
              clear kL iL
              obtain ⟨j, hj, rfl, kq, iq⟩ := hrel
              by_cases hjl : j < 6
              · obtain ⟨z, hz⟩ : ∃ z, ([at', 0, 1, 65, 66, -1] : List Int)[j]? = some z := ⟨_, List.getElem?_eq_getElem hjl⟩
                obtain ⟨gi, oi, ei, _, ci⟩ := iq j z hz
                injection ei with ei
                injection ei with eg eo _
                rw [← eg, ← eo, Nat.zero_add] at ci
                clear eg eo hz
                have hj' : (j : Int) < 6 := by omega
                have hj0 : (0 : Int) ≤ (j : Int) := by omega
                go_wp2_with fail
                refine (krread kq z (by omega)).mono ?_
                intro e wx hh
                rw [hh.1, hh.2]
                clear hh
                go_wp2_with fail
                refine (kdread kq z (by omega)).mono ?_
                rintro e wR ⟨rfl, gR⟩
                have kR := kq.below gR
                have iR := iq.below gR
                clear kq iq gR ci
                generalize rText _ _ z = T
                go_wp2_with fail
                refine (bare_any _ (rCode z) (hE.below kR.low)).mono ?_
                rintro e wS ⟨rfl, gS⟩
                have kS := kR.below gS
                have iS := iR.below gS
                clear kR iR gS
                go_wp2_with fail
                go_light
                exact ⟨⟨j + 1, by omega, by go_num, kS, iS⟩, by simp [intOf]; omega⟩
              · go_wp2_with fail
                go_light
                exact ⟨⟨k + 1, _, _, _, _, _, _, by omega, by go_num, rfl, kq.less, hWT⟩, by simp [intOf]; omega⟩
          by_cases e1 : wh = 1
          · subst e1
            go_wp2_with fail
            rw [harr.out, hwX.out, ← hBx.out]
            refine (kdsync kx0).mono ?_
            rintro e wA ⟨rfl, kA⟩
            go_wp2_with fail
            refine (krsync kA (by omega)).mono ?_
            rintro e wB ⟨rfl, kB⟩
            go_wp2_with fail
            refine (bare_any _ (sCode F) (hE.below kB.low)).mono ?_
            rintro e wT ⟨rfl, gT⟩
            have kpT := kB.below gT
            have hWT : (sW F W).length ≤ k + 1 := by have := sW_len F W; omega
            go_wp2_with fail
            refine (get_any C _ _ kpT.cnt).mono ?_
            intro e wx hh
            rw [hh.1, hh.2]
            clear hh
            go_wp2_with fail
            refine (kdimage kpT).mono ?_
            rintro e wI ⟨⟨G1, rfl, hT1⟩, gI⟩
            have kI := kpT.below gI
            clear kpT gI
            go_wp2_with fail
            refine (krimage kI).mono ?_
            rintro e wJ ⟨⟨G2, cp2, rfl, hT2⟩, gJ⟩
            have kJ := kI.below gJ
            have hT1' := hT1.below gJ
            clear kI gJ hT1
            go_wp2_with fail
            refine (same66 G1 G2 66 cp2 _ _ hT1' hT2).mono ?_
            rintro e wK ⟨rfl, gK⟩
            have kK := kJ.below gK
            clear kJ gK hT1' hT2
            have cK := kx_at kK hc1
            go_wp2_with fail
            have iL := sixInts wK at'
            have kL := kK.below ((Below.refl wK.heap.size wK).alloc (Nat.le_refl _) (.cells #[.int .i64 at', .int .i64 0, .int .i64 1, .int .i64 65, .int .i64 66, .int .i64 (-1)] 3))
            obtain ⟨Bi, hBi⟩ : ∃ Bi, Hid (Bi = wK.heap.size) := ⟨_, rfl⟩
            obtain ⟨wL, hwL⟩ : ∃ wL, Hid (wK.alloc (.cells #[.int .i64 at', .int .i64 0, .int .i64 1, .int .i64 65, .int .i64 66, .int .i64 (-1)] 3) = wL) := ⟨_, rfl⟩
            rw [hwL.out, ← hBi.out] at iL
            rw [hwL.out] at kL
            rw [hwL.out, ← hBi.out]
            clear kK cK hBi hwL
            go_loopw [146] (fun i wq => ∃ j : Nat, j ≤ 6 ∧ i = .int .i64 j ∧ Kp wr wq O P b r C [(Bx, arr)] (sS F S W) (sW F W) (sF F) (sS F S W) (sW F W) (sF F) N ∧ Ints wq (some ⟨Bi, 0, none⟩) [at', 0, 1, 65, 66, -1]) (fun i _ => 6 - (intOf i).toNat)
            case atStart => exact ⟨0, by omega, rfl, kL, iL⟩
            case round =>
              rename World => wq
              clear kL iL
              obtain ⟨j, hj, rfl, kq, iq⟩ := hrel
              by_cases hjl : j < 6
              · obtain ⟨z, hz⟩ : ∃ z, ([at', 0, 1, 65, 66, -1] : List Int)[j]? = some z := ⟨_, List.getElem?_eq_getElem hjl⟩
                obtain ⟨gi, oi, ei, _, ci⟩ := iq j z hz
                injection ei with ei
                injection ei with eg eo _
                rw [← eg, ← eo, Nat.zero_add] at ci
                clear eg eo hz
                have hj' : (j : Int) < 6 := by omega
                have hj0 : (0 : Int) ≤ (j : Int) := by omega
                go_wp2_with fail
                refine (krread kq z (by omega)).mono ?_
                intro e wx hh
                rw [hh.1, hh.2]
                clear hh
                go_wp2_with fail
                refine (kdread kq z (by omega)).mono ?_
                rintro e wR ⟨rfl, gR⟩
                have kR := kq.below gR
                have iR := iq.below gR
                clear kq iq gR ci
                generalize rText _ _ z = T
                go_wp2_with fail
                refine (bare_any _ (rCode z) (hE.below kR.low)).mono ?_
                rintro e wS ⟨rfl, gS⟩
                have kS := kR.below gS
                have iS := iR.below gS
                clear kR iR gS
                go_wp2_with fail
                go_light
                exact ⟨⟨j + 1, by omega, by go_num, kS, iS⟩, by simp [intOf]; omega⟩
              · go_wp2_with fail
                go_light
                exact ⟨⟨k + 1, _, _, _, _, _, _, by omega, by go_num, rfl, kq.less, hWT⟩, by simp [intOf]; omega⟩
          by_cases e5 : wh = 5
          · subst e5
            by_cases hm : N < at'
            · have hm' : decide (N < at') = true := by simp [hm]
              have ec : Hid (cCode at' N = 0) := by unfold Hid cCode; rw [if_pos hm]
              have en : Hid (cN at' N = at') := by unfold Hid cN; rw [if_pos hm]
              go_wp2_with fail
              rw [harr.out, hwX.out, ← hBx.out]
              have cX := kx_at kx0 hc1
              go_quiet (fail)
              go_wp2_with fail
              refine (kraise (kx0.drewN nq) at').mono ?_
              rintro e wA ⟨rfl, kA⟩
              rw [ec.out]
              rw [en.out] at kA
              clear cX
              go_wp2_with fail
              refine (bare_any _ 0 (hE.below kA.low)).mono ?_
              rintro e wT ⟨rfl, gT⟩
              have kpT := kA.below gT
              have hWT : W.length ≤ k + 1 := by omega
              go_wp2_with fail
              refine (get_any C _ _ kpT.cnt).mono ?_
              intro e wx hh
              rw [hh.1, hh.2]
              clear hh
              go_wp2_with fail
              refine (kdimage kpT).mono ?_
              rintro e wI ⟨⟨G1, rfl, hT1⟩, gI⟩
              have kI := kpT.below gI
              clear kpT gI
              go_wp2_with fail
              refine (krimage kI).mono ?_
              rintro e wJ ⟨⟨G2, cp2, rfl, hT2⟩, gJ⟩
              have kJ := kI.below gJ
              have hT1' := hT1.below gJ
              clear kI gJ hT1
              go_wp2_with fail
              refine (same66 G1 G2 66 cp2 _ _ hT1' hT2).mono ?_
              rintro e wK ⟨rfl, gK⟩
              have kK := kJ.below gK
              clear kJ gK hT1' hT2
              have cK := kx_at kK hc1
              go_wp2_with fail
              have iL := sixInts wK at'
              have kL := kK.below ((Below.refl wK.heap.size wK).alloc (Nat.le_refl _) (.cells #[.int .i64 at', .int .i64 0, .int .i64 1, .int .i64 65, .int .i64 66, .int .i64 (-1)] 3))
              obtain ⟨Bi, hBi⟩ : ∃ Bi, Hid (Bi = wK.heap.size) := ⟨_, rfl⟩
              obtain ⟨wL, hwL⟩ : ∃ wL, Hid (wK.alloc (.cells #[.int .i64 at', .int .i64 0, .int .i64 1, .int .i64 65, .int .i64 66, .int .i64 (-1)] 3) = wL) := ⟨_, rfl⟩
              rw [hwL.out, ← hBi.out] at iL
              rw [hwL.out] at kL
              rw [hwL.out, ← hBi.out]
              clear kK cK hBi hwL
              go_loopw [146] (fun i wq => ∃ j : Nat, j ≤ 6 ∧ i = .int .i64 j ∧ Kp wr wq O P b r C [(Bx, arr)] S W F S W F at' ∧ Ints wq (some ⟨Bi, 0, none⟩) [at', 0, 1, 65, 66, -1]) (fun i _ => 6 - (intOf i).toNat)
              case atStart => exact ⟨0, by omega, rfl, kL, iL⟩
              case round =>
                rename World => wq
                clear kL iL
                obtain ⟨j, hj, rfl, kq, iq⟩ := hrel
                by_cases hjl : j < 6
                · obtain ⟨z, hz⟩ : ∃ z, ([at', 0, 1, 65, 66, -1] : List Int)[j]? = some z := ⟨_, List.getElem?_eq_getElem hjl⟩
                  obtain ⟨gi, oi, ei, _, ci⟩ := iq j z hz
                  injection ei with ei
                  injection ei with eg eo _
                  rw [← eg, ← eo, Nat.zero_add] at ci
                  clear eg eo hz
                  have hj' : (j : Int) < 6 := by omega
                  have hj0 : (0 : Int) ≤ (j : Int) := by omega
                  go_wp2_with fail
                  refine (krread kq z (by omega)).mono ?_
                  intro e wx hh
                  rw [hh.1, hh.2]
                  clear hh
                  go_wp2_with fail
                  refine (kdread kq z (by omega)).mono ?_
                  rintro e wR ⟨rfl, gR⟩
                  have kR := kq.below gR
                  have iR := iq.below gR
                  clear kq iq gR ci
                  generalize rText _ _ z = T
                  go_wp2_with fail
                  refine (bare_any _ (rCode z) (hE.below kR.low)).mono ?_
                  rintro e wS ⟨rfl, gS⟩
                  have kS := kR.below gS
                  have iS := iR.below gS
                  clear kR iR gS
                  go_wp2_with fail
                  go_light
                  exact ⟨⟨j + 1, by omega, by go_num, kS, iS⟩, by simp [intOf]; omega⟩
                · go_wp2_with fail
                  go_light
                  exact ⟨⟨k + 1, _, _, _, _, _, _, by omega, by go_num, rfl, kq.less, hWT⟩, by simp [intOf]; omega⟩
            · have hm' : decide (N < at') = false := by simp; omega
              have ec : Hid (cCode at' N = 10) := by unfold Hid cCode; rw [if_neg hm]
              have en : Hid (cN at' N = N) := by unfold Hid cN; rw [if_neg hm]
              go_wp2_with fail
              rw [harr.out, hwX.out, ← hBx.out]
              refine (kraise kx0 at').mono ?_
              rintro e wA ⟨rfl, kA⟩
              rw [ec.out]
              rw [en.out] at kA
              go_wp2_with fail
              refine (bare_any _ 10 (hE.below kA.low)).mono ?_
              rintro e wT ⟨rfl, gT⟩
              have kpT := kA.below gT
              have hWT : W.length ≤ k + 1 := by omega
              go_wp2_with fail
              refine (get_any C _ _ kpT.cnt).mono ?_
              intro e wx hh
              rw [hh.1, hh.2]
              clear hh
              go_wp2_with fail
              refine (kdimage kpT).mono ?_
              rintro e wI ⟨⟨G1, rfl, hT1⟩, gI⟩
              have kI := kpT.below gI
              clear kpT gI
              go_wp2_with fail
              refine (krimage kI).mono ?_
              rintro e wJ ⟨⟨G2, cp2, rfl, hT2⟩, gJ⟩
              have kJ := kI.below gJ
              have hT1' := hT1.below gJ
              clear kI gJ hT1
              go_wp2_with fail
              refine (same66 G1 G2 66 cp2 _ _ hT1' hT2).mono ?_
              rintro e wK ⟨rfl, gK⟩
              have kK := kJ.below gK
              clear kJ gK hT1' hT2
              have cK := kx_at kK hc1
              go_wp2_with fail
              have iL := sixInts wK at'
              have kL := kK.below ((Below.refl wK.heap.size wK).alloc (Nat.le_refl _) (.cells #[.int .i64 at', .int .i64 0, .int .i64 1, .int .i64 65, .int .i64 66, .int .i64 (-1)] 3))
              obtain ⟨Bi, hBi⟩ : ∃ Bi, Hid (Bi = wK.heap.size) := ⟨_, rfl⟩
              obtain ⟨wL, hwL⟩ : ∃ wL, Hid (wK.alloc (.cells #[.int .i64 at', .int .i64 0, .int .i64 1, .int .i64 65, .int .i64 66, .int .i64 (-1)] 3) = wL) := ⟨_, rfl⟩
              rw [hwL.out, ← hBi.out] at iL
              rw [hwL.out] at kL
              rw [hwL.out, ← hBi.out]
              clear kK cK hBi hwL
              go_loopw [146] (fun i wq => ∃ j : Nat, j ≤ 6 ∧ i = .int .i64 j ∧ Kp wr wq O P b r C [(Bx, arr)] S W F S W F N ∧ Ints wq (some ⟨Bi, 0, none⟩) [at', 0, 1, 65, 66, -1]) (fun i _ => 6 - (intOf i).toNat)
              case atStart => exact ⟨0, by omega, rfl, kL, iL⟩
              case round =>
                rename World => wq
                clear kL iL
                obtain ⟨j, hj, rfl, kq, iq⟩ := hrel
                by_cases hjl : j < 6
                · obtain ⟨z, hz⟩ : ∃ z, ([at', 0, 1, 65, 66, -1] : List Int)[j]? = some z := ⟨_, List.getElem?_eq_getElem hjl⟩
                  obtain ⟨gi, oi, ei, _, ci⟩ := iq j z hz
                  injection ei with ei
                  injection ei with eg eo _
                  rw [← eg, ← eo, Nat.zero_add] at ci
                  clear eg eo hz
                  have hj' : (j : Int) < 6 := by omega
                  have hj0 : (0 : Int) ≤ (j : Int) := by omega
                  go_wp2_with fail
                  refine (krread kq z (by omega)).mono ?_
                  intro e wx hh
                  rw [hh.1, hh.2]
                  clear hh
                  go_wp2_with fail
                  refine (kdread kq z (by omega)).mono ?_
                  rintro e wR ⟨rfl, gR⟩
                  have kR := kq.below gR
                  have iR := iq.below gR
                  clear kq iq gR ci
                  generalize rText _ _ z = T
                  go_wp2_with fail
                  refine (bare_any _ (rCode z) (hE.below kR.low)).mono ?_
                  rintro e wS ⟨rfl, gS⟩
                  have kS := kR.below gS
                  have iS := iR.below gS
                  clear kR iR gS
                  go_wp2_with fail
                  go_light
                  exact ⟨⟨j + 1, by omega, by go_num, kS, iS⟩, by simp [intOf]; omega⟩
                · go_wp2_with fail
                  go_light
                  exact ⟨⟨k + 1, _, _, _, _, _, _, by omega, by go_num, rfl, kq.less, hWT⟩, by simp [intOf]; omega⟩
          by_cases e0 : wh = 0
          · subst e0
            go_wp2_with fail
            rw [harr.out, hwX.out, ← hBx.out]
            have kx1 := kx0.drewN 1
            refine region_s [(0, true), (1, true), (2, false), (3, true), (4, false), (6, true), (7, true), (8, false), (9, true), (10, false)] [5, 11] [12, 13] (fun w' => Blk w' Bx arr 56) mixed (by kernel_rfl) (fun _ _ _ _ _ h => h) kx1.x ?_
            refine lead_pure _ rfl _ rfl rfl _ (fun w' => by go_simp; rfl) ?_
            refine lead_pure _ rfl _ rfl rfl _ (fun w' => by go_simp; rfl) ?_
            refine lead_read _ rfl _ rfl rfl (.int .i64 at') (fun w' hS => by have c : w'.cell? ⟨Bx, 1, none⟩ = some (.int .i64 at') := by { rw [hS.cell]; exact hc1.out }; go_simp) ?_
            refine lead_pure _ rfl _ rfl rfl _ (fun w' => by go_simp; rfl) ?_
            refine lead_read _ rfl _ rfl rfl (.string s) (fun w' hS => by have c : w'.cell? ⟨Bx, 2, none⟩ = some (.string s) := by { rw [hS.cell]; exact hc2.out }; go_simp) ?_
            refine lead_pure _ rfl _ rfl rfl _ (fun w' => by go_simp; rfl) ?_
            refine lead_pure _ rfl _ rfl rfl _ (fun w' => by go_simp; rfl) ?_
            refine lead_read _ rfl _ rfl rfl (.int .i64 at') (fun w' hS => by have c : w'.cell? ⟨Bx, 1, none⟩ = some (.int .i64 at') := by { rw [hS.cell]; exact hc1.out }; go_simp) ?_
            refine lead_pure _ rfl _ rfl rfl _ (fun w' => by go_simp; rfl) ?_
            refine lead_read _ rfl _ rfl rfl (.string s) (fun w' hS => by have c : w'.cell? ⟨Bx, 2, none⟩ = some (.string s) := by { rw [hS.cell]; exact hc2.out }; go_simp) ?_
            simp only [lead_nil_eq]
            simp only [Act.put, List.setIfInBounds_toArray, List.set_cons_succ, List.set_cons_zero]
            refine mid_cons _ rfl rfl fun K hK => ?_
            go_wp2_with (go_at_call 31; refine (kdwrite kx1 at' s (by omega)).mono ?_; rintro e wA ⟨rfl, Q1, kA⟩)
            refine hK _ _ kA.x ?_
            clear hK K
            refine mid_cons _ rfl rfl fun K hK => ?_
            go_wp2_with (go_at_call 32; refine (krwrite kA at' s (by omega)).mono ?_; rintro e wB ⟨rfl, Q2, kB⟩)
            refine hK _ _ kB.x ?_
            clear hK K
            simp only [mid_nil_eq]
            simp only [List.filterMap_cons, List.getElem?_toArray, List.getElem?_cons_succ, List.getElem?_cons_zero, List.filterMap_nil]
            go_wp2_with (go_at_call 22; refine (bare_any _ (wCode at' s F) (hE.below kB.low)).mono ?_; rintro e wT ⟨rfl, gT⟩; have kpT := kB.below gT)
            have hWT : (wW at' s F W).length ≤ k + 1 := by have := wW_len at' s F W; omega
            refine (get_any C _ _ kpT.cnt).mono ?_
            intro e wx hh
            rw [hh.1, hh.2]
            clear hh
            go_wp2_with fail
            refine (kdimage kpT).mono ?_
            rintro e wI ⟨⟨G1, rfl, hT1⟩, gI⟩
            have kI := kpT.below gI
            clear kpT gI
            go_wp2_with fail
            refine (krimage kI).mono ?_
            rintro e wJ ⟨⟨G2, cp2, rfl, hT2⟩, gJ⟩
            have kJ := kI.below gJ
            have hT1' := hT1.below gJ
            clear kI gJ hT1
            go_wp2_with fail
            refine (same66 G1 G2 66 cp2 _ _ hT1' hT2).mono ?_
            rintro e wK ⟨rfl, gK⟩
            have kK := kJ.below gK
            clear kJ gK hT1' hT2
            have cK := kx_at kK hc1
            go_wp2_with fail
            have iL := sixInts wK at'
            have kL := kK.below ((Below.refl wK.heap.size wK).alloc (Nat.le_refl _) (.cells #[.int .i64 at', .int .i64 0, .int .i64 1, .int .i64 65, .int .i64 66, .int .i64 (-1)] 3))
            obtain ⟨Bi, hBi⟩ : ∃ Bi, Hid (Bi = wK.heap.size) := ⟨_, rfl⟩
            obtain ⟨wL, hwL⟩ : ∃ wL, Hid (wK.alloc (.cells #[.int .i64 at', .int .i64 0, .int .i64 1, .int .i64 65, .int .i64 66, .int .i64 (-1)] 3) = wL) := ⟨_, rfl⟩
            rw [hwL.out, ← hBi.out] at iL
            rw [hwL.out] at kL
            rw [hwL.out, ← hBi.out]
            clear kK cK hBi hwL
            go_loopw [146] (fun i wq => ∃ j : Nat, j ≤ 6 ∧ i = .int .i64 j ∧ Kp wr wq Q1 Q2 b r C [(Bx, arr)] S (wW at' s F W) (wF at' s F) S (wW at' s F W) (wF at' s F) N ∧ Ints wq (some ⟨Bi, 0, none⟩) [at', 0, 1, 65, 66, -1]) (fun i _ => 6 - (intOf i).toNat)
            case atStart => exact ⟨0, by omega, rfl, kL, iL⟩
            case round =>
              rename World => wq
              clear kL iL
              obtain ⟨j, hj, rfl, kq, iq⟩ := hrel
              by_cases hjl : j < 6
              · obtain ⟨z, hz⟩ : ∃ z, ([at', 0, 1, 65, 66, -1] : List Int)[j]? = some z := ⟨_, List.getElem?_eq_getElem hjl⟩
                obtain ⟨gi, oi, ei, _, ci⟩ := iq j z hz
                injection ei with ei
                injection ei with eg eo _
                rw [← eg, ← eo, Nat.zero_add] at ci
                clear eg eo hz
                have hj' : (j : Int) < 6 := by omega
                have hj0 : (0 : Int) ≤ (j : Int) := by omega
                go_wp2_with fail
                refine (krread kq z (by omega)).mono ?_
                intro e wx hh
                rw [hh.1, hh.2]
                clear hh
                go_wp2_with fail
                refine (kdread kq z (by omega)).mono ?_
                rintro e wR ⟨rfl, gR⟩
                have kR := kq.below gR
                have iR := iq.below gR
                clear kq iq gR ci
                generalize rText _ _ z = T
                go_wp2_with fail
                refine (bare_any _ (rCode z) (hE.below kR.low)).mono ?_
                rintro e wS ⟨rfl, gS⟩
                have kS := kR.below gS
                have iS := iR.below gS
                clear kR iR gS
                go_wp2_with fail
                go_light
                exact ⟨⟨j + 1, by omega, by go_num, kS, iS⟩, by simp [intOf]; omega⟩
              · go_wp2_with fail
                go_light
                exact ⟨⟨k + 1, _, _, _, _, _, _, by omega, by go_num, rfl, kq.less, hWT⟩, by simp [intOf]; omega⟩
          by_cases e4 : wh = 4
          · subst e4
            have zX : Hid (wX.heap.size = w'.heap.size + 1) := by unfold Hid; rw [← hwX.out, World.size_alloc]
            have hE0 : ((w'.alloc (.cells #[.int .i64 4, .int .i64 at', .string s, .slice ka ks.length kc] 56)).alloc (.cells #[] 9)).ownsRow 0 9 1 (.slice (some ⟨w'.heap.size + 1, 0, none⟩) 0 0) 0 [] := by
              have hh := heap_alloc_new (w'.alloc (.cells #[.int .i64 4, .int .i64 at', .string s, .slice ka ks.length kc] 56)) (.cells #[] 9)
              rw [World.size_alloc] at hh
              exact ⟨rfl, Or.inr ⟨w'.heap.size + 1, 0, #[], rfl, Nat.zero_le _, hh, Nat.le_refl _, Nat.zero_le _, rfl, rfl⟩⟩
            have gX : ∀ wD, ((w'.alloc (.cells #[.int .i64 4, .int .i64 at', .string s, .slice ka ks.length kc] 56)).alloc (.cells #[] 9)).grownBy wD (some (w'.heap.size + 1)) → Below wX.heap.size wX wD := fun wD hg => by
              rw [harr.out, hwX.out] at hg
              refine ((Below.refl wX.heap.size wX).alloc (Nat.le_refl _) (.cells #[] 9)).grown hg (by simp) (fun q hq => ?_)
              have e1 : w'.heap.size + 1 = q := by injection hq
              have := zX.out
              omega
            have nO : ∀ q, w'.heap.size + 1 ≤ q → ¬ O q := fun q hq ho => by have := (kx0.bo q ho).2; have := zX.out; omega
            obtain ⟨i1, hi1, hp0, hp1, hp2⟩ := info_parts infoStr
            by_cases hl0 : ls.length = 0
            · have HL : Hid (ls.length = 0) := hl0
              clear hl0
              have hmt : ls.map Value.string = [] := by rw [List.map_eq_nil_iff]; exact List.eq_nil_of_length_eq_zero HL.out
              have HM : Hid (ls.map Value.string = []) := hmt
              clear hmt
              go_wp2_with (refine wpList_append_fits_any _ rfl _ _ _ rfl 0 9 i1 1 Tryd.underlying22 hi1 hp1 (w'.heap.size + 1) 0 0 [] rfl hE0 a2 ls.length c2 (ls.map Value.string) rfl (by simp) (fun e => ⟨HL.out, hn2 e⟩) (fun ad _ j u hu => by rw [HM.out] at hu; simp at hu) (fun u hu => by rw [HM.out] at hu; simp at hu) (by have := HL.out; omega) ?_; intro wD hownD hgD)
              have hT := lay_texts (O := O) (by simpa using hownD) (nO _ (Nat.le_refl _))
              have kD := kx0.below (gX wD hgD)
              rw [← hBx.out] at hT
              rw [← hBx.out]
              refine (kdlay kD _ _ ls (by omega) hT).mono ?_
              rintro e wA ⟨rfl, kA⟩
              go_wp2_with fail
              refine (krlay kA _ c2 ls (by omega) h2 hsm').mono ?_
              rintro e wT ⟨rfl, kpT⟩
              have hWT : ([] : List (Nat × (Nat → UInt8))).length ≤ k + 1 := by simp
              go_wp2_with fail
              refine (get_any C _ _ kpT.cnt).mono ?_
              intro e wx hh
              rw [hh.1, hh.2]
              clear hh
              go_wp2_with fail
              refine (kdimage kpT).mono ?_
              rintro e wI ⟨⟨G1, rfl, hT1⟩, gI⟩
              have kI := kpT.below gI
              clear kpT gI
              go_wp2_with fail
              refine (krimage kI).mono ?_
              rintro e wJ ⟨⟨G2, cp2, rfl, hT2⟩, gJ⟩
              have kJ := kI.below gJ
              have hT1' := hT1.below gJ
              clear kI gJ hT1
              go_wp2_with fail
              refine (same66 G1 G2 66 cp2 _ _ hT1' hT2).mono ?_
              rintro e wK ⟨rfl, gK⟩
              have kK := kJ.below gK
              clear kJ gK hT1' hT2
              have cK := kx_at kK hc1
              go_wp2_with fail
              have iL := sixInts wK at'
              have kL := kK.below ((Below.refl wK.heap.size wK).alloc (Nat.le_refl _) (.cells #[.int .i64 at', .int .i64 0, .int .i64 1, .int .i64 65, .int .i64 66, .int .i64 (-1)] 3))
              obtain ⟨Bi, hBi⟩ : ∃ Bi, Hid (Bi = wK.heap.size) := ⟨_, rfl⟩
              obtain ⟨wL, hwL⟩ : ∃ wL, Hid (wK.alloc (.cells #[.int .i64 at', .int .i64 0, .int .i64 1, .int .i64 65, .int .i64 66, .int .i64 (-1)] 3) = wL) := ⟨_, rfl⟩
              rw [hwL.out, ← hBi.out] at iL
              rw [hwL.out] at kL
              rw [hwL.out, ← hBi.out]
              clear kK cK hBi hwL
              go_loopw [146] (fun i wq => ∃ j : Nat, j ≤ 6 ∧ i = .int .i64 j ∧ Kp wr wq O P b r C [(Bx, arr)] (layS S ls 66) ([] : List (Nat × (Nat → UInt8))) F (layS S ls 66) ([] : List (Nat × (Nat → UInt8))) F N ∧ Ints wq (some ⟨Bi, 0, none⟩) [at', 0, 1, 65, 66, -1]) (fun i _ => 6 - (intOf i).toNat)
              case atStart => exact ⟨0, by omega, rfl, kL, iL⟩
              case round =>
                rename World => wq
                clear kL iL
                obtain ⟨j, hj, rfl, kq, iq⟩ := hrel
                by_cases hjl : j < 6
                · obtain ⟨z, hz⟩ : ∃ z, ([at', 0, 1, 65, 66, -1] : List Int)[j]? = some z := ⟨_, List.getElem?_eq_getElem hjl⟩
                  obtain ⟨gi, oi, ei, _, ci⟩ := iq j z hz
                  injection ei with ei
                  injection ei with eg eo _
                  rw [← eg, ← eo, Nat.zero_add] at ci
                  clear eg eo hz
                  have hj' : (j : Int) < 6 := by omega
                  have hj0 : (0 : Int) ≤ (j : Int) := by omega
                  go_wp2_with fail
                  refine (krread kq z (by omega)).mono ?_
                  intro e wx hh
                  rw [hh.1, hh.2]
                  clear hh
                  go_wp2_with fail
                  refine (kdread kq z (by omega)).mono ?_
                  rintro e wR ⟨rfl, gR⟩
                  have kR := kq.below gR
                  have iR := iq.below gR
                  clear kq iq gR ci
                  generalize rText _ _ z = T
                  go_wp2_with fail
                  refine (bare_any _ (rCode z) (hE.below kR.low)).mono ?_
                  rintro e wS ⟨rfl, gS⟩
                  have kS := kR.below gS
                  have iS := iR.below gS
                  clear kR iR gS
                  go_wp2_with fail
                  go_light
                  exact ⟨⟨j + 1, by omega, by go_num, kS, iS⟩, by simp [intOf]; omega⟩
                · go_wp2_with fail
                  go_light
                  exact ⟨⟨k + 1, _, _, _, _, _, _, by omega, by go_num, rfl, kq.less, hWT⟩, by simp [intOf]; omega⟩
            · have hpos : 0 < ls.length := Nat.pos_of_ne_zero hl0
              clear hl0
              obtain ⟨ga, oa, rfl, _, _, _⟩ := h2 0 ls[0] (List.getElem?_eq_getElem hpos)
              have hcell : ∀ (j : Nat) (u : Value), (ls.map Value.string)[j]? = some u → ((w'.alloc (.cells #[.int .i64 4, .int .i64 at', .string s, .slice ka ks.length kc] 56)).alloc (.cells #[] 9)).cell? ((⟨ga, oa, none⟩ : Addr).add j) = some u := fun j u hu => by
                rw [List.getElem?_map, Option.map_eq_some_iff] at hu
                obtain ⟨y, hy, rfl⟩ := hu
                obtain ⟨g', o', e, hg', _, hc'⟩ := h2 j y hy
                injection e with e
                injection e with eg eo _
                subst eg eo
                rw [harr.out, hwX.out, addr_addO]
                have c1 := (kx0.low.cell (p := ⟨ga, oa + j, none⟩) hg').trans hc'
                exact (((Below.refl wX.heap.size wX).alloc (Nat.le_refl _) (.cells #[] 9)).cell (p := ⟨ga, oa + j, none⟩) (World.block_lt_of_cell? _ _ c1)).trans c1
              go_wp2_with (refine wpList_append_lies _ rfl _ _ _ rfl 0 9 i1 _ 1 16 Tryd.underlying22 hi1 hp0 hp1 hp2 rfl (by decide) (.slice (some ⟨w'.heap.size + 1, 0, none⟩) 0 0) 0 [] rfl hE0 ⟨ga, oa, none⟩ ls.length c2 (ls.map Value.string) rfl (by simp) hcell (fun u hu => by { rw [List.mem_map] at hu; obtain ⟨_, _, rfl⟩ := hu; rfl }) hpos (by unfold maxLen; omega) (by omega) (Nat.zero_le _) (w'.heap.size + 1 + 1) (by simp) ?_; intro gD cD wD hownD hgD hatD hltD)
              have hq : w'.heap.size + 1 ≤ gD := by
                rcases hatD with h | h
                · have e1 : w'.heap.size + 1 = gD := by injection h
                  omega
                · omega
              have hT := lay_texts (O := O) (by simpa using hownD) (nO _ hq)
              have kD := kx0.below (gX wD hgD)
              rw [← hBx.out]
              refine (kdlay kD _ _ ls (by omega) hT).mono ?_
              rintro e wA ⟨rfl, kA⟩
              go_wp2_with fail
              refine (krlay kA _ c2 ls (by omega) h2 hsm').mono ?_
              rintro e wT ⟨rfl, kpT⟩
              have hWT : ([] : List (Nat × (Nat → UInt8))).length ≤ k + 1 := by simp
              go_wp2_with fail
              refine (get_any C _ _ kpT.cnt).mono ?_
              intro e wx hh
              rw [hh.1, hh.2]
              clear hh
              go_wp2_with fail
              refine (kdimage kpT).mono ?_
              rintro e wI ⟨⟨G1, rfl, hT1⟩, gI⟩
              have kI := kpT.below gI
              clear kpT gI
              go_wp2_with fail
              refine (krimage kI).mono ?_
              rintro e wJ ⟨⟨G2, cp2, rfl, hT2⟩, gJ⟩
              have kJ := kI.below gJ
              have hT1' := hT1.below gJ
              clear kI gJ hT1
              go_wp2_with fail
              refine (same66 G1 G2 66 cp2 _ _ hT1' hT2).mono ?_
              rintro e wK ⟨rfl, gK⟩
              have kK := kJ.below gK
              clear kJ gK hT1' hT2
              have cK := kx_at kK hc1
              go_wp2_with fail
              have iL := sixInts wK at'
              have kL := kK.below ((Below.refl wK.heap.size wK).alloc (Nat.le_refl _) (.cells #[.int .i64 at', .int .i64 0, .int .i64 1, .int .i64 65, .int .i64 66, .int .i64 (-1)] 3))
              obtain ⟨Bi, hBi⟩ : ∃ Bi, Hid (Bi = wK.heap.size) := ⟨_, rfl⟩
              obtain ⟨wL, hwL⟩ : ∃ wL, Hid (wK.alloc (.cells #[.int .i64 at', .int .i64 0, .int .i64 1, .int .i64 65, .int .i64 66, .int .i64 (-1)] 3) = wL) := ⟨_, rfl⟩
              rw [hwL.out, ← hBi.out] at iL
              rw [hwL.out] at kL
              rw [hwL.out, ← hBi.out]
              clear kK cK hBi hwL
              go_loopw [146] (fun i wq => ∃ j : Nat, j ≤ 6 ∧ i = .int .i64 j ∧ Kp wr wq O P b r C [(Bx, arr)] (layS S ls 66) ([] : List (Nat × (Nat → UInt8))) F (layS S ls 66) ([] : List (Nat × (Nat → UInt8))) F N ∧ Ints wq (some ⟨Bi, 0, none⟩) [at', 0, 1, 65, 66, -1]) (fun i _ => 6 - (intOf i).toNat)
              case atStart => exact ⟨0, by omega, rfl, kL, iL⟩
              case round =>
                rename World => wq
                clear kL iL
                obtain ⟨j, hj, rfl, kq, iq⟩ := hrel
                by_cases hjl : j < 6
                · obtain ⟨z, hz⟩ : ∃ z, ([at', 0, 1, 65, 66, -1] : List Int)[j]? = some z := ⟨_, List.getElem?_eq_getElem hjl⟩
                  obtain ⟨gi, oi, ei, _, ci⟩ := iq j z hz
                  injection ei with ei
                  injection ei with eg eo _
                  rw [← eg, ← eo, Nat.zero_add] at ci
                  clear eg eo hz
                  have hj' : (j : Int) < 6 := by omega
                  have hj0 : (0 : Int) ≤ (j : Int) := by omega
                  go_wp2_with fail
                  refine (krread kq z (by omega)).mono ?_
                  intro e wx hh
                  rw [hh.1, hh.2]
                  clear hh
                  go_wp2_with fail
                  refine (kdread kq z (by omega)).mono ?_
                  rintro e wR ⟨rfl, gR⟩
                  have kR := kq.below gR
                  have iR := iq.below gR
                  clear kq iq gR ci
                  generalize rText _ _ z = T
                  go_wp2_with fail
                  refine (bare_any _ (rCode z) (hE.below kR.low)).mono ?_
                  rintro e wS ⟨rfl, gS⟩
                  have kS := kR.below gS
                  have iS := iR.below gS
                  clear kR iR gS
                  go_wp2_with fail
                  go_light
                  exact ⟨⟨j + 1, by omega, by go_num, kS, iS⟩, by simp [intOf]; omega⟩
                · go_wp2_with fail
                  go_light
                  exact ⟨⟨k + 1, _, _, _, _, _, _, by omega, by go_num, rfl, kq.less, hWT⟩, by simp [intOf]; omega⟩
          have f0 : (wh == 0) = false := by rw [beq_eq_false_iff_ne]; exact e0
          have f1 : (wh == 1) = false := by rw [beq_eq_false_iff_ne]; exact e1
          have f2 : (wh == 2) = false := by rw [beq_eq_false_iff_ne]; exact e2
          have f3 : (wh == 3) = false := by rw [beq_eq_false_iff_ne]; exact e3
          have f4 : (wh == 4) = false := by rw [beq_eq_false_iff_ne]; exact e4
          have f5 : (wh == 5) = false := by rw [beq_eq_false_iff_ne]; exact e5
          go_wp2_with fail
          rw [harr.out, hwX.out, ← hBx.out]
          have kpT := kx0
          have hWT : W.length ≤ k + 1 := by omega
          refine (get_any C _ _ kpT.cnt).mono ?_
          intro e wx hh
          rw [hh.1, hh.2]
          clear hh
          go_wp2_with fail
          refine (kdimage kpT).mono ?_
          rintro e wI ⟨⟨G1, rfl, hT1⟩, gI⟩
          have kI := kpT.below gI
          clear kpT gI
          go_wp2_with fail
          refine (krimage kI).mono ?_
          rintro e wJ ⟨⟨G2, cp2, rfl, hT2⟩, gJ⟩
          have kJ := kI.below gJ
          have hT1' := hT1.below gJ
          clear kI gJ hT1
          go_wp2_with fail
          refine (same66 G1 G2 66 cp2 _ _ hT1' hT2).mono ?_
          rintro e wK ⟨rfl, gK⟩
          have kK := kJ.below gK
          clear kJ gK hT1' hT2
          have cK := kx_at kK hc1
          go_wp2_with fail
          have iL := sixInts wK at'
          have kL := kK.below ((Below.refl wK.heap.size wK).alloc (Nat.le_refl _) (.cells #[.int .i64 at', .int .i64 0, .int .i64 1, .int .i64 65, .int .i64 66, .int .i64 (-1)] 3))
          obtain ⟨Bi, hBi⟩ : ∃ Bi, Hid (Bi = wK.heap.size) := ⟨_, rfl⟩
          obtain ⟨wL, hwL⟩ : ∃ wL, Hid (wK.alloc (.cells #[.int .i64 at', .int .i64 0, .int .i64 1, .int .i64 65, .int .i64 66, .int .i64 (-1)] 3) = wL) := ⟨_, rfl⟩
          rw [hwL.out, ← hBi.out] at iL
          rw [hwL.out] at kL
          rw [hwL.out, ← hBi.out]
          clear kK cK hBi hwL
          go_loopw [146] (fun i wq => ∃ j : Nat, j ≤ 6 ∧ i = .int .i64 j ∧ Kp wr wq O P b r C [(Bx, arr)] S W F S W F N ∧ Ints wq (some ⟨Bi, 0, none⟩) [at', 0, 1, 65, 66, -1]) (fun i _ => 6 - (intOf i).toNat)
          case atStart => exact ⟨0, by omega, rfl, kL, iL⟩
          case round =>
            rename World => wq
            clear kL iL
            obtain ⟨j, hj, rfl, kq, iq⟩ := hrel
            by_cases hjl : j < 6
            · obtain ⟨z, hz⟩ : ∃ z, ([at', 0, 1, 65, 66, -1] : List Int)[j]? = some z := ⟨_, List.getElem?_eq_getElem hjl⟩
              obtain ⟨gi, oi, ei, _, ci⟩ := iq j z hz
              injection ei with ei
              injection ei with eg eo _
              rw [← eg, ← eo, Nat.zero_add] at ci
              clear eg eo hz
              have hj' : (j : Int) < 6 := by omega
              have hj0 : (0 : Int) ≤ (j : Int) := by omega
              go_wp2_with fail
              refine (krread kq z (by omega)).mono ?_
              intro e wx hh
              rw [hh.1, hh.2]
              clear hh
              go_wp2_with fail
              refine (kdread kq z (by omega)).mono ?_
              rintro e wR ⟨rfl, gR⟩
              have kR := kq.below gR
              have iR := iq.below gR
              clear kq iq gR ci
              generalize rText _ _ z = T
              go_wp2_with fail
              refine (bare_any _ (rCode z) (hE.below kR.low)).mono ?_
              rintro e wS ⟨rfl, gS⟩
              have kS := kR.below gS
              have iS := iR.below gS
              clear kR iR gS
              go_wp2_with fail
              go_light
              exact ⟨⟨j + 1, by omega, by go_num, kS, iS⟩, by simp [intOf]; omega⟩
            · go_wp2_with fail
              go_light
              exact ⟨⟨k + 1, _, _, _, _, _, _, by omega, by go_num, rfl, kq.less, hWT⟩, by simp [intOf]; omega⟩
        · go_wp2_with fail
          go_ret
          exact ⟨rfl, kp.low⟩
end Go.Proofs.YtccnnfllgdplhaaDoor
