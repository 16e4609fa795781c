/-
  Part of the proof of TreeBinds: the reference's Root, Path and Verify are walked.
-/
import Derived.Test.YtgbfjdaelcfnjaaDoorU9
namespace Go.Proofs.YtgbfjdaelcfnjaaDoor.Tr
open Go.RowKit Go.Shelf
set_option maxRecDepth 100000 in
set_option maxHeartbeats 1000000 in
theorem rroot_any (rb : Nat) (a : Option Addr) (n c : Nat) (f : Nat → ByteArray) (w : World) (hR : RB w rb) (hT : Tx w a f n) (hn : n ≤ 40) :
    Calls Tryd.prog 60 #[.pointer (some ⟨rb, 0, none⟩), .slice a n c] w fun e w' => e = .returned (.tuple #[.string (rootT f n), .int .i64 (rootC f n)]) ∧ Below w.heap.size w w' := by
  have ha := rmarks_any a n c f 32 w hT hn
  cases ho : okB f n with
  | false =>
    have ho' : (decide (n = 32) && marksB f n) = false := ho
    rw [ho'] at ha
    have e1 : rootT f n = ⟨#[]⟩ := by unfold rootT; rw [ho]; rfl
    have e2 : rootC f n = 1 := by unfold rootC; rw [ho]; rfl
    rw [e1, e2]
    go_enter Tryd.func60, Tryd.ntmps60
    go_wp2_with (go_at_call 106; refine ha.mono ?_; rintro e w' ⟨rfl, rfl⟩)
    go_ret2
    exact ⟨rfl, Below.refl _ _⟩
  | true =>
    have ho' : (decide (n = 32) && marksB f n) = true := ho
    rw [ho'] at ha
    have e1 : Hid (rootT f n = R f 5 0) := by unfold Hid rootT; rw [ho]; rfl
    have e2 : rootC f n = 0 := by unfold rootC; rw [ho]; rfl
    rw [e2]
    obtain ⟨rfl, hm⟩ := okB_spec ho
    have e3 : Hid (AL f 62 = R f 5 0) := AL_row f 5 0 (by decide) (by decide)
    clear ho ho' hn e2
    go_enter Tryd.func60, Tryd.ntmps60
    go_wp2_with first
      | (go_at_call 106; refine ha.mono ?_; clear ha; rintro e _ ⟨rfl, hw'⟩; rw [hw']; clear hw')
      | (go_at_call 107; refine (rows_any rb a c f w hR hT hm).mono ?_; rintro e w1 ⟨⟨g, cap, rfl, hg, hT1⟩, g1⟩; have c62 : w1.cell? ⟨g, 62, none⟩ = some (.string (AL f 62)) := by { obtain ⟨g', o', e', _, hc⟩ := hT1 62 (by decide); injection e' with e'; injection e' with e1' e2'; subst e1' e2'; exact hc })
    go_ret2
    exact ⟨by rw [e1.out, ← e3.out]; rfl, g1⟩
theorem fst_step : ∀ t : Fin 5, 64 - 64 / 2 ^ t.1 + 32 / 2 ^ t.1 = 64 - 64 / 2 ^ (t.1 + 1) ∧ 32 / 2 ^ t.1 / 2 = 32 / 2 ^ (t.1 + 1) ∧ 1 < 32 / 2 ^ t.1 ∧ 64 - 64 / 2 ^ t.1 + 32 / 2 ^ t.1 ≤ 62 ∧ 32 / 2 ^ t.1 ≤ 32 := by decide
theorem own_block {w : World} {B n : Nat} {v : Value} {xs : List Value} (h : w.ownsRow B 9 1 v n xs) (k : Nat) (hk : v.ownBlock = some k) : B ≤ k := by
  obtain ⟨h1, h2⟩ := h
  rcases h2 with ⟨h2, _⟩ | ⟨g', cap', cur, hv, hgB, hh, hle, _⟩
  · rw [h2] at hk; cases hk
  · rw [hv] at hk
    injection hk with hk
    rw [← hk]; exact hgB
theorem own_form {w : World} {B n : Nat} {v : Value} {xs : List Value} (h : w.ownsRow B 9 1 v (n + 1) xs) : ∃ g cap, v = .slice (some ⟨g, 0, none⟩) (n + 1) cap := by
  obtain ⟨h1, h2⟩ := h
  rcases h2 with ⟨_, h2⟩ | ⟨g', cap', cur, hv, _⟩
  · cases h2
  · exact ⟨g', cap', hv⟩
theorem own_any {w w' : World} {B n : Nat} {v : Value} {xs : List Value} (h : w.ownsRow B 9 1 v n xs) (hb : Below w.heap.size w w') : w'.ownsRow B 9 1 v n xs := by
  obtain ⟨h1, h2⟩ := h
  refine ⟨h1, ?_⟩
  rcases h2 with h2 | ⟨g', cap', cur, hv, hgB, hh, r⟩
  · exact Or.inl h2
  · exact Or.inr ⟨g', cap', cur, hv, hgB, by rw [hb.block _ (Array.getElem?_eq_some_iff.1 hh).1]; exact hh, r⟩
set_option maxRecDepth 100000 in
set_option maxHeartbeats 1000000 in
theorem rpath_any (rb : Nat) (a : Option Addr) (n c : Nat) (f : Nat → ByteArray) (k : Int) (w : World) (hR : RB w rb) (hT : Tx w a f n) (hn : n ≤ 40) :
    Calls Tryd.prog 62 #[.pointer (some ⟨rb, 0, none⟩), .slice a n c, .int .i64 k] w fun e w' => (∃ a' c', e = .returned (.tuple #[.slice a' (pathN f n k) c', .int .i64 (pathC f n k)]) ∧ Tx w' a' (pathF f k.toNat) (pathN f n k)) ∧ Below w.heap.size w w' := by
  have ha := rmarks_any a n c f 32 w hT hn
  have hp := rin_any k w
  cases ho : okB f n with
  | false =>
    have ho' : (decide (n = 32) && marksB f n) = false := ho
    rw [ho'] at ha
    have e1 : pathN f n k = 0 := by unfold pathN; rw [ho]; rfl
    have e2 : pathC f n k = 1 := by unfold pathC; rw [ho]; rfl
    rw [e1, e2]
    go_enter Tryd.func62, Tryd.ntmps62
    go_wp2_with (go_at_call 106; refine ha.mono ?_; rintro e w' ⟨rfl, rfl⟩)
    go_ret2
    exact ⟨⟨none, 0, rfl, Tx.none _ _ _⟩, Below.refl _ _⟩
  | true =>
    have ho' : (decide (n = 32) && marksB f n) = true := ho
    rw [ho'] at ha
    by_cases hk : 0 ≤ k ∧ k < 32
    · have e1 : pathN f n k = 5 := by unfold pathN; rw [ho, decide_eq_true hk]; rfl
      have e2 : pathC f n k = 0 := by unfold pathC; rw [ho, if_pos hk]; rfl
      rw [e1, e2]
      rw [decide_eq_true hk] at hp
      obtain ⟨rfl, hm⟩ := okB_spec ho
      obtain ⟨q, rfl⟩ : ∃ q : Nat, k = (q : Int) := ⟨k.toNat, by omega⟩
      have hq : q < 32 := by omega
      rw [Int.toNat_natCast]
      clear ho ho' hn hk e1 e2
      go_enter Tryd.func62, Tryd.ntmps62
      go_wp2_with first
        | (go_at_call 106; refine ha.mono ?_; clear ha; rintro e _ ⟨rfl, hw'⟩; rw [hw']; clear hw')
        | (go_at_call 78; refine hp.mono ?_; clear hp; rintro e _ ⟨rfl, hw'⟩; rw [hw']; clear hw')
        | (go_at_call 107; refine (rows_any rb a c f w hR hT hm).mono ?_; rintro e w1 ⟨⟨ga, ca, rfl, _, hT1⟩, g1⟩)
      go_loopw [2, 9, 10, 11] (fun kv ov fv nv wr => ∃ t F N : Nat, t ≤ 5 ∧ Hid (F = 64 - 64 / 2 ^ t) ∧ Hid (N = 32 / 2 ^ t) ∧ kv = .int .i64 ((q / 2 ^ t : Nat) : Int) ∧ fv = .int .i64 (F : Int) ∧ nv = .int .i64 (N : Int) ∧ wr.ownsRow w1.heap.size 9 1 ov t (strs (pathF f q) t) ∧ Below w1.heap.size w1 wr) (fun _ _ _ nv _ => (intOf nv).toNat)
      case atStart => exact ⟨0, 0, 32, by decide, rfl, rfl, by simp, rfl, rfl, ⟨rfl, Or.inl ⟨rfl, rfl⟩⟩, Below.refl _ _⟩
      case round =>
        obtain ⟨t, F, N, ht, hF, hN, rfl, rfl, rfl, ow, gr⟩ := hrel
        by_cases h5 : t < 5
        · obtain ⟨p1, p2, p3, p4, p5⟩ := fst_step ⟨t, h5⟩
          dsimp only at p1 p2 p3 p4 p5
          rw [← hF.out, ← hN.out] at p1 p4
          rw [← hN.out] at p2 p3 p5
          have P1 : Hid (F + N = 64 - 64 / 2 ^ (t + 1)) := p1
          have P2 : Hid (N / 2 = 32 / 2 ^ (t + 1)) := p2
          clear p1 p2
          have hjM := path_lt ⟨q, hq⟩ ⟨t, h5⟩
          dsimp only at hjM
          have hrow : Hid (AL f (F + oth (q / 2 ^ t)) = pathF f q t) := by unfold Hid; rw [hF.out]; exact AL_row f t _ ht hjM
          rw [← hN.out] at hjM
          have hkk := div_le q t
          have hd2 : Hid (q / 2 ^ t / 2 = q / 2 ^ (t + 1)) := div_pow q t
          have hsu : Hid (strs (pathF f q) (t + 1) = strs (pathF f q) t ++ [.string (pathF f q t)]) := strs_succ _ _
          obtain ⟨g', o', eg, hg, hc⟩ := (hT1.below gr) (F + oth (q / 2 ^ t)) (by omega)
          obtain ⟨rfl, rfl⟩ : ga = g' ∧ 0 = o' := by injection eg with h; injection h with h1 h2; exact ⟨h1, h2⟩
          rw [hrow.out, Nat.zero_add] at hc
          have hot : Hid (oth (q / 2 ^ t) = if q / 2 ^ t % 2 = 1 then q / 2 ^ t - 1 else q / 2 ^ t + 1) := rfl
          clear eg hF hN hrow
          generalize pathF f q t = x at *
          generalize q / 2 ^ t = kk at *
          generalize oth kk = jj at *
          obtain ⟨k2, hk2⟩ : ∃ k2 : Nat, k2 = kk / 2 := ⟨_, rfl⟩
          rw [← hk2] at hd2
          have hq1 : (kk : Int).tdiv 2 = (k2 : Int) := by rw [Int.tdiv_eq_ediv_of_nonneg (by omega)]; omega
          have hq2 : (kk : Int) / 2 = (k2 : Int) := by omega
          obtain ⟨N2, hN2⟩ : ∃ N2 : Nat, N2 = N / 2 := ⟨_, rfl⟩
          rw [← hN2] at P2
          have hq3 : (N : Int).tdiv 2 = (N2 : Int) := by rw [Int.tdiv_eq_ediv_of_nonneg (by omega)]; omega
          have hq4 : (N : Int) / 2 = (N2 : Int) := by omega
          have hNN : Hid (N2 < N) := by unfold Hid; omega
          obtain ⟨F2, hF2⟩ : ∃ F2 : Nat, F2 = F + N := ⟨_, rfl⟩
          rw [← hF2] at P1
          have hq5 : (F : Int) + (N : Int) = (F2 : Int) := by omega
          obtain ⟨J, hJ⟩ : ∃ J : Nat, J = F + jj := ⟨_, rfl⟩
          rw [← hJ] at hc
          have hq6 : (F : Int) + (jj : Int) = (J : Int) := by omega
          have hJ0 : (0 : Int) ≤ (J : Int) := by omega
          have hJ63 : (J : Int) < 63 := by omega
          have hN1 : (1 : Int) < (N : Int) := by omega
          have ow2 := own_any ow (below_alloc wr (.cells #[.string x] 9))
          have b4 : ∀ w4 : World, (wr.alloc (.cells #[.string x] 9)).grownBy w4 (Value.ownBlock u9) → Below w1.heap.size w1 w4 := fun w4 h4 =>
            (gr.trans ((below_alloc wr _).mono gr.size)).grown h4 (by have := gr.size; simp; omega) (own_block ow2)
          have hcap : w1.heap.size ≤ (wr.alloc (.cells #[.string x] 9)).heap.size := by have := gr.size; simp; omega
          by_cases hod : kk % 2 = 1
          · have hj1 : (kk : Int) - 1 = (jj : Int) := by have := hot.out; rw [if_pos hod] at this; omega
            have hr1 : (kk : Int).tmod 2 = 1 := by rw [Int.tmod_eq_emod_of_nonneg (by omega)]; omega
            have hr2 : (kk : Int) % 2 = 1 := by omega
            clear hk2 hN2 hF2 hJ hod hot
            go_wp2_with (refine wpl_pushTx rfl _ _ rfl w1.heap.size t u9 (strs (pathF f q) t) rfl ow2 _ 1 1 _ rfl (tx_new wr x) (by decide) (by omega) (by decide) hcap ?_; intro g4 cap4 w4 ow4 gr4 _)
            refine ⟨⟨t + 1, F2, N2, by omega, P1, P2, by rw [hd2.out], rfl, rfl, by rw [hsu.out]; exact ow4, b4 w4 gr4⟩, ?_⟩
            have := hNN.out
            simp [intOf]; omega
          · have hj1 : (kk : Int) + 1 = (jj : Int) := by have := hot.out; rw [if_neg hod] at this; omega
            have hr1 : (kk : Int).tmod 2 = 0 := by rw [Int.tmod_eq_emod_of_nonneg (by omega)]; omega
            have hr2 : (kk : Int) % 2 = 0 := by omega
            clear hk2 hN2 hF2 hJ hod hot
            go_wp2_with (refine wpl_pushTx rfl _ _ rfl w1.heap.size t u9 (strs (pathF f q) t) rfl ow2 _ 1 1 _ rfl (tx_new wr x) (by decide) (by omega) (by decide) hcap ?_; intro g4 cap4 w4 ow4 gr4 _)
            refine ⟨⟨t + 1, F2, N2, by omega, P1, P2, by rw [hd2.out], rfl, rfl, by rw [hsu.out]; exact ow4, b4 w4 gr4⟩, ?_⟩
            have := hNN.out
            simp [intOf]; omega
        · obtain rfl : t = 5 := by omega
          obtain rfl : N = 1 := hN.out
          obtain ⟨g', cap', rfl⟩ := own_form ow
          generalize q / 2 ^ 5 = kk at *
          go_wp2_with fail
          go_ret2
          exact ⟨⟨_, ⟨_, rfl⟩, own_tx ow⟩, g1.trans (gr.mono g1.size)⟩
    · have e1 : pathN f n k = 0 := by unfold pathN; rw [ho, decide_eq_false hk]; rfl
      have e2 : pathC f n k = 2 := by unfold pathC; rw [ho, if_neg hk]; rfl
      rw [e1, e2]
      rw [decide_eq_false hk] at hp
      go_enter Tryd.func62, Tryd.ntmps62
      go_wp2_with first
        | (go_at_call 106; refine ha.mono ?_; clear ha; rintro e _ ⟨rfl, hw'⟩; rw [hw']; clear hw')
        | (go_at_call 78; refine hp.mono ?_; clear hp; rintro e _ ⟨rfl, hw'⟩; rw [hw']; clear hw')
      go_ret2
      exact ⟨⟨none, 0, rfl, Tx.none _ _ _⟩, Below.refl _ _⟩
set_option maxRecDepth 100000 in
set_option maxHeartbeats 1000000 in
theorem rverify_any (rb : Nat) (root m : ByteArray) (k : Int) (a : Option Addr) (n c : Nat) (p : Nat → ByteArray) (w : World) (hR : RB w rb) (hT : Tx w a p n) (hn : n ≤ 40) :
    Calls Tryd.prog 65 #[.pointer (some ⟨rb, 0, none⟩), .string root, .string m, .int .i64 k, .slice a n c] w fun e w' => e = .returned (.bool (verB root m k p n)) ∧ Below w.heap.size w w' := by
  have ha := rmarks_any a n c p 5 w hT hn
  have hp := rin_any k w
  have h0 := rmark1_any m w
  by_cases h1 : ¬ m.size = 16
  · have e1 : verB root m k p n = false := by unfold verB verP; simp [h1]
    rw [decide_eq_false h1] at h0
    rw [e1]
    go_enter Tryd.func65, Tryd.ntmps65
    go_wp2_with (go_at_call 112; refine h0.mono ?_; clear h0; rintro e _ ⟨rfl, hw'⟩; rw [hw']; clear hw')
    go_ret
    exact ⟨rfl, Below.refl _ _⟩
  have h1 := Classical.not_not.1 h1
  rw [decide_eq_true h1] at h0
  by_cases h2 : ¬ (0 ≤ k ∧ k < 32)
  · have e1 : verB root m k p n = false := by unfold verB verP; rw [decide_eq_false h2]; simp
    rw [decide_eq_false h2] at hp
    rw [e1]
    go_enter Tryd.func65, Tryd.ntmps65
    go_wp2_with first
      | (go_at_call 112; refine h0.mono ?_; clear h0; rintro e _ ⟨rfl, hw'⟩; rw [hw']; clear hw')
      | (go_at_call 78; refine hp.mono ?_; clear hp; rintro e _ ⟨rfl, hw'⟩; rw [hw']; clear hw')
    go_ret
    exact ⟨rfl, Below.refl _ _⟩
  have h2 := Classical.not_not.1 h2
  rw [decide_eq_true h2] at hp
  cases h3 : decide (n = 5) && marksB p n with
  | false =>
    have e1 : verB root m k p n = false := by unfold verB verP; rw [h3]; simp
    rw [h3] at ha
    rw [e1]
    go_enter Tryd.func65, Tryd.ntmps65
    go_wp2_with first
      | (go_at_call 112; refine h0.mono ?_; clear h0; rintro e _ ⟨rfl, hw'⟩; rw [hw']; clear hw')
      | (go_at_call 78; refine hp.mono ?_; clear hp; rintro e _ ⟨rfl, hw'⟩; rw [hw']; clear hw')
      | (go_at_call 106; refine ha.mono ?_; clear ha; rintro e _ ⟨rfl, hw'⟩; rw [hw']; clear hw')
    go_ret
    exact ⟨rfl, Below.refl _ _⟩
  | true =>
    rw [h3] at ha
    have e1 : Hid (verB root m k p n = ((climb m k.toNat p 5).toList == root.toList)) := by unfold Hid verB verP; rw [h3, decide_eq_true h1, decide_eq_true h2]; rfl
    obtain ⟨q, rfl⟩ : ∃ q : Nat, k = (q : Int) := ⟨k.toNat, by omega⟩
    rw [Int.toNat_natCast] at e1
    have hq : q < 32 := by omega
    simp only [Bool.and_eq_true, decide_eq_true_eq] at h3
    obtain ⟨rfl, hmk⟩ := h3
    have hmk' := marksB_spec.1 hmk
    clear hmk h2 hn
    go_enter Tryd.func65, Tryd.ntmps65
    go_wp2_with first
      | (go_at_call 112; refine h0.mono ?_; clear h0; rintro e _ ⟨rfl, hw'⟩; rw [hw']; clear hw')
      | (go_at_call 78; refine hp.mono ?_; clear hp; rintro e _ ⟨rfl, hw'⟩; rw [hw']; clear hw')
      | (go_at_call 106; refine ha.mono ?_; clear ha; rintro e _ ⟨rfl, hw'⟩; rw [hw']; clear hw')
    go_loopw [2, 3, 30] (fun ov kv iv wr => ∃ t : Nat, t ≤ 5 ∧ kv = .int .i64 ((q / 2 ^ t : Nat) : Int) ∧ ov = .string (climb m q p t) ∧ iv = .int .i64 (t : Int) ∧ Below w.heap.size w wr) (fun _ _ iv _ => 5 - (intOf iv).toNat)
    case atStart => exact ⟨0, by decide, by simp, rfl, rfl, Below.refl _ _⟩
    case round =>
      obtain ⟨t, ht, rfl, rfl, rfl, gr⟩ := hrel
      by_cases h5 : t < 5
      · have h5' : (t : Int) < 5 := by omega
        have ht0 : (0 : Int) ≤ (t : Int) := by omega
        obtain ⟨g, o, rfl, hg, hc⟩ := (hT.below gr) t h5
        have hkk := div_le q t
        have hd2 : Hid (q / 2 ^ t / 2 = q / 2 ^ (t + 1)) := div_pow q t
        have sx : (p t).size ≤ 300 := by rw [hmk' t h5]; decide
        have sc : (climb m q p t).size ≤ 300 := by rw [climb_len m q p h1 t]; decide
        by_cases hev : q / 2 ^ t % 2 = 0
        · have hcl : Hid (mk2 (climb m q p t) (p t) = climb m q p (t + 1)) := climb_even m q p t hev
          generalize climb m q p t = x at *
          generalize p t = y at *
          generalize q / 2 ^ t = kk at *
          obtain ⟨k2, hk2⟩ : ∃ k2 : Nat, k2 = kk / 2 := ⟨_, rfl⟩
          rw [← hk2] at hd2
          have hq1 : (kk : Int).tdiv 2 = (k2 : Int) := by rw [Int.tdiv_eq_ediv_of_nonneg (by omega)]; omega
          have hq2 : (kk : Int) / 2 = (k2 : Int) := by omega
          have hr1 : (kk : Int).tmod 2 = 0 := by rw [Int.tmod_eq_emod_of_nonneg (by omega)]; omega
          have hr2 : (kk : Int) % 2 = 0 := by omega
          clear hk2 hev
          have g2 := below_alloc wr (.cells #[.string x, .string y] 9)
          have R2 := (hR.below gr).below g2
          go_wp2_with (go_at_call 20; refine (rmark2 rb rfl R2 (Blk.new wr #[.string x, .string y] 9) sc sx).mono ?_; rintro e w1 ⟨rfl, g1⟩)
          go_light
          have G2 := gr.trans (g2.mono gr.size)
          exact ⟨⟨t + 1, by omega, by rw [hd2.out], by rw [hcl.out], by go_num, G2.trans (g1.mono G2.size)⟩, by simp [intOf]; omega⟩
        · have hcl : Hid (mk2 (p t) (climb m q p t) = climb m q p (t + 1)) := climb_odd m q p t hev
          generalize climb m q p t = x at *
          generalize p t = y at *
          generalize q / 2 ^ t = kk at *
          obtain ⟨k2, hk2⟩ : ∃ k2 : Nat, k2 = kk / 2 := ⟨_, rfl⟩
          rw [← hk2] at hd2
          have hq1 : (kk : Int).tdiv 2 = (k2 : Int) := by rw [Int.tdiv_eq_ediv_of_nonneg (by omega)]; omega
          have hq2 : (kk : Int) / 2 = (k2 : Int) := by omega
          have hr1 : (kk : Int).tmod 2 = 1 := by rw [Int.tmod_eq_emod_of_nonneg (by omega)]; omega
          have hr2 : (kk : Int) % 2 = 1 := by omega
          clear hk2 hev
          have g2 := below_alloc wr (.cells #[.string y, .string x] 9)
          have R2 := (hR.below gr).below g2
          go_wp2_with (go_at_call 20; refine (rmark2 rb rfl R2 (Blk.new wr #[.string y, .string x] 9) sx sc).mono ?_; rintro e w1 ⟨rfl, g1⟩)
          go_light
          have G2 := gr.trans (g2.mono gr.size)
          exact ⟨⟨t + 1, by omega, by rw [hd2.out], by rw [hcl.out], by go_num, G2.trans (g1.mono G2.size)⟩, by simp [intOf]; omega⟩
      · obtain rfl : t = 5 := by omega
        generalize climb m q p 5 = x at *
        generalize q / 2 ^ 5 = kk at *
        go_wp2_with fail
        go_ret
        refine ⟨?_, gr⟩
        rw [e1.out]
        rfl
end Go.Proofs.YtgbfjdaelcfnjaaDoor.Tr
