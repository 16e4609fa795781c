/-
  Part of the proof of TreeBinds: the code's Root, Path and Verify are walked.
-/
import Derived.Test.YtgbfjdaelcfnjaaDoorU5
namespace Go.Proofs.YtgbfjdaelcfnjaaDoor.Tr
open Go.RowKit Go.Shelf
def errV (n : Int) : Value := if n = 0 then .nilIface else .iface 30 (.int .i64 n)
/-- There are 32 marks. -/
def okB (f : Nat → ByteArray) (n : Nat) : Bool := decide (n = 32) && marksB f n
theorem okB_spec {f : Nat → ByteArray} {n : Nat} (h : okB f n = true) : n = 32 ∧ ∀ i, i < 32 → (f i).size = 16 := by
  unfold okB at h
  simp only [Bool.and_eq_true, decide_eq_true_eq] at h
  obtain ⟨rfl, h2⟩ := h
  exact ⟨rfl, marksB_spec.1 h2⟩
def rootT (f : Nat → ByteArray) (n : Nat) : ByteArray := if okB f n then R f 5 0 else ⟨#[]⟩
def rootC (f : Nat → ByteArray) (n : Nat) : Int := if okB f n then 0 else 1
theorem pw_step : ∀ t : Fin 5, 32 / 2 ^ t.1 = 2 * (32 / 2 ^ (t.1 + 1)) ∧ 32 / 2 ^ (t.1 + 1) ≤ 16 ∧ 1 ≤ 32 / 2 ^ (t.1 + 1) := by decide
theorem R_up (f : Nat → ByteArray) (t : Nat) : R f (t + 1) = up (R f t) := rfl
/-- How many a slice has. -/
def lenOf : Value → Nat
  | .slice _ n _ => n
  | _ => 0
/-- A slice that is row t. -/
structure Rw (w : World) (v : Value) (f : Nat → ByteArray) (t M : Nat) : Prop where
  le : t ≤ 5
  len : Hid (M = 32 / 2 ^ t)
  form : ∃ a c, v = .slice a M c ∧ Tx w a (R f t) M
set_option maxRecDepth 100000 in
set_option maxHeartbeats 1000000 in
theorem root_any (a : Option Addr) (n c : Nat) (f : Nat → ByteArray) (w : World) (hT : Tx w a f n) (hn : n ≤ 40) (hs : ∀ i, i < n → (f i).size ≤ 60) (hK : Sm.KB w) :
    Calls Tryd.prog 61 #[.slice a n c] w fun e w' => e = .returned (.tuple #[.string (rootT f n), errV (rootC f n)]) ∧ Below w.heap.size w w' := by
  have ha := are_any a n c f 32 w hT hn hs (by decide)
  cases ho : okB f n with
  | false =>
    have ho' : (decide (n = 32) && marksB f n) = false := ho
    rw [ho'] at ha
    have e1 : rootT f n = ⟨#[]⟩ := by unfold rootT; rw [ho]; rfl
    have e2 : errV (rootC f n) = .iface 30 (.int .i64 1) := by unfold rootC errV; rw [ho]; rfl
    go_enter Tryd.func61, Tryd.ntmps61
    go_wp2_with (go_at_call 108; refine ha.mono ?_; rintro e w' ⟨rfl, rfl⟩)
    go_ret2
    exact ⟨by rw [e1, e2]; rfl, Below.refl _ _⟩
  | true =>
    have ho' : (decide (n = 32) && marksB f n) = true := ho
    rw [ho'] at ha
    have e1 : Hid (rootT f n = R f 5 0) := by unfold Hid rootT; rw [ho]; rfl
    have e2 : Hid (errV (rootC f n) = .nilIface) := by unfold Hid rootC errV; rw [ho]; rfl
    obtain ⟨rfl, hm⟩ := okB_spec ho
    clear ho ho' hs hn
    go_enter Tryd.func61, Tryd.ntmps61
    go_wp2_with (go_at_call 108; refine ha.mono ?_; rintro e w' ⟨rfl, rfl⟩)
    clear ha
    go_loopw [4] (fun v wr => ∃ t M, Rw wr v f t M ∧ Below w'.heap.size w' wr) (fun v _ => lenOf v)
    case atStart => exact ⟨0, 32, ⟨by decide, rfl, a, c, rfl, hT⟩, Below.refl _ _⟩
    case round =>
      obtain ⟨t, M, ⟨ht, hM, a', c', rfl, hT'⟩, gr⟩ := hrel
      by_cases h5 : t < 5
      · obtain ⟨p1, p2, p3⟩ := pw_step ⟨t, h5⟩
        obtain ⟨N, hN⟩ : ∃ N : Nat, Hid (N = 32 / 2 ^ (t + 1)) := ⟨_, rfl⟩
        have hMN : Hid (M = 2 * N) := by unfold Hid; rw [hM.out, hN.out]; exact p1
        have hN16 : N ≤ 16 := by rw [hN.out]; exact p2
        have hN1 : 1 ≤ N := by rw [hN.out]; exact p3
        have hM1 : (1 : Int) < (M : Int) := by have := hMN.out; omega
        have hM32 : M ≤ 32 := by have := hMN.out; omega
        clear p1 p2 p3
        go_wp2_with fail
        refine (above_any a' M c' N (R f t) wr hN16 hMN hT' (fun i hi => R_size f hm t i (by omega)) (hK.below gr)).mono ?_
        rintro e w1 ⟨⟨g, cap, rfl, _, hT1⟩, g1⟩
        go_wp2_with fail
        go_light
        refine ⟨⟨t + 1, N, ⟨by omega, hN, _, _, rfl, hT1⟩, gr.trans (g1.mono gr.size)⟩, ?_⟩
        have := hMN.out
        simp [lenOf]; omega
      · obtain rfl : t = 5 := by omega
        have hM1 : M = 1 := hM.out
        subst hM1
        obtain ⟨g, o, rfl, hg, hc⟩ := hT' 0 (by decide)
        rw [Nat.add_zero] at hc
        go_wp2_with fail
        go_ret2
        exact ⟨by rw [e1.out, e2.out]; rfl, gr⟩
/-- What Path tells. -/
def pathC (f : Nat → ByteArray) (n : Nat) (k : Int) : Int := if okB f n then (if 0 ≤ k ∧ k < 32 then 0 else 2) else 1
def pathN (f : Nat → ByteArray) (n : Nat) (k : Int) : Nat := if okB f n && decide (0 ≤ k ∧ k < 32) then 5 else 0
def pathF (f : Nat → ByteArray) (k : Nat) (t : Nat) : ByteArray := R f t (oth (k / 2 ^ t))
theorem xor_i64 : ∀ k : Fin 32, bits .xor .i64 ((k.1 : Nat) : Int) 1 = ((oth k.1 : Nat) : Int) := by decide +kernel
theorem path_lt : ∀ (k : Fin 32) (t : Fin 5), oth (k.1 / 2 ^ t.1) < 32 / 2 ^ t.1 := by decide +kernel
theorem div_pow (k t : Nat) : k / 2 ^ t / 2 = k / 2 ^ (t + 1) := by rw [Nat.div_div_eq_div_mul, Nat.pow_succ]
theorem div_le (k t : Nat) : k / 2 ^ t ≤ k := Nat.div_le_self _ _
theorem Tx.none (w : World) (a : Option Addr) (f : Nat → ByteArray) : Tx w a f 0 := fun _ hi => absurd hi (Nat.not_lt_zero _)
set_option maxRecDepth 100000 in
set_option maxHeartbeats 1000000 in
theorem path_any (a : Option Addr) (n c : Nat) (f : Nat → ByteArray) (k : Int) (w : World) (hT : Tx w a f n) (hn : n ≤ 40) (hs : ∀ i, i < n → (f i).size ≤ 60) (hK : Sm.KB w) :
    Calls Tryd.prog 63 #[.slice a n c, .int .i64 k] w fun e w' => (∃ a' c', e = .returned (.tuple #[.slice a' (pathN f n k) c', errV (pathC f n k)]) ∧ Tx w' a' (pathF f k.toNat) (pathN f n k)) ∧ Below w.heap.size w w' := by
  have ha := are_any a n c f 32 w hT hn hs (by decide)
  have hp := isPlace_any k w
  cases ho : okB f n with
  | false =>
    have ho' : (decide (n = 32) && marksB f n) = false := ho
    rw [ho'] at ha
    have e1 : pathN f n k = 0 := by unfold pathN; rw [ho]; rfl
    have e2 : errV (pathC f n k) = .iface 30 (.int .i64 1) := by unfold pathC errV; rw [ho]; rfl
    rw [e1, e2]
    go_enter Tryd.func63, Tryd.ntmps63
    go_wp2_with (go_at_call 108; refine ha.mono ?_; rintro e w' ⟨rfl, rfl⟩)
    go_ret2
    exact ⟨⟨none, 0, rfl, Tx.none _ _ _⟩, Below.refl _ _⟩
  | true =>
    have ho' : (decide (n = 32) && marksB f n) = true := ho
    rw [ho'] at ha
    by_cases hk : 0 ≤ k ∧ k < 32
    · have e1 : pathN f n k = 5 := by unfold pathN; rw [ho, decide_eq_true hk]; rfl
      have e2 : errV (pathC f n k) = .nilIface := by unfold pathC errV; rw [ho, if_pos hk]; rfl
      rw [e1, e2]
      rw [decide_eq_true hk] at hp
      obtain ⟨rfl, hm⟩ := okB_spec ho
      obtain ⟨q, rfl⟩ : ∃ q : Nat, k = (q : Int) := ⟨k.toNat, by omega⟩
      have hq : q < 32 := by omega
      have mk : ∀ w0 : World, (Instr.makeSlice 22 (.int .i64 0) (.int .i64 5)).run Tryd.prog w0 = .ok (.slice (some ⟨w0.heap.size, 0, none⟩) 0 5) (w0.alloc (.cells (zN 5) 9)) := mkN 5 (by decide)
      obtain ⟨i0, hi0, hpp⟩ := Option.map_eq_some_iff.1 infoStr
      simp only [Prod.mk.injEq] at hpp
      obtain ⟨hp0, hp1, hp2⟩ := hpp
      rw [Int.toNat_natCast]
      clear ho ho' hs hn hk e1 e2
      go_enter Tryd.func63, Tryd.ntmps63
      go_wp2_with first
        | (go_at_call 108; refine ha.mono ?_; clear ha; rintro e _ ⟨rfl, hw'⟩; rw [hw']; clear hw')
        | (go_at_call 110; refine hp.mono ?_; clear hp; rintro e _ ⟨rfl, hw'⟩; rw [hw']; clear hw')
      clear mk
      have ow0 := zN_own 5 (by decide) w
      have g0 := below_alloc w (.cells (zN 5) 9)
      have z0 : (w.alloc (.cells (zN 5) 9)).heap.size = w.heap.size + 1 := by simp
      have hTb := hT.below g0
      have hne0 : ∀ ad, a = some ad → ad.block ≠ w.heap.size := by
        intro ad e
        obtain ⟨g, o, h1, h2, _⟩ := hT 0 (by decide)
        rw [h1] at e
        injection e with e
        rw [← e]
        exact Nat.ne_of_lt h2
      generalize w.alloc (.cells (zN 5) 9) = W0 at *
      go_loopw [1, 6, 7] (fun kv pv rv wr => ∃ t M a' c', t ≤ 5 ∧ Hid (M = 32 / 2 ^ t) ∧ rv = .slice a' M c' ∧ Tx wr a' (R f t) M ∧ (∀ ad, a' = some ad → ad.block ≠ w.heap.size) ∧ kv = .int .i64 ((q / 2 ^ t : Nat) : Int) ∧ pv = .slice (some ⟨w.heap.size, 0, none⟩) t 5 ∧ wr.ownsRow w.heap.size 9 1 (.slice (some ⟨w.heap.size, 0, none⟩) t 5) t (strs (pathF f q) t) ∧ Below w.heap.size w wr) (fun _ _ rv _ => lenOf rv)
      case atStart => exact ⟨0, 32, a, c, by decide, rfl, rfl, hTb, hne0, by simp, rfl, ow0, g0⟩
      case round =>
        clear hTb g0 ow0 z0
        obtain ⟨t, M, a', c', ht, hM, rfl, hT', hne, rfl, rfl, ow, gr⟩ := hrel
        by_cases h5 : t < 5
        · obtain ⟨p1, p2, p3⟩ := pw_step ⟨t, h5⟩
          obtain ⟨N, hN⟩ : ∃ N : Nat, Hid (N = 32 / 2 ^ (t + 1)) := ⟨_, rfl⟩
          have hMN : Hid (M = 2 * N) := by unfold Hid; rw [hM.out, hN.out]; exact p1
          have hN16 : N ≤ 16 := by rw [hN.out]; exact p2
          have hN1 : 1 ≤ N := by rw [hN.out]; exact p3
          have hM1 : (1 : Int) < (M : Int) := by have := hMN.out; omega
          have hM32 : M ≤ 32 := by have := hMN.out; omega
          have hjM : oth (q / 2 ^ t) < M := by rw [hM.out]; exact path_lt ⟨q, hq⟩ ⟨t, h5⟩
          have hkk := div_le q t
          have hxr := xor_i64 ⟨q / 2 ^ t, by omega⟩
          have hd2 : Hid (q / 2 ^ t / 2 = q / 2 ^ (t + 1)) := div_pow q t
          obtain ⟨g, o, rfl, hg, hc⟩ := hT' _ hjM
          have hF : Hid (R f t (oth (q / 2 ^ t)) = pathF f q t) := rfl
          rw [hF.out] at hc
          have hF' : Hid (strs (pathF f q) (t + 1) = strs (pathF f q) t ++ [.string (pathF f q t)]) := strs_succ _ _
          have hgG : g ≠ w.heap.size := hne _ rfl
          dsimp only at hxr
          generalize q / 2 ^ t = kk at *
          generalize oth kk = jj at *
          generalize pathF f q t = x at *
          have hjM' : (jj : Int) < (M : Int) := by omega
          have hj0 : (0 : Int) ≤ (jj : Int) := by omega
          obtain ⟨k2, hk2⟩ : ∃ k2 : Nat, k2 = kk / 2 := ⟨_, rfl⟩
          rw [← hk2] at hd2
          have hq1 : (kk : Int).tdiv 2 = (k2 : Int) := by rw [Int.tdiv_eq_ediv_of_nonneg (by omega)]; omega
          have hq2 : (kk : Int) / 2 = (k2 : Int) := by omega
          clear hk2
          have hgr := gr.size
          have ow2 := own_below ow (below_alloc wr (.cells #[.string x] 9)) (own_lt ow)
          clear p1 p2 p3 hF
          go_wp2_with (refine wpList_append_fits _ rfl _ _ _ rfl w.heap.size 9 i0 1 Tryd.underlying22 hi0 hp1 w.heap.size t 5 (strs (pathF f q) t) rfl ow2 ⟨wr.heap.size, 0, none⟩ 1 1 [.string x] rfl rfl (cell_one_new wr _ 9) (fun u hu => by simp at hu; subst hu; rfl) (by omega) ?_; intro w3 ow3 gr3)
          have G3 : Below w.heap.size w w3 := (gr.trans ((below_alloc wr (.cells #[.string x] 9)).mono hgr)).grown gr3 (by simp; omega) (fun j e => by injection e with e; omega)
          have T3 := (hT'.below (below_alloc wr (.cells #[.string x] 9))).grown gr3 hne
          refine (above_any _ M c' N (R f t) w3 hN16 hMN T3 (fun i hi => R_size f hm t i (by omega)) (hK.below G3)).mono ?_
          rintro e w4 ⟨⟨g', cap, rfl, hg', hT4⟩, g4⟩
          go_wp2_with fail
          go_light
          refine ⟨⟨t + 1, N, _, _, by omega, hN, rfl, hT4, ?_, by rw [hd2.out], rfl, ?_, G3.trans (g4.mono G3.size)⟩, ?_⟩
          · intro ad e
            injection e with e
            rw [← e]
            have := own_lt ow3
            exact fun h => by dsimp only at h; omega
          · rw [hF'.out]; exact own_below ow3 g4 (own_lt ow3)
          · have := hMN.out
            simp [lenOf]; omega
        · obtain rfl : t = 5 := by omega
          have hM1 : M = 1 := hM.out
          subst hM1
          go_wp2_with fail
          go_ret2
          exact ⟨⟨_, ⟨_, rfl⟩, own_tx ow⟩, gr⟩
    · have e1 : pathN f n k = 0 := by unfold pathN; rw [ho, decide_eq_false hk]; rfl
      have e2 : errV (pathC f n k) = .iface 30 (.int .i64 2) := by unfold pathC errV; rw [ho, if_neg hk]; rfl
      rw [e1, e2]
      rw [decide_eq_false hk] at hp
      go_enter Tryd.func63, Tryd.ntmps63
      go_wp2_with first
        | (go_at_call 108; refine ha.mono ?_; clear ha; rintro e _ ⟨rfl, hw'⟩; rw [hw']; clear hw')
        | (go_at_call 110; refine hp.mono ?_; clear hp; rintro e _ ⟨rfl, hw'⟩; rw [hw']; clear hw')
      go_ret2
      exact ⟨⟨none, 0, rfl, Tx.none _ _ _⟩, Below.refl _ _⟩
end Go.Proofs.YtgbfjdaelcfnjaaDoor.Tr
