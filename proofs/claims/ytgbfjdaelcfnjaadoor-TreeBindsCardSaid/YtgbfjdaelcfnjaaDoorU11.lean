/-
  Part of the proof of TreeBinds: a call of it returns true, whatever the input, where the two variables that it reads lie as laid.
-/
import Derived.Test.YtgbfjdaelcfnjaaDoorU10
import Derived.Test.YtgbfjdaelcfnjaaDoorA3
namespace Go.Proofs.YtgbfjdaelcfnjaaDoor.Tr
open Go.RowKit Go.Shelf
theorem bare_any (w : World) (n : Int) (hE : EB w) : Calls Tryd.prog 23 #[errV n, .int .i64 n] w fun e w' => e = .returned (.bool true) ∧ Below w.heap.size w w' := by
  unfold errV
  by_cases h : n = 0
  · subst h
    rw [if_pos rfl]
    exact (bare_nil w).mono fun e w' ⟨he, hw⟩ => ⟨he, by rw [hw]; exact Below.refl _ _⟩
  · rw [if_neg h]; exact bare_some w n hE
theorem same_any (a b : Option Addr) (c d : Nat) (f : Nat → ByteArray) (n : Nat) (w : World) (ha : Tx w a f n) (hb : Tx w b f n) (hl : n ≤ 1000) :
    Calls Tryd.prog 42 #[.slice a n c, .slice b n d] w fun e w' => e = .returned (.bool true) ∧ Below w.heap.size w w' := by
  go_enter Tryd.func42, Tryd.ntmps42
  go_wp2_with fail
  go_loopw [5] (fun i wr => ∃ k m : Nat, k ≤ n ∧ i = .int .i64 k ∧ wr = w.drewN m) (fun i _ => n - (intOf i).toNat)
  case atStart => exact ⟨0, 0, by omega, rfl, rfl⟩
  case round =>
    obtain ⟨k, m, hk, rfl, rfl⟩ := hrel
    by_cases hlt : k < n
    · obtain ⟨g, o, rfl, hg, hc⟩ := ha k hlt
      obtain ⟨g', o', rfl, hg', hc'⟩ := hb k hlt
      have hlt' : (k : Int) < (n : Int) := by omega
      generalize f k = x at *
      go_wp2_with fail
      go_quiet (fail)
      go_wp2
      go_light
      exact ⟨⟨k + 1, m + nq, by omega, by go_num, rfl⟩, by simp [intOf]; omega⟩
    · go_wp2_with fail
      go_ret
      exact ⟨rfl, below_drewN (Below.refl _ _) m⟩
section
variable {ops : Array Oper} {Q : Exit → Act → World → Prop} {a : Act} {w : World} {rest : List Oper} {o : Oper}
/-- Texts of a slice, perhaps none, appended to a slice of texts that the call has made. -/
theorem wpl_pushAny (hgd : o.guard = none) (s x : Operand) (ho : o.op = .call { callee := .builtin .append, args := #[s, x], argTypes := #[22, 22] })
    (B g k cap : Nat) (xs : List Value) (hs : a.eval s = .slice (some ⟨g, 0, none⟩) k cap) (hown : w.ownsRow B 9 1 (.slice (some ⟨g, 0, none⟩) k cap) k xs) (sa : Option Addr) (n c : Nat) (f : Nat → ByteArray) (hx : a.eval x = .slice sa n c) (hT : Tx w sa f n) (hnil : sa = none → c = 0) (hk : k ≤ 100) (hn : n ≤ 100) (hbase : B ≤ w.heap.size)
    (h : ∀ g' cap' w', w'.ownsRow B 9 1 (.slice (some ⟨g', 0, none⟩) (k + n) cap') (k + n) (xs ++ strs f n) → w.grownBy w' (some g) → wpList Tryd.prog ops Q rest (a.put o.dst (.slice (some ⟨g', 0, none⟩) (k + n) cap')) w') :
    wpList Tryd.prog ops Q (o :: rest) a w := by
  by_cases hn0 : n = 0
  · subst hn0
    refine wpl_push0 hgd s x ho B g k cap xs hs hown sa c hx hnil (own_cap hown) ?_
    intro w' h1 h2
    have := h g cap w' (by simpa [strs] using h1) h2
    simpa using this
  · refine wpl_pushTx hgd s x ho B k _ xs hs hown sa n c f hx hT (by omega) hk hn hbase ?_
    intro g' cap' w' h1 h2 _
    exact h g' cap' w' h1 h2
end
/-- Two rows of texts as one. -/
def both (f g : Nat → ByteArray) (n : Nat) (i : Nat) : ByteArray := if i < n then f i else g (i - n)
theorem strs_both (f g : Nat → ByteArray) (n m : Nat) : strs f n ++ strs g m = strs (both f g n) (n + m) := by
  unfold strs
  rw [List.range_add, List.map_append, List.map_map]
  congr 1
  · apply List.map_congr_left; intro j hj; have : j < n := by simpa using hj
    simp [both, this]
  · apply List.map_congr_left; intro j _
    have : ¬ n + j < n := by omega
    simp [both, this]
theorem pathF_size (f : Nat → ByteArray) (n : Nat) (k : Int) (i : Nat) (hi : i < pathN f n k) : (pathF f k.toNat i).size ≤ 60 := by
  unfold pathN at hi
  split at hi
  · rename_i h
    simp only [Bool.and_eq_true, decide_eq_true_eq] at h
    obtain ⟨_, hm⟩ := okB_spec h.1
    have h2 := path_lt ⟨k.toNat, by omega⟩ ⟨i, hi⟩
    dsimp only at h2
    have h3 : 32 / 2 ^ i ≤ 32 := Nat.div_le_self _ _
    have := R_size f hm i (oth (k.toNat / 2 ^ i)) (by omega)
    unfold pathF; omega
  · omega
theorem pathN_le (f : Nat → ByteArray) (n : Nat) (k : Int) : pathN f n k ≤ 5 := by unfold pathN; split <;> decide
set_option maxRecDepth 100000 in
set_option maxHeartbeats 2000000 in
theorem law_any (a1 : Option Addr) (n1 c1 : Nat) (f1 : Nat → ByteArray) (k : Int) (root m : ByteArray) (a2 : Option Addr) (n2 c2 : Nat) (f2 : Nat → ByteArray) (w : World)
    (T1 : Tx w a1 f1 n1) (T2 : Tx w a2 f2 n2) (l1 : n1 ≤ maxLen) (l2 : n2 ≤ maxLen) (s1 : ∀ i, i < n1 → (f1 i).size ≤ maxLen) (s2 : ∀ i, i < n2 → (f2 i).size ≤ maxLen) (sr : root.size ≤ maxLen) (sm : m.size ≤ maxLen) (z1 : a1 = none → c1 = 0) (z2 : a2 = none → c2 = 0) (hK : Sm.KB w) (hE : EB w) :
    Calls Tryd.prog 10 #[.slice a1 n1 c1, .int .i64 k, .string root, .string m, .slice a2 n2 c2] w fun e w' => e = .returned (.bool true) ∧ Below w.heap.size w w' := by
  have hl1 := Sm.long_any root w sr
  have hl2 := Sm.long_any m w sm
  have l1' := l1
  have l2' := l2
  unfold maxLen at l1' l2'
  by_cases q0 : 40 < n1
  · have q0' : decide ((40 : Int) < (n1 : Int)) = true := decide_eq_true (by omega)
    go_enter Tryd.func10, Tryd.ntmps10
    go_wp2_with fail
    go_ret
    exact ⟨rfl, Below.refl _ _⟩
  have q0' : decide ((40 : Int) < (n1 : Int)) = false := decide_eq_false (by omega)
  by_cases q1 : 60 < root.size
  · rw [decide_eq_true q1] at hl1
    go_enter Tryd.func10, Tryd.ntmps10
    go_wp2_with (go_at_call 11; refine hl1.mono ?_; rintro e w' ⟨rfl, rfl⟩)
    go_ret
    exact ⟨rfl, Below.refl _ _⟩
  rw [decide_eq_false q1] at hl1
  by_cases q2 : 60 < m.size
  · rw [decide_eq_true q2] at hl2
    go_enter Tryd.func10, Tryd.ntmps10
    go_wp2_with fail
    refine hl1.mono ?_
    rintro e _ ⟨rfl, hw'⟩
    rw [hw']
    clear hl1
    go_wp2_with fail
    refine hl2.mono ?_
    rintro e _ ⟨rfl, hw'⟩
    rw [hw']
    go_wp2_with fail
    go_ret
    exact ⟨rfl, Below.refl _ _⟩
  rw [decide_eq_false q2] at hl2
  by_cases q3 : 10 < n2
  · have q3' : decide ((10 : Int) < (n2 : Int)) = true := decide_eq_true (by omega)
    go_enter Tryd.func10, Tryd.ntmps10
    go_wp2_with fail
    refine hl1.mono ?_
    rintro e _ ⟨rfl, hw'⟩
    rw [hw']
    clear hl1
    go_wp2_with fail
    refine hl2.mono ?_
    rintro e _ ⟨rfl, hw'⟩
    rw [hw']
    go_wp2_with fail
    go_ret
    exact ⟨rfl, Below.refl _ _⟩
  have q3' : decide ((10 : Int) < (n2 : Int)) = false := decide_eq_false (by omega)
  go_enter Tryd.func10, Tryd.ntmps10
  go_wp2_with fail
  refine hl1.mono ?_
  rintro e _ ⟨rfl, hw'⟩
  rw [hw']
  clear hl1 hw'
  go_wp2_with fail
  refine hl2.mono ?_
  rintro e _ ⟨rfl, hw'⟩
  rw [hw']
  clear hl2 hw' q0'
  have g0 := below_alloc w (.cells #[] 9)
  have T1a := T1.below g0
  go_wp2_with first
    | (refine wpl_pushAny rfl _ _ rfl w.heap.size w.heap.size 0 0 [] rfl (own_new w) a1 n1 c1 f1 rfl T1a z1 (by decide) (by omega) (by simp) ?_; clear T1a; intro g cap w1 ow1 gr1; rw [Nat.zero_add, List.nil_append] at ow1; have g1 : Below w.heap.size w w1 := g0.grown gr1 (by simp) (fun k e => by injection e with e; exact Nat.le_of_eq e); have T2a := T2.below g1)
    | (refine wpl_pushAny rfl _ _ rfl w.heap.size g n1 cap _ rfl ow1 a2 n2 c2 f2 rfl T2a z2 (by omega) (by omega) g1.size ?_; clear T2a; intro g' cap' w2 ow2 gr2)
  have g2 : Below w.heap.size w w2 := g1.grown gr2 g1.size (fun k e => by injection e with e; rw [← e]; exact own_ge ow1)
  rw [strs_both] at ow2
  have TA := own_tx ow2
  clear ow1 ow2 gr1 gr2 g0 g1
  obtain ⟨N, hN⟩ : ∃ N, Hid (N = n1 + n2) := ⟨_, rfl⟩
  rw [← hN.out] at TA ⊢
  have hN50 : N ≤ 50 := by rw [hN.out]; omega
  have sA : ∀ i, i < N → (both f1 f2 n1 i).size ≤ maxLen := fun i hi => by
    have := hN.out
    unfold both; split
    · exact s1 i (by omega)
    · exact s2 (i - n1) (by omega)
  clear q3' sr sm l1 l2 l1' l2' q1 q2
  go_loopw [12] (fun i wr => ∃ j : Nat, j ≤ N ∧ i = .int .i64 j ∧ wr = w2 ∧ ∀ q, q < j → (both f1 f2 n1 q).size ≤ 60) (fun i _ => N - (intOf i).toNat)
  case atStart => exact ⟨0, by omega, rfl, rfl, fun q h => absurd h (Nat.not_lt_zero _)⟩
  case round =>
    obtain ⟨j, hj, rfl, hw, hsm⟩ := hrel
    subst hw
    by_cases hlt : j < N
    · obtain ⟨ga, oa, e, hg, hc⟩ := TA j hlt
      obtain ⟨rfl, rfl⟩ : g' = ga ∧ 0 = oa := by injection e with h; injection h with h1 h2; exact ⟨h1, h2⟩
      rw [Nat.zero_add] at hc
      have hsz := sA j hlt
      have hlt' : (j : Int) < (N : Int) := by omega
      have hj0 : (0 : Int) ≤ (j : Int) := by omega
      by_cases hx : 60 < (both f1 f2 n1 j).size
      · generalize both f1 f2 n1 j = x at *
        have hl := Sm.long_any x wr hsz
        rw [decide_eq_true hx] at hl
        go_wp2_with (go_at_call 11; refine hl.mono ?_; clear hl; rintro e _ ⟨rfl, hw'⟩; rw [hw']; clear hw')
        go_ret
        exact ⟨rfl, g2⟩
      · have hs' : Hid (∀ q, q < j + 1 → (both f1 f2 n1 q).size ≤ 60) := fun q hq => by
          by_cases e : q = j
          · rw [e]; omega
          · exact hsm q (by omega)
        clear hsm
        generalize both f1 f2 n1 j = x at *
        have hl := Sm.long_any x wr hsz
        rw [decide_eq_false hx] at hl
        go_wp2_with (go_at_call 11; refine hl.mono ?_; clear hl; rintro e _ ⟨rfl, hw'⟩; rw [hw']; clear hw')
        go_light
        exact ⟨⟨j + 1, by omega, by go_num, by trivial, hs'.out⟩, by simp [intOf]; omega⟩
    · have hj' : j = N := by omega
      subst hj'
      have t1 : ∀ i, i < n1 → (f1 i).size ≤ 60 := fun i hi => by
        have := hsm i (by have := hN.out; omega)
        unfold both at this; rw [if_pos hi] at this; exact this
      have t2 : ∀ i, i < n2 → (f2 i).size ≤ 60 := fun i hi => by
        have := hsm (n1 + i) (by have := hN.out; omega)
        unfold both at this; rw [if_neg (by omega), show n1 + i - n1 = i from by omega] at this; exact this
      clear hsm sA TA hj hlt s1 s2
      have n1l : n1 ≤ 40 := by omega
      have n2l : n2 ≤ 40 := by omega
      clear q0 q3
      go_wp2_with fail
      refine (Sm.new_any _).mono ?_
      rintro e w3 ⟨rb, rfl, hrb, hR3, g3⟩
      have R3 : RB w3 rb := hR3
      have b3 := g2.trans (g3.mono g2.size)
      clear hR3 g3 g2 hrb
      go_wp2_with fail
      refine (rroot_any rb a1 n1 c1 f1 _ R3 (T1.below b3) n1l).mono ?_
      rintro e w4 ⟨rfl, g4⟩
      have b4 := b3.trans (g4.mono b3.size)
      have R4 := R3.below g4
      clear R3 g4 b3
      go_wp2_with fail
      refine (root_any a1 n1 c1 f1 _ (T1.below b4) n1l t1 (hK.below b4)).mono ?_
      rintro e w5 ⟨rfl, g5⟩
      have b5 := b4.trans (g5.mono b4.size)
      have R5 := R4.below g5
      clear R4 g5 b4
      generalize rootT f1 n1 = A
      go_wp2_with fail
      refine (bare_any _ (rootC f1 n1) (hE.below b5)).mono ?_
      rintro e w6 ⟨rfl, g6⟩
      have b6 := b5.trans (g6.mono b5.size)
      have R6 := R5.below g6
      clear R5 g6 b5
      go_wp2_with fail
      refine (rpath_any rb a1 n1 c1 f1 k _ R6 (T1.below b6) n1l).mono ?_
      rintro e w7 ⟨⟨pa, pc, rfl, Tp⟩, g7⟩
      have b7 := b6.trans (g7.mono b6.size)
      have R7 := R6.below g7
      clear R6 g7 b6
      go_wp2_with fail
      refine (path_any a1 n1 c1 f1 k _ (T1.below b7) n1l t1 (hK.below b7)).mono ?_
      rintro e w8 ⟨⟨qa, qc, rfl, Tq⟩, g8⟩
      have b8 := b7.trans (g8.mono b7.size)
      have R8 := R7.below g8
      have Tp8 := Tp.below g8
      clear R7 g8 b7 Tp
      have hps := pathF_size f1 n1 k
      have hpl := pathN_le f1 n1 k
      go_wp2_with fail
      refine (bare_any _ (pathC f1 n1 k) (hE.below b8)).mono ?_
      rintro e w9 ⟨rfl, g9⟩
      have b9 := b8.trans (g9.mono b8.size)
      have R9 := R8.below g9
      have Tp9 := Tp8.below g9
      have Tq9 := Tq.below g9
      clear R8 g9 b8 Tp8 Tq
      generalize pathN f1 n1 k = PN at *
      generalize pathF f1 k.toNat = PF at *
      go_wp2_with fail
      refine (same_any qa pa qc pc PF PN _ Tq9 Tp9 (by omega)).mono ?_
      rintro e wA ⟨rfl, gA⟩
      have bA := b9.trans (gA.mono b9.size)
      have RA := R9.below gA
      have TpA := Tp9.below gA
      clear R9 gA b9 Tp9 Tq9
      go_wp2_with fail
      refine (verify_any root m k a2 n2 c2 f2 _ (T2.below bA) n2l t2 (hK.below bA)).mono ?_
      rintro e wB ⟨rfl, gB⟩
      have bB := bA.trans (gB.mono bA.size)
      have RB' := RA.below gB
      have TpB := TpA.below gB
      clear RA gB bA TpA
      go_wp2_with fail
      refine (rverify_any rb root m k a2 n2 c2 f2 _ RB' (T2.below bB) n2l).mono ?_
      rintro e wC ⟨rfl, gC⟩
      have bC := bB.trans (gC.mono bB.size)
      have RC := RB'.below gC
      have TpC := TpB.below gC
      clear RB' gC bB TpB
      generalize verB root m k f2 n2 = V1
      have eV1 : (V1 == V1) = true := by simp
      go_wp2_with fail
      refine (verify_any A m k pa PN pc PF _ TpC (by omega) hps (hK.below bC)).mono ?_
      rintro e wD ⟨rfl, gD⟩
      have bD := bC.trans (gD.mono bC.size)
      have RD := RC.below gD
      have TpD := TpC.below gD
      clear RC gD bC TpC
      go_wp2_with fail
      refine (rverify_any rb A m k pa PN pc PF _ RD TpD (by omega)).mono ?_
      rintro e wE ⟨rfl, gE⟩
      have bE := bD.trans (gE.mono bD.size)
      generalize verB A m k PF PN = V2
      have eV2 : (V2 == V2) = true := by simp
      go_wp2_with fail
      go_ret
      exact ⟨rfl, bE⟩
end Go.Proofs.YtgbfjdaelcfnjaaDoor.Tr
