/-
  Part of the proof of TreeBinds: the code's bind, isPlace, areMarks and pairs are walked.
  Part of the proof of TreeBinds: a row is gone through by two and two; the row above it.
-/
import Derived.Test.YtkapkphhceknfaaGreatDoorB12
import Derived.Test.YtkapkphhceknfaaGreatDoorB13
import Derived.Test.YtkapkphhceknfaaGreatDoorB03
namespace Go.Proofs.YtkapkphhceknfaaGreatDoor.Tr
open Go.RowKit Go.Shelf
theorem mixed : Tryz.prog.follows .mixedOrders = true := by kernel_rfl
/-- A slice of texts reads as the first n of f. -/
def Tx (w : World) (a : Option Addr) (f : Nat → ByteArray) (n : Nat) : Prop :=
  ∀ i, i < n → ∃ g o, a = some ⟨g, o, none⟩ ∧ g < w.heap.size ∧ w.cell? ⟨g, o + i, none⟩ = some (.string (f i))
theorem Tx.below {w w' : World} {a : Option Addr} {f : Nat → ByteArray} {n : Nat} (h : Tx w a f n) (hb : Below w.heap.size w w') : Tx w' a f n := fun i hi => by
  obtain ⟨g, o, h1, h2, h3⟩ := h i hi
  exact ⟨g, o, h1, Nat.lt_of_lt_of_le h2 hb.size, by rw [hb.cell h2]; exact h3⟩
theorem Tx.drew {w : World} {a : Option Addr} {f : Nat → ByteArray} {n : Nat} (h : Tx w a f n) : Tx w.drew a f n := h
theorem Tx.drewN {w : World} {a : Option Addr} {f : Nat → ByteArray} {n : Nat} (h : Tx w a f n) (k : Nat) : Tx (w.drewN k) a f n := h
theorem Tx.congr {w : World} {a : Option Addr} {f g : Nat → ByteArray} {n : Nat} (h : Tx w a f n) (e : ∀ i, i < n → f i = g i) : Tx w a g n := fun i hi => by
  rw [← e i hi]; exact h i hi
theorem parts2 {w : World} {b : Nat} {T : TypeId} {x y : ByteArray} (h : Blk w b #[.string x, .string y] T) : Sm.Parts w (some ⟨b, 0, none⟩) 2 [x, y] := by
  refine ⟨rfl, fun j hj => ?_⟩
  have hc := h.cell j
  match j, hj with
  | 0, _ => exact ⟨b, 0, x, rfl, h.lt, hc, rfl⟩
  | 1, _ => exact ⟨b, 0, y, rfl, h.lt, hc, rfl⟩
theorem all2 {x y : ByteArray} (hx : x.size ≤ 300) (hy : y.size ≤ 300) : ∀ p ∈ [x, y], p.size ≤ 300 := by
  intro p hp
  simp only [List.mem_cons, List.not_mem_nil, or_false] at hp
  rcases hp with rfl | rfl <;> assumption
theorem mark2 {k : Int} (hk : k = 117) {b : Nat} {T : TypeId} {x y : ByteArray} {w : World} (h : Blk w b #[.string x, .string y] T) (hx : x.size ≤ 300) (hy : y.size ≤ 300) (hK : Sm.KB w) :
    Calls Tryz.prog 56 #[.int .u8 k, .slice (some ⟨b, 0, none⟩) 2 2] w fun e w' => e = .returned (.string (mk2 x y)) ∧ Below w.heap.size w w' := by
  subst hk; exact Sm.mark_any 117 _ 2 2 _ w (parts2 h) (by decide) (all2 hx hy) hK
theorem below_alloc (w : World) (o : Obj) : Below w.heap.size w (w.alloc o) := (Below.refl _ _).alloc (Nat.le_refl _) o
set_option maxRecDepth 100000 in
set_option maxHeartbeats 400000 in
theorem bind_any (x y : ByteArray) (w : World) (hx : x.size ≤ 300) (hy : y.size ≤ 300) (hK : Sm.KB w) :
    Calls Tryz.prog 107 #[.string x, .string y] w fun e w' => e = .returned (.string (mk2 x y)) ∧ Below w.heap.size w w' := by
  go_enter Tryz.func107, Tryz.ntmps107
  go_wp2_with fail
  have g := below_alloc w (.cells #[.string x, .string y] 9)
  refine (mark2 rfl (Blk.new w _ 9) hx hy (hK.below g)).mono ?_
  rintro e w2 ⟨rfl, g2⟩
  go_wp2
  go_ret
  exact ⟨rfl, g.trans (g2.mono g.size)⟩
/-- Each of them is a mark. -/
def marksB (f : Nat → ByteArray) (n : Nat) : Bool := (List.range n).all fun i => decide ((f i).size = 16)
theorem marksB_spec {f : Nat → ByteArray} {n : Nat} : marksB f n = true ↔ ∀ i, i < n → (f i).size = 16 := by
  unfold marksB; simp
theorem marksB_not {f : Nat → ByteArray} {n i : Nat} (hi : i < n) (h : ¬ (f i).size = 16) : marksB f n = false := by
  cases e : marksB f n with
  | false => rfl
  | true => exact absurd (marksB_spec.1 e i hi) h
theorem are1_any (s : ByteArray) (w : World) (_hs : s.size ≤ 60) : Calls Tryz.prog 105 #[.string s] w fun e w' => e = .returned (.bool (decide (s.size ≠ 16))) ∧ w' = w := by
  go_enter Tryz.func105, Tryz.ntmps105
  go_wp2
  go_ret
  refine ⟨?_, rfl⟩
  congr 2
  by_cases h : s.size = 16
  · simp [h]
  · simp [h]; omega
set_option maxHeartbeats 400000 in
theorem indexFunc_any (a : Option Addr) (n cap : Nat) (f : Nat → ByteArray) (w : World) (h : Tx w a f n) (hl : n ≤ 40) (hs : ∀ i, i < n → (f i).size ≤ 60) :
    Calls Tryz.prog 34 #[.slice a n cap, .func (.func 105) #[] #[]] w fun e w' => (∃ j : Int, e = .returned (.int .i64 j) ∧ decide (0 ≤ j) = !marksB f n) ∧ w' = w := by
  go_enter Tryz.func34, Tryz.ntmps34
  go_wp2_with fail
  go_loop [8] (fun i => ∃ k : Nat, k ≤ n ∧ i = .int .i64 k ∧ ∀ j, j < k → (f j).size = 16) (fun i => n - (intOf i).toNat)
  case atStart => exact ⟨0, by omega, rfl, fun j hj => absurd hj (Nat.not_lt_zero _)⟩
  case round =>
    obtain ⟨k, hk, rfl, hp⟩ := hrel
    by_cases hlt : k < n
    · obtain ⟨g, o, rfl, hg, hc⟩ := h k hlt
      have hsz := hs k hlt
      have hlt' : (k : Int) < (n : Int) := by omega
      by_cases hx : (f k).size = 16
      · have dx : decide ((f k).size ≠ 16) = false := by simp [hx]
        have hp' : ∀ j, j < k + 1 → (f j).size = 16 := fun j hj => by
          by_cases e : j = k
          · rw [e]; exact hx
          · exact hp j (by omega)
        have HP : Hid (∀ j, j < k + 1 → (f j).size = 16) := hp'
        clear hp hp' hx
        generalize f k = x at *
        go_wp2_with (go_at_call 105; refine (are1_any _ _ hsz).mono ?_; rintro e w' ⟨rfl, rfl⟩; rw [dx])
        go_round
        case rel => exact ⟨k + 1, by omega, by go_num, HP.out⟩
        case measure => simp [intOf]; omega
      · have dx : decide ((f k).size ≠ 16) = true := by simp [hx]
        have hm : Hid (marksB f n = false) := marksB_not hlt hx
        clear hp hx
        generalize f k = x at *
        go_wp2_with (go_at_call 105; refine (are1_any _ _ hsz).mono ?_; rintro e w' ⟨rfl, rfl⟩; rw [dx])
        go_ret
        refine ⟨⟨k, rfl, ?_⟩, rfl⟩
        rw [hm.out]; simp
    · have hk' : k = n := by omega
      subst hk'
      have hm : Hid (marksB f k = true) := marksB_spec.2 hp
      clear hp
      go_wp2_with fail
      go_ret
      refine ⟨⟨-1, rfl, ?_⟩, rfl⟩
      rw [hm.out]; decide
theorem containsFunc_any (a : Option Addr) (n cap : Nat) (f : Nat → ByteArray) (w : World) (h : Tx w a f n) (hl : n ≤ 40) (hs : ∀ i, i < n → (f i).size ≤ 60) :
    Calls Tryz.prog 22 #[.slice a n cap, .func (.func 105) #[] #[]] w fun e w' => e = .returned (.bool (!marksB f n)) ∧ w' = w := by
  go_enter Tryz.func22, Tryz.ntmps22
  go_wp2_with (go_at_call 34; refine (indexFunc_any _ _ _ _ _ h hl hs).mono ?_; rintro e w' ⟨⟨j, rfl, hj⟩, rfl⟩)
  go_ret
  refine ⟨?_, rfl⟩
  rw [← hj]; rfl
theorem are_any (a : Option Addr) (n cap : Nat) (f : Nat → ByteArray) (c : Nat) (w : World) (h : Tx w a f n) (hl : n ≤ 40) (hs : ∀ i, i < n → (f i).size ≤ 60) (hc : c ≤ 40) :
    Calls Tryz.prog 90 #[.slice a n cap, .int .i64 (c : Int)] w fun e w' => e = .returned (.bool (decide (n = c) && marksB f n)) ∧ w' = w := by
  by_cases hn : n = c
  · subst hn
    go_enter Tryz.func90, Tryz.ntmps90
    go_wp2_with (go_at_call 22; refine (containsFunc_any _ _ _ _ _ h hl hs).mono ?_; rintro e w' ⟨rfl, rfl⟩)
    go_ret
    refine ⟨?_, rfl⟩
    simp
  · have d : ((n : Int) == (c : Int)) = false := by simp; omega
    go_enter Tryz.func90, Tryz.ntmps90
    go_wp2
    go_ret
    refine ⟨?_, rfl⟩
    simp [hn]
theorem pairs_any (v : Value) (w : World) (hv : v.oneCell' = true) : Calls Tryz.prog 106 #[v] w fun e w' => e = .returned (.func (.func 119) #[] #[.pointer (some ⟨w.heap.size, 0, none⟩)]) ∧ w' = w.alloc (.cells #[v] 23) := by
  go_enter Tryz.func106, Tryz.ntmps106
  go_wp2
  go_ret
  exact ⟨rfl, rfl⟩
end Go.Proofs.YtkapkphhceknfaaGreatDoor.Tr
namespace Go.Proofs.YtkapkphhceknfaaGreatDoor.Tr
open Go.RowKit Go.Shelf
attribute [local go_sem] Oper.semAt_some
theorem drewN_ind (J : World → Prop) (h : ∀ W, J W → J W.drew) (W : World) (h0 : J W) (k : Nat) : J (W.drewN k) := by
  induction k with
  | zero => exact h0
  | succ k ih => exact h _ ih
set_option maxRecDepth 100000 in
set_option maxHeartbeats 1000000 in
theorem pairs_gives (n Bp : Nat) (_hn : 1 ≤ n) (a : Option Addr) (M c N : Nat) (hM : Hid (M = 2 * N)) (f : Nat → ByteArray) (hN : N ≤ 16) (I : Nat → World → Prop) (hI : ∀ i W, I i W → W.cell? ⟨Bp, 0, none⟩ = some (.slice a M c) ∧ Tx W a f M) :
    Gives Fence.wide n Tryz.prog 119 #[.pointer (some ⟨Bp, 0, none⟩)] (fun i => #[.string (f (2 * i)), .string (f (2 * i + 1))]) N I := by
  intro l J W hJI hJd hY h0
  refine callsIn_of_wp Tryz.func119 rfl trivial ?_ rfl
  simp only [Tryz.ntmps119, List.size_toArray, List.length_cons, List.length_nil, Nat.reduceAdd, Nat.reduceSub, Array.replicate_succ, Array.replicate_zero, List.push_toArray, List.append_toArray, List.nil_append, List.cons_append]
  gi_wp2
  gi_loopw [3] (fun p wr => ∃ i : Nat, i ≤ N ∧ p = .int .i64 (2 * (i : Int) + 1) ∧ J i wr) (fun p _ => (2 * (N : Int) + 1 - intOf p).toNat)
  case atStart => exact ⟨0, by omega, by simp, h0⟩
  case round =>
    obtain ⟨i, hi, rfl, hJ⟩ := hrel
    obtain ⟨c0, hT⟩ := hI i wr (hJI i wr hJ)
    by_cases hlt : i < N
    · obtain ⟨u, hu⟩ : ∃ u : Nat, u = 2 * i := ⟨_, rfl⟩
      obtain ⟨t, ht⟩ : ∃ t : Nat, t = 2 * i + 1 := ⟨_, rfl⟩
      have hMo := hM.out
      have e1 : 2 * (i : Int) + 1 = (t : Int) := by omega
      have htu : (t : Int) - 1 = (u : Int) := by omega
      have htM : (t : Int) < (M : Int) := by omega
      have huM : (u : Int) < (M : Int) := by omega
      have hM32 : M ≤ 32 := by omega
      have e2 : Hid ((t : Int) + 2 = 2 * ((i + 1 : Nat) : Int) + 1) := by unfold Hid; omega
      have e3 : Hid (t ≤ 2 * N) := by unfold Hid; omega
      obtain ⟨g, o, rfl, hg, cu⟩ := hT u (by omega)
      obtain ⟨g', o', hgo, _, ct⟩ := hT t (by omega)
      obtain ⟨rfl, rfl⟩ : g = g' ∧ o = o' := by injection hgo with h; injection h with h1 h2; exact ⟨h1, h2⟩
      have hY' := fun k => hY i (wr.drewN k) hlt (drewN_ind (J i) (hJd i) wr hJ k)
      have ht' : t = u + 1 := by omega
      simp only [← hu, ← ht'] at hY'
      rw [e1]
      generalize f u = x at *
      generalize f t = y at *
      clear hT hY hgo hg hI hJI h0 e1
      have hu0 : (0 : Int) ≤ (u : Int) := by omega
      have ht0 : (0 : Int) ≤ (t : Int) := by omega
      clear hu ht hMo ht'
      gi_wp2
      refine regIn_head 10 12 (fun w' => ∃ n, w' = wr.drewN n) wide_none mixed rfl (by kernel_rfl) (by kernel_rfl) ⟨1, rfl⟩ ?_
      simp only [List.take_succ_cons, List.take_zero]
      repeat (go_big_quiet_step (fail))
      refine wpQuiet_nil ?_
      rintro w' ⟨k, rfl⟩
      obtain ⟨fn, tmps, assign, body, hy, hR⟩ := hY' k
      refine regIn_one 10 rfl (by kernel_rfl) (by kernel_rfl) fun K hK => ?_
      refine opIn_round wide_none (fun c => by simp) 20 rfl l fn tmps assign body (by go_simp) hR ?_
      rintro e w' ⟨rfl, hJ3⟩
      refine ⟨_, rfl, hK _ _ ?_⟩
      clear hK K
      refine regIn_one 11 rfl (by kernel_rfl) (by kernel_rfl) fun K hK => ?_
      refine opIn_value wide_none (fun c => by simp) 21 rfl (.bool false) (by go_simp) (hK _ _ ?_)
      clear hK K
      refine regIn_end (by kernel_rfl) ?_
      simp only [Act.put, List.setIfInBounds_toArray, List.set_cons_succ, List.set_cons_zero]
      gi_wp2
      go_light
      exact ⟨⟨i + 1, by omega, congrArg (Value.int .i64) e2.out, hJ3⟩, by have := e3.out; simp [intOf]; omega⟩
    · obtain rfl : i = N := by omega
      have hMo := hM.out
      have d : decide (2 * (i : Int) + 1 < (M : Int)) = false := decide_eq_false (by omega)
      clear hMo
      gi_wp2
      go_end0
      exact ⟨⟨_, rfl⟩, hJ⟩
end Go.Proofs.YtkapkphhceknfaaGreatDoor.Tr
