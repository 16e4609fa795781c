/-
  Part of the proof of TreeBinds: the code's bind, isPlace, areMarks and pairs are walked.
-/
import Derived.Test.YtgbfjdaelcfnjaaDoorU1
import Derived.Test.YtgbfjdaelcfnjaaDoorU2
import Derived.Test.YtgbfjdaelcfnjaaDoorRow
namespace Go.Proofs.YtgbfjdaelcfnjaaDoor.Tr
open Go.RowKit Go.Shelf
theorem mixed : Tryd.prog.follows .mixedOrders = true := by kernel_rfl
/-- A slice of texts reads as the first n of f. -/
def Tx (w : World) (a : Option Addr) (f : Nat → ByteArray) (n : Nat) : Prop :=
  ∀ i, i < n → ∃ g o, a = some ⟨g, o, none⟩ ∧ g < w.heap.size ∧ w.cell? ⟨g, o + i, none⟩ = some (.string (f i))
theorem Tx.below {w w' : World} {a : Option Addr} {f : Nat → ByteArray} {n : Nat} (h : Tx w a f n) (hb : Below w.heap.size w w') : Tx w' a f n := fun i hi => by
  obtain ⟨g, o, h1, h2, h3⟩ := h i hi
  exact ⟨g, o, h1, Nat.lt_of_lt_of_le h2 hb.size, by rw [hb.cell h2]; exact h3⟩
theorem Tx.drew {w : World} {a : Option Addr} {f : Nat → ByteArray} {n : Nat} (h : Tx w a f n) : Tx w.drew a f n := h
theorem Tx.drewN {w : World} {a : Option Addr} {f : Nat → ByteArray} {n : Nat} (h : Tx w a f n) (k : Nat) : Tx (w.drewN k) a f n := h
theorem Tx.congr {w : World} {a : Option Addr} {f g : Nat → ByteArray} {n : Nat} (h : Tx w a f n) (e : ∀ i, i < n → f i = g i) : Tx w a g n := fun i hi => by
  rw [← e i hi]; exact h i hi
theorem parts2 {w : World} {b : Nat} {T : TypeId} {x y : ByteArray} (h : Blk w b #[.string x, .string y] T) : Sm.Parts w (some ⟨b, 0, none⟩) 2 [x, y] := by
  refine ⟨rfl, fun j hj => ?_⟩
  have hc := h.cell j
  match j, hj with
  | 0, _ => exact ⟨b, 0, x, rfl, h.lt, hc, rfl⟩
  | 1, _ => exact ⟨b, 0, y, rfl, h.lt, hc, rfl⟩
theorem all2 {x y : ByteArray} (hx : x.size ≤ 300) (hy : y.size ≤ 300) : ∀ p ∈ [x, y], p.size ≤ 300 := by
  intro p hp
  simp only [List.mem_cons, List.not_mem_nil, or_false] at hp
  rcases hp with rfl | rfl <;> assumption
theorem mark2 {k : Int} (hk : k = 117) {b : Nat} {T : TypeId} {x y : ByteArray} {w : World} (h : Blk w b #[.string x, .string y] T) (hx : x.size ≤ 300) (hy : y.size ≤ 300) (hK : Sm.KB w) :
    Calls Tryd.prog 19 #[.int .u8 k, .slice (some ⟨b, 0, none⟩) 2 2] w fun e w' => e = .returned (.string (mk2 x y)) ∧ Below w.heap.size w w' := by
  subst hk; exact Sm.mark_any 117 _ 2 2 _ w (parts2 h) (by decide) (all2 hx hy) hK
/-- The reference's own numbers, in their block. -/
def RB (w : World) (rb : Nat) : Prop := Blk w rb (tab 72 (Sm.rK 64)) 95
theorem RB.below {w w' : World} {rb : Nat} (h : RB w rb) (hb : Below w.heap.size w w') : RB w' rb := Blk.below h hb h.lt
theorem rmark2 (rb : Nat) {k : Int} (hk : k = 117) {b : Nat} {T : TypeId} {x y : ByteArray} {w : World} (hR : RB w rb) (h : Blk w b #[.string x, .string y] T) (hx : x.size ≤ 300) (hy : y.size ≤ 300) :
    Calls Tryd.prog 20 #[.pointer (some ⟨rb, 0, none⟩), .int .u8 k, .slice (some ⟨b, 0, none⟩) 2 2] w fun e w' => e = .returned (.string (mk2 x y)) ∧ Below w.heap.size w w' := by
  subst hk; exact Sm.rmark_any rb 117 _ 2 2 _ w hR (parts2 h) (by decide) (all2 hx hy)
theorem below_alloc (w : World) (o : Obj) : Below w.heap.size w (w.alloc o) := (Below.refl _ _).alloc (Nat.le_refl _) o
set_option maxRecDepth 100000 in
set_option maxHeartbeats 400000 in
theorem bind_any (x y : ByteArray) (w : World) (hx : x.size ≤ 300) (hy : y.size ≤ 300) (hK : Sm.KB w) :
    Calls Tryd.prog 111 #[.string x, .string y] w fun e w' => e = .returned (.string (mk2 x y)) ∧ Below w.heap.size w w' := by
  go_enter Tryd.func111, Tryd.ntmps111
  go_wp2_with fail
  have g := below_alloc w (.cells #[.string x, .string y] 9)
  refine (mark2 rfl (Blk.new w _ 9) hx hy (hK.below g)).mono ?_
  rintro e w2 ⟨rfl, g2⟩
  go_wp2
  go_ret
  exact ⟨rfl, g.trans (g2.mono g.size)⟩
theorem isPlace_any (k : Int) (w : World) : Calls Tryd.prog 110 #[.int .i64 k] w fun e w' => e = .returned (.bool (decide (0 ≤ k ∧ k < 32))) ∧ w' = w := by
  by_cases h : 0 ≤ k
  · go_enter Tryd.func110, Tryd.ntmps110
    go_wp2
    go_ret
    refine ⟨?_, rfl⟩
    simp [h]
  · have d : decide ((0 : Int) ≤ k) = false := decide_eq_false h
    go_enter Tryd.func110, Tryd.ntmps110
    go_wp2
    go_ret
    refine ⟨?_, rfl⟩
    simp
/-- Each of them is a mark. -/
def marksB (f : Nat → ByteArray) (n : Nat) : Bool := (List.range n).all fun i => decide ((f i).size = 16)
theorem marksB_spec {f : Nat → ByteArray} {n : Nat} : marksB f n = true ↔ ∀ i, i < n → (f i).size = 16 := by
  unfold marksB; simp
theorem marksB_not {f : Nat → ByteArray} {n i : Nat} (hi : i < n) (h : ¬ (f i).size = 16) : marksB f n = false := by
  cases e : marksB f n with
  | false => rfl
  | true => exact absurd (marksB_spec.1 e i hi) h
theorem are1_any (s : ByteArray) (w : World) (_hs : s.size ≤ 60) : Calls Tryd.prog 129 #[.string s] w fun e w' => e = .returned (.bool (decide (s.size ≠ 16))) ∧ w' = w := by
  go_enter Tryd.func129, Tryd.ntmps129
  go_wp2
  go_ret
  refine ⟨?_, rfl⟩
  congr 2
  by_cases h : s.size = 16
  · simp [h]
  · simp [h]; omega
set_option maxHeartbeats 400000 in
theorem indexFunc_any (a : Option Addr) (n cap : Nat) (f : Nat → ByteArray) (w : World) (h : Tx w a f n) (hl : n ≤ 40) (hs : ∀ i, i < n → (f i).size ≤ 60) :
    Calls Tryd.prog 125 #[.slice a n cap, .func (.func 129) #[] #[]] w fun e w' => (∃ j : Int, e = .returned (.int .i64 j) ∧ decide (0 ≤ j) = !marksB f n) ∧ w' = w := by
  go_enter Tryd.func125, Tryd.ntmps125
  go_wp2_with fail
  go_loop [8] (fun i => ∃ k : Nat, k ≤ n ∧ i = .int .i64 k ∧ ∀ j, j < k → (f j).size = 16) (fun i => n - (intOf i).toNat)
  case atStart => exact ⟨0, by omega, rfl, fun j hj => absurd hj (Nat.not_lt_zero _)⟩
  case round =>
    obtain ⟨k, hk, rfl, hp⟩ := hrel
    by_cases hlt : k < n
    · obtain ⟨g, o, rfl, hg, hc⟩ := h k hlt
      have hsz := hs k hlt
      have hlt' : (k : Int) < (n : Int) := by omega
      by_cases hx : (f k).size = 16
      · have dx : decide ((f k).size ≠ 16) = false := by simp [hx]
        have hp' : ∀ j, j < k + 1 → (f j).size = 16 := fun j hj => by
          by_cases e : j = k
          · rw [e]; exact hx
          · exact hp j (by omega)
        have HP : Hid (∀ j, j < k + 1 → (f j).size = 16) := hp'
        clear hp hp' hx
        generalize f k = x at *
        go_wp2_with (go_at_call 129; refine (are1_any _ _ hsz).mono ?_; rintro e w' ⟨rfl, rfl⟩; rw [dx])
        go_round
        case rel => exact ⟨k + 1, by omega, by go_num, HP.out⟩
        case measure => simp [intOf]; omega
      · have dx : decide ((f k).size ≠ 16) = true := by simp [hx]
        have hm : Hid (marksB f n = false) := marksB_not hlt hx
        clear hp hx
        generalize f k = x at *
        go_wp2_with (go_at_call 129; refine (are1_any _ _ hsz).mono ?_; rintro e w' ⟨rfl, rfl⟩; rw [dx])
        go_ret
        refine ⟨⟨k, rfl, ?_⟩, rfl⟩
        rw [hm.out]; simp
    · have hk' : k = n := by omega
      subst hk'
      have hm : Hid (marksB f k = true) := marksB_spec.2 hp
      clear hp
      go_wp2_with fail
      go_ret
      refine ⟨⟨-1, rfl, ?_⟩, rfl⟩
      rw [hm.out]; decide
theorem containsFunc_any (a : Option Addr) (n cap : Nat) (f : Nat → ByteArray) (w : World) (h : Tx w a f n) (hl : n ≤ 40) (hs : ∀ i, i < n → (f i).size ≤ 60) :
    Calls Tryd.prog 95 #[.slice a n cap, .func (.func 129) #[] #[]] w fun e w' => e = .returned (.bool (!marksB f n)) ∧ w' = w := by
  go_enter Tryd.func95, Tryd.ntmps95
  go_wp2_with (go_at_call 125; refine (indexFunc_any _ _ _ _ _ h hl hs).mono ?_; rintro e w' ⟨⟨j, rfl, hj⟩, rfl⟩)
  go_ret
  refine ⟨?_, rfl⟩
  rw [← hj]; rfl
theorem are_any (a : Option Addr) (n cap : Nat) (f : Nat → ByteArray) (c : Nat) (w : World) (h : Tx w a f n) (hl : n ≤ 40) (hs : ∀ i, i < n → (f i).size ≤ 60) (hc : c ≤ 40) :
    Calls Tryd.prog 108 #[.slice a n cap, .int .i64 (c : Int)] w fun e w' => e = .returned (.bool (decide (n = c) && marksB f n)) ∧ w' = w := by
  by_cases hn : n = c
  · subst hn
    go_enter Tryd.func108, Tryd.ntmps108
    go_wp2_with (go_at_call 95; refine (containsFunc_any _ _ _ _ _ h hl hs).mono ?_; rintro e w' ⟨rfl, rfl⟩)
    go_ret
    refine ⟨?_, rfl⟩
    simp
  · have d : ((n : Int) == (c : Int)) = false := by simp; omega
    go_enter Tryd.func108, Tryd.ntmps108
    go_wp2
    go_ret
    refine ⟨?_, rfl⟩
    simp [hn]
theorem pairs_any (v : Value) (w : World) (hv : v.oneCell' = true) : Calls Tryd.prog 130 #[v] w fun e w' => e = .returned (.func (.func 143) #[] #[.pointer (some ⟨w.heap.size, 0, none⟩)]) ∧ w' = w.alloc (.cells #[v] 22) := by
  go_enter Tryd.func130, Tryd.ntmps130
  go_wp2
  go_ret
  exact ⟨rfl, rfl⟩
end Go.Proofs.YtgbfjdaelcfnjaaDoor.Tr
