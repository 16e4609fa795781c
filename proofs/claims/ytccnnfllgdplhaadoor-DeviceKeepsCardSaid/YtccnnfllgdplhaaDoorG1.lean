/-
  Part of the proof: the reference's device in memory; in, zeros, spent, Fuse are walked.
-/
import Derived.Test.YtccnnfllgdplhaaDoorF4
namespace Go.Proofs.YtccnnfllgdplhaaDoor
open Go.RowKit
def atL (W : List (Nat × (Nat → UInt8))) : List Value := W.map fun p => .int .i64 (p.1 : Int)
def whL (W : List (Nat × (Nat → UInt8))) : List Value := W.map fun p => .string (sb 256 p.2)
def suL (S : Nat → Nat → UInt8) : List Value := (imgL S).map Value.string
/-- The reference's device lies at block r; all that is its own lies in O. -/
structure RDev (w : World) (O : Nat → Prop) (r : Nat) (S : Nat → Nat → UInt8) (W : List (Nat × (Nat → UInt8))) (F : Int) (a b c : Value) : Prop where
  blk : Blk w r #[a, b, c, .int .i64 F] 121
  sure : w.ownsRow 0 9 1 a 66 (suL S)
  ats : w.ownsRow 0 3 1 b W.length (atL W)
  whats : w.ownsRow 0 9 1 c W.length (whL W)
  own : O r
  oa : ∀ g, a.ownBlock = some g → O g ∧ g ≠ r
  ob : ∀ g, b.ownBlock = some g → O g ∧ g ≠ r
  oc : ∀ g, c.ownBlock = some g → O g ∧ g ≠ r
  ab : ∀ g, a.ownBlock = some g → b.ownBlock ≠ some g
  ac : ∀ g, a.ownBlock = some g → c.ownBlock ≠ some g
  bc : ∀ g, b.ownBlock = some g → c.ownBlock ≠ some g
  at' : ∀ p ∈ W, p.1 < 66
  bot : -1 ≤ F
  top : F ≤ 9223372036854775807
section
variable {w w' : World} {O P : Nat → Prop} {r : Nat} {S S' : Nat → Nat → UInt8} {W W' : List (Nat × (Nat → UInt8))} {F F' : Int} {a b c : Value}
theorem RDev.chg (h : RDev w O r S W F a b c) (hc : Chg w w' P) (hd : ∀ k, O k → ¬ P k) : RDev w' O r S W F a b c :=
  ⟨h.blk.chg hc (hd _ h.own), ownsRow_same h.sure fun g hg => hc.block g (ownsRow_lt h.sure g hg).2 (hd g (h.oa g hg).1), ownsRow_same h.ats fun g hg => hc.block g (ownsRow_lt h.ats g hg).2 (hd g (h.ob g hg).1), ownsRow_same h.whats fun g hg => hc.block g (ownsRow_lt h.whats g hg).2 (hd g (h.oc g hg).1), h.own, h.oa, h.ob, h.oc, h.ab, h.ac, h.bc, h.at', h.bot, h.top⟩
theorem RDev.below (h : RDev w O r S W F a b c) (hb : Below w.heap.size w w') : RDev w' O r S W F a b c := h.chg (P := fun _ => False) (Chg.of hb _) (fun _ _ h => h)
theorem RDev.drewN (h : RDev w O r S W F a b c) (n : Nat) : RDev (w.drewN n) O r S W F a b c := ⟨h.blk, h.sure, h.ats, h.whats, h.own, h.oa, h.ob, h.oc, h.ab, h.ac, h.bc, h.at', h.bot, h.top⟩
theorem RDev.mono (h : RDev w O r S W F a b c) (hp : ∀ k, O k → P k) : RDev w P r S W F a b c := ⟨h.blk, h.sure, h.ats, h.whats, hp _ h.own, fun g hg => ⟨hp _ (h.oa g hg).1, (h.oa g hg).2⟩, fun g hg => ⟨hp _ (h.ob g hg).1, (h.ob g hg).2⟩, fun g hg => ⟨hp _ (h.oc g hg).1, (h.oc g hg).2⟩, h.ab, h.ac, h.bc, h.at', h.bot, h.top⟩
theorem RDev.c0 (h : RDev w O r S W F a b c) : w.cell? ⟨r, 0, none⟩ = some a := by rw [h.blk.cell]; rfl
theorem RDev.c1 (h : RDev w O r S W F a b c) : w.cell? ⟨r, 1, none⟩ = some b := by rw [h.blk.cell]; rfl
theorem RDev.c2 (h : RDev w O r S W F a b c) : w.cell? ⟨r, 2, none⟩ = some c := by rw [h.blk.cell]; rfl
theorem RDev.c3 (h : RDev w O r S W F a b c) : w.cell? ⟨r, 3, none⟩ = some (.int .i64 F) := by rw [h.blk.cell]; rfl
/-- The fuse is another one. -/
theorem RDev.setF (h : RDev w O r S W F a b c) (F' : Int) (h1 : -1 ≤ F') (h2 : F' ≤ 9223372036854775807) : RDev (w.setCell ⟨r, 3, none⟩ (.int .i64 F')) O r S W F' a b c := by
  have u := setCell_upd w r 3 (.int .i64 F')
  exact ⟨h.blk.set 3 _, ownsRow_same h.sure fun g hg => u.block g (h.oa g hg).2, ownsRow_same h.ats fun g hg => u.block g (h.ob g hg).2, ownsRow_same h.whats fun g hg => u.block g (h.oc g hg).2, h.own, h.oa, h.ob, h.oc, h.ab, h.ac, h.bc, h.at', h1, h2⟩
theorem RDev.putF (h : RDev w O r S W F a b c) (u : Upd w w' r) (hb : Blk w' r #[a, b, c, .int .i64 F'] 121) (h1 : -1 ≤ F') (h2 : F' ≤ 9223372036854775807) : RDev w' O r S W F' a b c :=
  ⟨hb, ownsRow_same h.sure fun g hg => u.block g (h.oa g hg).2, ownsRow_same h.ats fun g hg => u.block g (h.ob g hg).2, ownsRow_same h.whats fun g hg => u.block g (h.oc g hg).2, h.own, h.oa, h.ob, h.oc, h.ab, h.ac, h.bc, h.at', h1, h2⟩
/-- There are no writes. -/
theorem RDev.clear (h : RDev w O r S W F a b c) : RDev ((w.setCell ⟨r, 1, none⟩ (.slice none 0 0)).setCell ⟨r, 2, none⟩ (.slice none 0 0)) O r S [] F a (.slice none 0 0) (.slice none 0 0) := by
  have u := (setCell_upd w r 1 (.slice none 0 0)).trans (setCell_upd _ r 2 (.slice none 0 0))
  exact ⟨(h.blk.set 1 _).set 2 _, ownsRow_same h.sure fun g hg => u.block g (h.oa g hg).2, ⟨rfl, Or.inl ⟨rfl, rfl⟩⟩, ⟨rfl, Or.inl ⟨rfl, rfl⟩⟩, h.own, h.oa, (fun g hg => by cases hg), (fun g hg => by cases hg), (fun g _ hh => by cases hh), (fun g _ hh => by cases hh), (fun g hg => by cases hg), (fun p hp => by cases hp), h.bot, h.top⟩
end
theorem in_any (n : Int) (w : World) : Calls Tryd.prog 71 #[.int .i64 n, .int .i64 0, .int .i64 65] w fun e w' => e = .returned (.bool (decide (0 ≤ n ∧ n < 66))) ∧ w' = w := by
  by_cases h1 : 0 ≤ n
  · by_cases h2 : n < 66
    · have h3 : n ≤ 65 := by omega
      go_enter Tryd.func71, Tryd.ntmps71
      go_wp2
      go_ret
      simp [h1, h2]
    · have d2 : decide (n ≤ 65) = false := by simp; omega
      go_enter Tryd.func71, Tryd.ntmps71
      go_wp2
      go_ret
      simp
      omega
  · have d1 : decide (0 ≤ n) = false := by simpa using h1
    go_enter Tryd.func71, Tryd.ntmps71
    go_wp2
    go_ret
    simp
theorem zeros_any (n : Nat) (c : Int) (w : World) (hc : c = (n : Int)) (hn : n ≤ 10000) : Calls Tryd.prog 79 #[.int .i64 c] w fun e w' => e = .returned (.string (zs n)) ∧ Below w.heap.size w w' := by
  subst hc
  go_enter Tryd.func79, Tryd.ntmps79
  go_wp2_with (go_at_call 51; refine (repeat_any n _ _ rfl hn).mono ?_; rintro e w1 ⟨rfl, g1⟩)
  go_ret
  exact ⟨rfl, g1⟩
theorem rspent_any (r : Nat) (O : Nat → Prop) (S : Nat → Nat → UInt8) (W : List (Nat × (Nat → UInt8))) (F : Int) (a b c : Value) (w : World) (h : RDev w O r S W F a b c) :
    Calls Tryd.prog 83 #[.pointer (some ⟨r, 0, none⟩)] w fun e w' => e = .returned (.bool (decide (F = 0))) ∧ RDev w' O r S W (burnt F) a b c ∧ Upd w w' r := by
  have c3 := h.c3
  have f3 := h.blk.frozen 3
  have ht := h.top
  have hb := h.bot
  by_cases hp : 0 < F
  · have hw : wrap64 (F - 1) = F - 1 := by unfold wrap64; omega
    have e : burnt F = F - 1 := by unfold burnt; rw [if_pos hp]
    have d0 : decide (F = 0) = false := by simp; omega
    rw [e, d0]
    go_enter Tryd.func83, Tryd.ntmps83
    go_wp2
    go_ret
    exact ⟨rfl, h.setF _ (by omega) (by omega), setCell_upd _ _ _ _⟩
  · have e : burnt F = F := by unfold burnt; rw [if_neg hp]
    have dp : decide (0 < F) = false := by simpa using hp
    rw [e]
    go_enter Tryd.func83, Tryd.ntmps83
    go_wp2
    go_ret
    refine ⟨?_, h, Upd.refl _ _⟩
    simp
    exact Bool.eq_iff_iff.2 (by simp)
theorem rfuse_any (r : Nat) (O : Nat → Prop) (S : Nat → Nat → UInt8) (W : List (Nat × (Nat → UInt8))) (F : Int) (a b c : Value) (n : Int) (w : World) (h : RDev w O r S W F a b c) (hn : n ≤ 9223372036854775807) :
    Calls Tryd.prog 36 #[.pointer (some ⟨r, 0, none⟩), .int .i64 n] w fun e w' => e = .returned (.tuple #[]) ∧ RDev w' O r S W (fuseTo n) a b c ∧ Upd w w' r := by
  have c3 := h.c3
  have f3 := h.blk.frozen 3
  by_cases hp : n < 0
  · have e : fuseTo n = -1 := by unfold fuseTo; rw [if_pos hp]
    rw [e]
    have hs := h.blk.set 3 (.int .i64 n)
    have cs := hs.cell 3
    have fs := hs.frozen 3
    go_enter Tryd.func36, Tryd.ntmps36
    go_wp2_with fail
    go_end0
    have u := (setCell_upd w r 3 (.int .i64 n)).trans (setCell_upd _ r 3 (.int .i64 (-1)))
    exact ⟨rfl, h.putF u (hs.set 3 _) (by decide) (by decide), u⟩
  · have e : fuseTo n = n := by unfold fuseTo; rw [if_neg hp]
    have dp : decide (n < 0) = false := by simpa using hp
    rw [e]
    go_enter Tryd.func36, Tryd.ntmps36
    go_wp2_with fail
    go_end0
    exact ⟨rfl, h.setF _ (by omega) hn, setCell_upd _ _ _ _⟩
end Go.Proofs.YtccnnfllgdplhaaDoor
