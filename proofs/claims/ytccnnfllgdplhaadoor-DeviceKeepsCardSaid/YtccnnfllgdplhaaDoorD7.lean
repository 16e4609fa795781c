/-
  Part of the proof: the counter, and the fact 'lost', are walked.
-/
import Derived.Test.YtccnnfllgdplhaaDoorD6
import Derived.Test.YtccnnfllgdplhaaDoorA3
namespace Go.Proofs.YtccnnfllgdplhaaDoor
open Go.RowKit
/-- A counter lies at block c and is at n. -/
abbrev Cnt (w : World) (c : Nat) (n : Int) : Prop := Blk w c #[.int .i64 n] 44
theorem raise_no (c : Nat) (n m : Int) (w : World) (h : Cnt w c n) (hm : m ≤ n) :
    Calls Tryd.prog 26 #[.pointer (some ⟨c, 0, none⟩), .int .i64 m] w fun e w' => e = .returned (errI 10) ∧ w' = w := by
  have c0 := h.cell 0
  go_enter Tryd.func26, Tryd.ntmps26
  go_wp2
  go_ret
  exact ⟨rfl, rfl⟩
theorem raise_yes (c : Nat) (n m : Int) (w : World) (h : Cnt w c n) (hm : n < m) :
    Calls Tryd.prog 26 #[.pointer (some ⟨c, 0, none⟩), .int .i64 m] w fun e w' => e = .returned .nilIface ∧ Cnt w' c m ∧ Upd w w' c := by
  have c0 := h.cell 0
  have f0 := h.frozen 0
  have hd : decide (m ≤ n) = false := by simp; omega
  go_enter Tryd.func26, Tryd.ntmps26
  go_wp2
  go_ret
  exact ⟨rfl, h.set 0 (.int .i64 m), setCell_upd _ _ _ _⟩
theorem get_any (c : Nat) (n : Int) (w : World) (h : Cnt w c n) :
    Calls Tryd.prog 28 #[.pointer (some ⟨c, 0, none⟩)] w fun e w' => e = .returned (.int .i64 n) ∧ w' = w := by
  have c0 := h.cell 0
  go_enter Tryd.func28, Tryd.ntmps28
  go_wp2
  go_ret
  exact ⟨rfl, rfl⟩
/-- All of O lies from B on, and is there. -/
def Bd (B : Nat) (O : Nat → Prop) (w : World) : Prop := ∀ k, O k → B ≤ k ∧ k < w.heap.size
theorem Bd.gro {B : Nat} {O : Nat → Prop} {w w' : World} (h : Bd B O w) (hB : B ≤ w.heap.size) (hz : w.heap.size ≤ w'.heap.size) : Bd B (gro O w w') w' :=
  fun k hk => hk.elim (fun h1 => ⟨(h k h1).1, Nat.lt_of_lt_of_le (h k h1).2 hz⟩) (fun h1 => ⟨Nat.le_trans hB h1.1, h1.2⟩)
theorem Bd.mono {B : Nat} {O : Nat → Prop} {w w' : World} (h : Bd B O w) (hz : w.heap.size ≤ w'.heap.size) : Bd B O w' := fun k hk => ⟨(h k hk).1, Nat.lt_of_lt_of_le (h k hk).2 hz⟩
theorem Chg.low {w0 w w' : World} {O : Nat → Prop} {B : Nat} (h : Chg w w' O) (hb : Below B w0 w) (hB : B ≤ w.heap.size) (hO : Bd B O w) : Below B w0 w' := h.to hb hB fun k hk => (hO k hk).1
theorem sb_two (f : Nat → UInt8) : (sb 256 f).extract 0 2 = ⟨#[f 0, f 1]⟩ := by
  have h : (sb 256 f).data.extract 0 2 = #[f 0, f 1] := by
    apply Array.ext_getElem?
    intro i
    match i with
    | 0 => simp [sb]
    | 1 => simp [sb]
    | i + 2 => simp [sb]
  have e : ((sb 256 f).extract 0 2).data = #[f 0, f 1] := by rw [ByteArray.data_extract]; exact h
  generalize (sb 256 f).extract 0 2 = x at e
  cases x; simp at e; subst e; rfl
set_option maxRecDepth 100000 in
set_option maxHeartbeats 1000000 in
theorem lost_any (w : World) (hE : EB w) : Calls Tryd.prog 25 #[] w fun e w' => e = .returned (.bool true) ∧ Below w.heap.size w w' := by
  go_enter Tryd.func25, Tryd.ntmps25
  go_wp2_with fail
  refine (dnew_any _).mono ?_
  rintro e w1 ⟨rfl, hD1, b1, _⟩
  obtain ⟨B, hB⟩ : ∃ B, Hid (B = w.heap.size) := ⟨_, rfl⟩
  rw [← hB.out] at hD1
  rw [← hB.out]
  have z1 := b1.size
  have o1 : Bd w.heap.size (fun k => k = B) w1 := fun k hk => ⟨by rw [← hB.out]; exact Nat.le_of_eq (Eq.symm hk), by rw [show k = B from hk]; exact hD1.blk.lt⟩
  go_wp2_with fail
  refine (write_ok B _ _ _ _ _ _ 3 ⟨#[97]⟩ _ hD1 (by decide) (by decide) (by decide) (by decide)).mono ?_
  rintro e w2 ⟨rfl, ⟨v2, l2, hD2⟩, C2⟩
  have b2 := C2.low b1 b1.size o1
  have o2 := o1.gro b1.size C2.size
  rw [show burnt (-1) = -1 from by decide] at hD2
  generalize gro (fun k => k = B) w1 w2 = O2 at *
  go_wp2_with fail
  refine (sync_ok B _ _ _ _ _ _ _ hD2 (by decide)).mono ?_
  rintro e w3 ⟨rfl, ⟨l3, hD3⟩, C3⟩
  have b3 := C3.low b2 b2.size o2
  have o3 := o2.mono C3.size
  rw [show burnt (-1) = -1 from by decide] at hD3
  go_wp2_with fail
  refine (write_ok B _ _ _ _ _ _ 3 ⟨#[98]⟩ _ hD3 (by decide) (by decide) (by decide) (by decide)).mono ?_
  rintro e w4 ⟨rfl, ⟨v4, l4, hD4⟩, C4⟩
  have b4 := C4.low b3 b3.size o3
  have o4 := o3.gro b3.size C4.size
  rw [show burnt (-1) = -1 from by decide] at hD4
  generalize gro O2 w3 w4 = O4 at *
  go_wp2_with fail
  refine (write_ok B _ _ _ _ _ _ 4 ⟨#[99]⟩ _ hD4 (by decide) (by decide) (by decide) (by decide)).mono ?_
  rintro e w5 ⟨rfl, ⟨v5, l5, hD5⟩, C5⟩
  have b5 := C5.low b4 b4.size o4
  have o5 := o4.gro b4.size C5.size
  rw [show burnt (-1) = -1 from by decide] at hD5
  generalize gro O4 w4 w5 = O5 at *
  clear hD1 hD2 hD3 hD4 C2 C3 C4 C5 b1 b2 b3 b4 o1 o2 o3 o4 z1
  go_wp2_with fail
  have g6 := (Below.refl w5.heap.size w5).alloc (Nat.le_refl _) (.cells #[.bool false, .bool true] 4)
  have hD6 := hD5.below g6
  have b6 := b5.trans (g6.mono b5.size)
  have o6 := o5.mono g6.size
  refine (crash_any B O5 _ _ _ _ _ _ hD6 (some ⟨w5.heap.size, 0, none⟩) 2 [false, true] (by decide) ?_).mono ?_
  · intro i x hx
    refine ⟨w5.heap.size, 0, rfl, by simp, fun h => by have := (o5 _ h).2; omega, ?_⟩
    have c := (Blk.new w5 #[.bool false, .bool true] 4).cell i
    rw [Nat.zero_add, c]
    match i, hx with
    | 0, hx => simpa using hx
    | 1, hx => simpa using hx
    | i + 2, hx => simp at hx
  rintro e w7 ⟨rfl, ⟨l7, hD7⟩, C7⟩
  have b7 := C7.low b6 b6.size o6
  have e3 : readF (loseS (loseS (fun _ _ => 0) ([] ++ [(3, bAt ⟨#[97]⟩)]) (fun _ => true) ([] ++ [(3, bAt ⟨#[97]⟩)]).length) ([] ++ [(3, bAt ⟨#[98]⟩)] ++ [(4, bAt ⟨#[99]⟩)]) (fun i => [false, true].getD i false) ([] ++ [(3, bAt ⟨#[98]⟩)] ++ [(4, bAt ⟨#[99]⟩)]).length) [] 3 = bAt ⟨#[97]⟩ := rfl
  have e4 : readF (loseS (loseS (fun _ _ => 0) ([] ++ [(3, bAt ⟨#[97]⟩)]) (fun _ => true) ([] ++ [(3, bAt ⟨#[97]⟩)]).length) ([] ++ [(3, bAt ⟨#[98]⟩)] ++ [(4, bAt ⟨#[99]⟩)]) (fun i => [false, true].getD i false) ([] ++ [(3, bAt ⟨#[98]⟩)] ++ [(4, bAt ⟨#[99]⟩)]).length) [] 4 = bAt ⟨#[99]⟩ := rfl
  generalize loseS (loseS (fun _ _ => 0) ([] ++ [(3, bAt ⟨#[97]⟩)]) (fun _ => true) ([] ++ [(3, bAt ⟨#[97]⟩)]).length) ([] ++ [(3, bAt ⟨#[98]⟩)] ++ [(4, bAt ⟨#[99]⟩)]) (fun i => [false, true].getD i false) ([] ++ [(3, bAt ⟨#[98]⟩)] ++ [(4, bAt ⟨#[99]⟩)]).length = S7 at *
  have a2 : (sb 256 (bAt ⟨#[97]⟩)).extract 0 2 = ⟨#[97, 0]⟩ := sb_two _
  have c2 : (sb 256 (bAt ⟨#[99]⟩)).extract 0 2 = ⟨#[99, 0]⟩ := sb_two _
  have za := sb_size 256 (bAt ⟨#[97]⟩)
  have zc := sb_size 256 (bAt ⟨#[99]⟩)
  clear hD5 hD6 C7 o6 b6 g6
  go_wp2_with fail
  refine (read_ok B _ _ _ _ _ _ 3 _ hD7 (by decide) (by decide)).mono ?_
  rintro e w8 ⟨rfl, g8⟩
  rw [e3]
  have hD8 := hD7.below g8
  have b8 := b7.trans (g8.mono b7.size)
  go_wp2_with fail
  refine (read_ok B _ _ _ _ _ _ 4 _ hD8 (by decide) (by decide)).mono ?_
  rintro e w9 ⟨rfl, g9⟩
  rw [e4]
  have b9 := b8.trans (g9.mono b8.size)
  generalize sb 256 (bAt ⟨#[97]⟩) = A at *
  generalize sb 256 (bAt ⟨#[99]⟩) = C at *
  clear hD7 hD8 g8 g9 b7 b8 e3 e4
  go_wp2_with fail
  have b10 := b9.alloc b9.size (.cells #[.int .i64 0] 44)
  refine (raise_yes w9.heap.size 0 5 _ (Blk.new _ _ _) (by decide)).mono ?_
  rintro e w11 ⟨rfl, k11, u11⟩
  have b11 := below_upd b10 u11 b9.size
  obtain ⟨Q, hQ⟩ : ∃ Q, Hid (Q = w9.heap.size) := ⟨_, rfl⟩
  rw [← hQ.out] at k11
  rw [← hQ.out]
  go_wp2_with fail
  refine (raise_no Q 5 5 _ k11 (by decide)).mono ?_
  rintro e w12 ⟨rfl, rfl⟩
  go_wp2_with fail
  have hEw := hE.below b11
  refine (tell_some 10 _ hEw).mono ?_
  rintro e w13 ⟨rfl, g13⟩
  have k13 := k11.below g13 k11.lt
  go_wp2_with fail
  refine (get_any Q 5 _ k13).mono ?_
  rintro e w14 ⟨rfl, rfl⟩
  go_wp2_with fail
  go_ret
  exact ⟨rfl, b11.trans (g13.mono b11.size)⟩
end Go.Proofs.YtccnnfllgdplhaaDoor
