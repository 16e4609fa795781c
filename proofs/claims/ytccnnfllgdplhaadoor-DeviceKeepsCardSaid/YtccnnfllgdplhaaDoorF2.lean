/-
  Part of the proof: a row of slices of texts; slices.Contains is walked.
-/
import Derived.Test.YtccnnfllgdplhaaDoorF1
namespace Go.Proofs.YtccnnfllgdplhaaDoor
open Go.RowKit
def vA (n : Nat) (f : Nat → Value) : Array Value := ((List.range n).map f).toArray
theorem vA_size (n : Nat) (f : Nat → Value) : (vA n f).size = n := by simp [vA]
theorem vA_get (n : Nat) (f : Nat → Value) (j : Nat) (h : j < n) : (vA n f)[j]? = some (f j) := by simp [vA, h]
theorem vA_set (n : Nat) (f : Nat → Value) (k : Nat) (v : Value) : (vA n f).setIfInBounds k v = vA n (fun j => if j = k then v else f j) := by
  apply Array.ext_getElem?; intro i
  rw [Array.getElem?_setIfInBounds]
  by_cases hi : i < n
  · rw [vA_get _ _ i hi, vA_get _ _ i hi, vA_size]
    by_cases hk : k = i
    · subst hk; simp [hi]
    · simp [hk, Ne.symm hk]
  · have e : ∀ g, (vA n g)[i]? = none := fun g => by rw [Array.getElem?_eq_none]; rw [vA_size]; omega
    rw [e, e, vA_size]; split <;> simp_all
def upd {α : Type} (f : Nat → α) (k : Nat) (v : α) (j : Nat) : α := if j = k then v else f j
theorem upd_same {α : Type} (f : Nat → α) (k : Nat) (v : α) : upd f k v k = v := by simp [upd]
theorem upd_ne {α : Type} (f : Nat → α) (k : Nat) (v : α) (j : Nat) (h : j ≠ k) : upd f k v j = f j := by simp [upd, h]
/-- At block Bm lie 66 slices of texts; all of it is in P. -/
structure May (w : World) (P : Nat → Prop) (Bm : Nat) (vs : Nat → Value) (M : Nat → List ByteArray) : Prop where
  blk : Blk w Bm (vA 66 vs) 22
  rows : ∀ k, k < 66 → w.ownsRow 0 9 1 (vs k) (M k).length ((M k).map Value.string)
  own : P Bm
  rown : ∀ k, k < 66 → ∀ g, (vs k).ownBlock = some g → P g ∧ g ≠ Bm
  dist : ∀ k k', k < 66 → k' < 66 → k ≠ k' → ∀ g, (vs k).ownBlock = some g → (vs k').ownBlock ≠ some g
theorem May.chg {w w' : World} {P O : Nat → Prop} {Bm : Nat} {vs : Nat → Value} {M : Nat → List ByteArray} (h : May w P Bm vs M) (hc : Chg w w' O) (hd : ∀ k, P k → ¬ O k) : May w' P Bm vs M :=
  ⟨h.blk.chg hc (hd _ h.own), fun k hk => ownsRow_same (h.rows k hk) fun g hg => hc.block g (ownsRow_lt (h.rows k hk) g hg).2 (hd g (h.rown k hk g hg).1), h.own, h.rown, h.dist⟩
theorem May.below {w w' : World} {P : Nat → Prop} {Bm : Nat} {vs : Nat → Value} {M : Nat → List ByteArray} (h : May w P Bm vs M) (hb : Below w.heap.size w w') : May w' P Bm vs M :=
  h.chg (O := fun _ => False) (Chg.of hb _) (fun _ _ h => h)
theorem May.drewN {w : World} {P : Nat → Prop} {Bm : Nat} {vs : Nat → Value} {M : Nat → List ByteArray} (h : May w P Bm vs M) (n : Nat) : May (w.drewN n) P Bm vs M := ⟨h.blk, h.rows, h.own, h.rown, h.dist⟩
/-- One of the slices is another one, whose row is its own. -/
theorem May.put {w w' : World} {P P' : Nat → Prop} {Bm : Nat} {vs : Nat → Value} {M : Nat → List ByteArray} (h : May w P Bm vs M) (k : Nat) (hk : k < 66) (g cap : Nat) (L : List ByteArray) (hb : Blk w' Bm (vA 66 (upd vs k (.slice (some ⟨g, 0, none⟩) L.length cap))) 22)
    (hr : w'.ownsRow 0 9 1 (.slice (some ⟨g, 0, none⟩) L.length cap) L.length (L.map Value.string)) (hs : ∀ j, j < 66 → j ≠ k → ∀ q, (vs j).ownBlock = some q → w'.heap[q]? = w.heap[q]?) (hp : ∀ q, P q → P' q) (hg : P' g) (hgB : g ≠ Bm)
    (hgn : ∀ j, j < 66 → j ≠ k → (vs j).ownBlock ≠ some g) : May w' P' Bm (upd vs k (.slice (some ⟨g, 0, none⟩) L.length cap)) (upd M k L) := by
  refine ⟨hb, fun j hj => ?_, hp _ h.own, fun j hj q hq => ?_, fun i j hi hj hij q hq => ?_⟩
  · by_cases e : j = k
    · subst e; rw [upd_same, upd_same]; exact hr
    · rw [upd_ne _ _ _ _ e, upd_ne _ _ _ _ e]; exact ownsRow_same (h.rows j hj) (hs j hj e)
  · by_cases e : j = k
    · subst e; rw [upd_same] at hq; simp only [Value.ownBlock, Option.some.injEq] at hq; subst hq; exact ⟨hg, hgB⟩
    · rw [upd_ne _ _ _ _ e] at hq; exact ⟨hp _ (h.rown j hj q hq).1, (h.rown j hj q hq).2⟩
  · by_cases e : i = k
    · subst e
      rw [upd_same] at hq; simp only [Value.ownBlock, Option.some.injEq] at hq; subst hq
      rw [upd_ne _ _ _ _ (Ne.symm hij)]; exact hgn j hj (Ne.symm hij)
    · rw [upd_ne _ _ _ _ e] at hq
      by_cases e2 : j = k
      · subst e2; rw [upd_same]; intro e3; simp only [Value.ownBlock, Option.some.injEq] at e3; subst e3; exact hgn i hi e hq
      · rw [upd_ne _ _ _ _ e2]; exact h.dist i j hi hj hij q hq
theorem row_texts {w : World} {v : Value} {L : List ByteArray} (h : w.ownsRow 0 9 1 v L.length (L.map Value.string)) : ∃ a cap, v = .slice a L.length cap ∧ Texts w (fun _ => False) a L := by
  obtain ⟨_, h2⟩ := h
  rcases h2 with ⟨h2, h3⟩ | ⟨g, cap, cur, hv, hg, hh, hc1, hc2, hs, ht⟩
  · refine ⟨none, 0, by rw [h2, h3], fun i x hx => ?_⟩
    rw [List.eq_nil_of_length_eq_zero h3] at hx; cases hx
  · refine ⟨some ⟨g, 0, none⟩, cap, hv, fun i x hx => ⟨g, 0, rfl, ?_, id, ?_⟩⟩
    · rcases Nat.lt_or_ge g w.heap.size with h' | h'
      · exact h'
      · simp [Array.getElem?_eq_none h'] at hh
    · have hb : Blk w g cur 9 := hh
      rw [Nat.zero_add, hb.cell]
      have hi := (List.getElem?_eq_some_iff.1 hx).1
      have h5 : (List.take (L.length * 1) cur.toList)[i]? = some (.string x) := by rw [ht]; simp [hx]
      rw [List.getElem?_take, if_pos (by omega)] at h5
      simpa using h5
set_option maxHeartbeats 400000 in
theorem index_mem (a : Option Addr) (cap : Nat) (ls : List ByteArray) (s : ByteArray) (w : World) (h : Texts w (fun _ => False) a ls) (hl : ls.length ≤ 1000) (hs : s ∈ ls) :
    Calls Tryd.prog 93 #[.slice a ls.length cap, .string s] w fun e w' => (∃ j : Int, e = .returned (.int .i64 j) ∧ 0 ≤ j) ∧ w' = w := by
  go_enter Tryd.func93, Tryd.ntmps93
  go_wp2_with fail
  go_loop [8] (fun i => ∃ k : Nat, k ≤ ls.length ∧ i = .int .i64 k ∧ s ∉ ls.take k) (fun i => ls.length - (intOf i).toNat)
  case atStart => exact ⟨0, by omega, rfl, by simp⟩
  case round =>
    obtain ⟨k, hk, rfl, hp⟩ := hrel
    by_cases hlt : k < ls.length
    · obtain ⟨g, o, rfl, hg, _, hc⟩ := h k ls[k] (List.getElem?_eq_getElem hlt)
      have htk : Hid (ls.take (k + 1) = ls.take k ++ [ls[k]]) := by unfold Hid; rw [List.take_add_one, List.getElem?_eq_getElem hlt]; rfl
      have hlt' : (k : Int) < (ls.length : Int) := by omega
      generalize ls[k] = x at *
      by_cases hx : s = x
      · subst hx
        go_wp2_with fail
        go_ret
        exact ⟨⟨k, rfl, by omega⟩, rfl⟩
      · go_wp2_with fail
        · go_ret
          exact ⟨⟨k, rfl, by omega⟩, rfl⟩
        · refine ⟨⟨k + 1, by omega, by go_num, fun hm => ?_⟩, by simp [intOf]; omega⟩
          rw [htk.out] at hm
          rcases List.mem_append.1 hm with h' | h'
          · exact hp h'
          · simp at h'; exact hx h'
    · have hk' : k = ls.length := by omega
      subst hk'
      rw [List.take_length] at hp
      exact absurd hs hp
theorem contains_mem (a : Option Addr) (cap : Nat) (ls : List ByteArray) (s : ByteArray) (w : World) (h : Texts w (fun _ => False) a ls) (hl : ls.length ≤ 1000) (hs : s ∈ ls) :
    Calls Tryd.prog 52 #[.slice a ls.length cap, .string s] w fun e w' => e = .returned (.bool true) ∧ w' = w := by
  go_enter Tryd.func52, Tryd.ntmps52
  go_wp2_with (go_at_call 93; refine (index_mem _ _ _ _ _ h hl hs).mono ?_; rintro e w' ⟨⟨j, rfl, hj⟩, rfl⟩)
  go_ret
  exact ⟨by simp, rfl⟩
theorem mk66S (w : World) : (Instr.makeSlice 73 (.int .i64 66) (.int .i64 66)).run Tryd.prog w = .ok (.slice (some ⟨w.heap.size, 0, none⟩) 66 66) (w.alloc (.cells (vA 66 (fun _ => .slice none 0 0)) 22)) := by
  obtain ⟨i, hi, h1⟩ := Option.map_eq_some_iff.1 (show (Tryd.prog.info? 22).map (fun i => (i.zero, i.size, i.bytes)) = some (some (.slice none 0 0), 1, 24) by kernel_rfl)
  simp only [Prod.mk.injEq] at h1
  obtain ⟨h1, h2, h3⟩ := h1
  have := run_makeSlice (P := Tryd.prog) w 73 22 i _ Tryd.underlying73 hi h1 .i64 .i64 66 66 (by decide) (by decide) (by rw [h2]; decide) (by rw [h3]; decide) (by decide)
  have e : madeCells (Value.slice none 0 0).cells (Int.toNat 66 * 1) = vA 66 (fun _ => .slice none 0 0) := by kernel_rfl
  rw [this, h2, e]
  rfl
end Go.Proofs.YtccnnfllgdplhaaDoor
