/-
  Part of the proof: each call that DeviceKeeps makes, by one contract.
-/
import Derived.Test.YtccnnfllgdplhaaDoorG6
namespace Go.Proofs.YtccnnfllgdplhaaDoor
open Go.RowKit
/-- The error of a number, as the program has it. -/
def errV (n : Int) : Value := if n = 0 then .nilIface else errI n
theorem bare_any (w : World) (n : Int) (hE : EB w) : Calls Tryd.prog 22 #[errV n, .int .i64 n] w fun e w' => e = .returned (.bool true) ∧ Below w.heap.size w w' := by
  by_cases h : n = 0
  · subst h
    refine (bare_nil w).mono ?_
    rintro e w' ⟨rfl, rfl⟩
    exact ⟨rfl, Below.refl _ _⟩
  · unfold errV; rw [if_neg h]; exact bare_some w n hE
def wCode (at' : Int) (s : ByteArray) (F : Int) : Int := if ¬ (0 ≤ at' ∧ at' < 66) then 2 else if 256 < s.size then 4 else if F = 0 then 14 else 0
def wW (at' : Int) (s : ByteArray) (F : Int) (W : List (Nat × (Nat → UInt8))) : List (Nat × (Nat → UInt8)) := if wCode at' s F = 0 then W ++ [(at'.toNat, bAt s)] else W
def wF (at' : Int) (s : ByteArray) (F : Int) : Int := if wCode at' s F = 0 then burnt F else F
theorem wW_len (at' : Int) (s : ByteArray) (F : Int) (W : List (Nat × (Nat → UInt8))) : (wW at' s F W).length ≤ W.length + 1 := by unfold wW; split <;> simp
section
variable {w0 w : World} {O P : Nat → Prop} {b r c : Nat} {X : List (Nat × Array Value)} {S S' : Nat → Nat → UInt8} {W W' : List (Nat × (Nat → UInt8))} {F F' N : Int}
theorem kdwrite (h : Kp w0 w O P b r c X S W F S' W' F' N) (at' : Int) (s : ByteArray) (hW : W.length < 1000) :
    Calls Tryd.prog 31 #[.pointer (some ⟨b, 0, none⟩), .int .i64 at', .string s] w fun e w' => e = .returned (errV (wCode at' s F)) ∧ ∃ Q, Kp w0 w' Q P b r c X S (wW at' s F W) (wF at' s F) S' W' F' N := by
  obtain ⟨v, lf, hD⟩ := h.dev
  by_cases h1 : 0 ≤ at' ∧ at' < 66
  · by_cases h2 : 256 < s.size
    · have e : wCode at' s F = 4 := by unfold wCode; rw [if_neg (by simpa using h1), if_pos h2]
      unfold wW wF
      rw [e, if_neg (by decide), if_neg (by decide)]
      refine (write_limit b at' s w h1 h2).mono ?_
      rintro e w' ⟨rfl, rfl⟩
      exact ⟨rfl, O, h⟩
    · by_cases h3 : F = 0
      · subst h3
        have e : wCode at' s 0 = 14 := by unfold wCode; rw [if_neg (by simpa using h1), if_neg h2, if_pos rfl]
        unfold wW wF
        rw [e, if_neg (by decide), if_neg (by decide)]
        refine (write_spent b O S W v lf at' s w hD h1 (by omega)).mono ?_
        rintro e w' ⟨rfl, ⟨l', hD'⟩, u⟩
        exact ⟨rfl, O, h.dupd u ⟨_, _, hD'⟩⟩
      · have e : wCode at' s F = 0 := by unfold wCode; rw [if_neg (by simpa using h1), if_neg h2, if_neg h3]
        unfold wW wF
        rw [e, if_pos rfl, if_pos rfl]
        obtain ⟨n, rfl⟩ : ∃ n : Nat, at' = n := ⟨at'.toNat, by omega⟩
        refine (write_ok b O S W F v lf n s w hD h3 (by omega) (by omega) hW).mono ?_
        rintro e w' ⟨rfl, ⟨v', l', hD'⟩, u⟩
        exact ⟨rfl, _, h.dstep u ⟨_, _, hD'⟩ (fun _ hk => hk)⟩
  · have e : wCode at' s F = 2 := by unfold wCode; rw [if_pos h1]
    unfold wW wF
    rw [e, if_neg (by decide), if_neg (by decide)]
    refine (write_range b at' s w h1).mono ?_
    rintro e w' ⟨rfl, rfl⟩
    exact ⟨rfl, O, h⟩
theorem krwrite (h : Kp w0 w O P b r c X S W F S' W' F' N) (at' : Int) (s : ByteArray) (hW : W'.length < 1000) :
    Calls Tryd.prog 32 #[.pointer (some ⟨r, 0, none⟩), .int .i64 at', .string s] w fun e w' => e = .returned (.int .i64 (wCode at' s F')) ∧ ∃ Q, Kp w0 w' O Q b r c X S W F S' (wW at' s F' W') (wF at' s F') N := by
  obtain ⟨a', b', c', hD⟩ := h.ref
  by_cases h1 : 0 ≤ at' ∧ at' < 66
  · by_cases h2 : 256 < s.size
    · have e : wCode at' s F' = 4 := by unfold wCode; rw [if_neg (by simpa using h1), if_pos h2]
      unfold wW wF
      rw [e, if_neg (by decide), if_neg (by decide)]
      refine (rwrite_limit r at' s w h1 h2).mono ?_
      rintro e w' ⟨rfl, rfl⟩
      exact ⟨rfl, P, h⟩
    · by_cases h3 : F' = 0
      · subst h3
        have e : wCode at' s 0 = 14 := by unfold wCode; rw [if_neg (by simpa using h1), if_neg h2, if_pos rfl]
        unfold wW wF
        rw [e, if_neg (by decide), if_neg (by decide)]
        refine (rwrite_spent r P S' W' a' b' c' at' s w hD h1 (by omega)).mono ?_
        rintro e w' ⟨rfl, hD', u⟩
        exact ⟨rfl, P, h.rupd u ⟨_, _, _, hD'⟩⟩
      · have e : wCode at' s F' = 0 := by unfold wCode; rw [if_neg (by simpa using h1), if_neg h2, if_neg h3]
        unfold wW wF
        rw [e, if_pos rfl, if_pos rfl]
        obtain ⟨n, rfl⟩ : ∃ n : Nat, at' = n := ⟨at'.toNat, by omega⟩
        refine (rwrite_ok r P S' W' F' a' b' c' n s w hD h3 (by omega) (by omega) hW).mono ?_
        rintro e w' ⟨rfl, ⟨b1, c1, hD'⟩, u⟩
        exact ⟨rfl, _, h.rstep u ⟨_, _, _, hD'⟩ (fun _ hk => hk)⟩
  · have e : wCode at' s F' = 2 := by unfold wCode; rw [if_pos h1]
    unfold wW wF
    rw [e, if_neg (by decide), if_neg (by decide)]
    refine (rwrite_range r at' s w h1).mono ?_
    rintro e w' ⟨rfl, rfl⟩
    exact ⟨rfl, P, h⟩
def sCode (F : Int) : Int := if F = 0 then 14 else 0
def sS (F : Int) (S : Nat → Nat → UInt8) (W : List (Nat × (Nat → UInt8))) : Nat → Nat → UInt8 := if F = 0 then S else loseS S W (fun _ => true) W.length
def sW (F : Int) (W : List (Nat × (Nat → UInt8))) : List (Nat × (Nat → UInt8)) := if F = 0 then W else []
def sF (F : Int) : Int := if F = 0 then 0 else burnt F
theorem sW_len (F : Int) (W : List (Nat × (Nat → UInt8))) : (sW F W).length ≤ W.length := by unfold sW; split <;> simp
theorem kdsync (h : Kp w0 w O P b r c X S W F S' W' F' N) :
    Calls Tryd.prog 33 #[.pointer (some ⟨b, 0, none⟩)] w fun e w' => e = .returned (errV (sCode F)) ∧ Kp w0 w' O P b r c X (sS F S W) (sW F W) (sF F) S' W' F' N := by
  obtain ⟨v, lf, hD⟩ := h.dev
  by_cases h3 : F = 0
  · subst h3
    refine (sync_spent b O S W v lf w hD).mono ?_
    rintro e w' ⟨rfl, ⟨l', hD'⟩, u⟩
    exact ⟨rfl, h.dupd u ⟨_, _, hD'⟩⟩
  · unfold sCode sS sW sF
    rw [if_neg h3, if_neg h3, if_neg h3, if_neg h3]
    refine (sync_ok b O S W F v lf w hD h3).mono ?_
    rintro e w' ⟨rfl, ⟨l', hD'⟩, u⟩
    exact ⟨rfl, h.dsame u ⟨_, _, hD'⟩⟩
theorem krsync (h : Kp w0 w O P b r c X S W F S' W' F' N) (hW : W'.length ≤ 1000) :
    Calls Tryd.prog 34 #[.pointer (some ⟨r, 0, none⟩)] w fun e w' => e = .returned (.int .i64 (sCode F')) ∧ Kp w0 w' O P b r c X S W F (sS F' S' W') (sW F' W') (sF F') N := by
  obtain ⟨a', b', c', hD⟩ := h.ref
  by_cases h3 : F' = 0
  · subst h3
    refine (rsync_spent r P S' W' a' b' c' w hD).mono ?_
    rintro e w' ⟨rfl, hD', u⟩
    exact ⟨rfl, h.rupd u ⟨_, _, _, hD'⟩⟩
  · unfold sCode sS sW sF
    rw [if_neg h3, if_neg h3, if_neg h3, if_neg h3]
    refine (rsync_ok r P S' W' F' a' b' c' w hD h3 hW).mono ?_
    rintro e w' ⟨rfl, hD', u⟩
    exact ⟨rfl, h.rsame u ⟨_, _, _, hD'⟩⟩
theorem kdfuse (h : Kp w0 w O P b r c X S W F S' W' F' N) (n : Int) (hn : n ≤ 9223372036854775807) :
    Calls Tryd.prog 35 #[.pointer (some ⟨b, 0, none⟩), .int .i64 n] w fun e w' => e = .returned (.tuple #[]) ∧ Kp w0 w' O P b r c X S W (fuseTo n) S' W' F' N := by
  obtain ⟨v, lf, hD⟩ := h.dev
  refine (fuse_any b O S W F v lf n w hD hn).mono ?_
  rintro e w' ⟨rfl, ⟨l', hD'⟩, u⟩
  exact ⟨rfl, h.dupd u ⟨_, _, hD'⟩⟩
theorem krfuse (h : Kp w0 w O P b r c X S W F S' W' F' N) (n : Int) (hn : n ≤ 9223372036854775807) :
    Calls Tryd.prog 36 #[.pointer (some ⟨r, 0, none⟩), .int .i64 n] w fun e w' => e = .returned (.tuple #[]) ∧ Kp w0 w' O P b r c X S W F S' W' (fuseTo n) N := by
  obtain ⟨a', b', c', hD⟩ := h.ref
  refine (rfuse_any r P S' W' F' a' b' c' n w hD hn).mono ?_
  rintro e w' ⟨rfl, hD', u⟩
  exact ⟨rfl, h.rupd u ⟨_, _, _, hD'⟩⟩
def lS (S : Nat → Nat → UInt8) (W : List (Nat × (Nat → UInt8))) (ks : List Bool) : Nat → Nat → UInt8 := loseS S W (fun i => ks.getD i false) W.length
theorem kdcrash (h : Kp w0 w O P b r c X S W F S' W' F' N) (ka : Option Addr) (kc : Nat) (ks : List Bool) (hkl : ks.length ≤ 100000) (hb : Bools w0 ka ks) :
    Calls Tryd.prog 37 #[.pointer (some ⟨b, 0, none⟩), .slice ka ks.length kc] w fun e w' => e = .returned (.tuple #[]) ∧ Kp w0 w' O P b r c X (lS S W ks) [] (-1) S' W' F' N := by
  obtain ⟨v, lf, hD⟩ := h.dev
  refine (crash_any b O S W F v lf w hD ka kc ks hkl (argB hb h.low h.bo)).mono ?_
  rintro e w' ⟨rfl, ⟨l', hD'⟩, u⟩
  exact ⟨rfl, h.dsame u ⟨_, _, hD'⟩⟩
theorem krcrash (h : Kp w0 w O P b r c X S W F S' W' F' N) (hW : W'.length ≤ 1000) (ka : Option Addr) (kc : Nat) (ks : List Bool) (hkl : ks.length ≤ 100000) (hb : Bools w0 ka ks) :
    Calls Tryd.prog 38 #[.pointer (some ⟨r, 0, none⟩), .slice ka ks.length kc] w fun e w' => e = .returned (.tuple #[]) ∧ Kp w0 w' O P b r c X S W F (lS S' W' ks) [] (-1) N := by
  obtain ⟨a', b', c', hD⟩ := h.ref
  refine (rcrash_any r P S' W' F' a' b' c' w hD hW (fun k hk => (h.bp k hk).2) ka kc ks hkl (argB hb h.low h.bp)).mono ?_
  rintro e w' ⟨rfl, hD', u⟩
  exact ⟨rfl, h.rsame u ⟨_, _, _, hD'⟩⟩
theorem kdlay (h : Kp w0 w O P b r c X S W F S' W' F' N) (la : Option Addr) (lc : Nat) (ls : List ByteArray) (hll : ls.length ≤ 100000) (hls : Texts w O la ls) :
    Calls Tryd.prog 39 #[.pointer (some ⟨b, 0, none⟩), .slice la ls.length lc] w fun e w' => e = .returned (.tuple #[]) ∧ Kp w0 w' O P b r c X (layS S ls 66) [] F S' W' F' N := by
  obtain ⟨v, lf, hD⟩ := h.dev
  refine (lay_any b O S W F v lf w hD la lc ls hll hls).mono ?_
  rintro e w' ⟨rfl, ⟨l', hD'⟩, u⟩
  exact ⟨rfl, h.dsame u ⟨_, _, hD'⟩⟩
theorem krlay (h : Kp w0 w O P b r c X S W F S' W' F' N) (la : Option Addr) (lc : Nat) (ls : List ByteArray) (hll : ls.length ≤ 100000) (hls : Texts w0 (fun _ => False) la ls) (hlz : ∀ s ∈ ls, s.size ≤ 1000) :
    Calls Tryd.prog 40 #[.pointer (some ⟨r, 0, none⟩), .slice la ls.length lc] w fun e w' => e = .returned (.tuple #[]) ∧ Kp w0 w' O P b r c X S W F (layS S' ls 66) [] F' N := by
  obtain ⟨a', b', c', hD⟩ := h.ref
  refine (rlay_any r P S' W' F' a' b' c' w hD la lc ls hll (argT hls h.low h.bp) hlz).mono ?_
  rintro e w' ⟨rfl, hD', u⟩
  exact ⟨rfl, h.rsame u ⟨_, _, _, hD'⟩⟩
def cCode (m N : Int) : Int := if N < m then 0 else 10
def cN (m N : Int) : Int := if N < m then m else N
theorem kraise (h : Kp w0 w O P b r c X S W F S' W' F' N) (m : Int) :
    Calls Tryd.prog 26 #[.pointer (some ⟨c, 0, none⟩), .int .i64 m] w fun e w' => e = .returned (errV (cCode m N)) ∧ Kp w0 w' O P b r c X S W F S' W' F' (cN m N) := by
  unfold cCode cN
  by_cases hm : N < m
  · rw [if_pos hm, if_pos hm]
    refine (raise_yes c N m w h.cnt hm).mono ?_
    rintro e w' ⟨rfl, hC, u⟩
    exact ⟨rfl, h.cstep u hC⟩
  · rw [if_neg hm, if_neg hm]
    refine (raise_no c N m w h.cnt (by omega)).mono ?_
    rintro e w' ⟨rfl, rfl⟩
    exact ⟨rfl, h⟩
def rCode (z : Int) : Int := if 0 ≤ z ∧ z < 66 then 0 else 2
def rText (S : Nat → Nat → UInt8) (W : List (Nat × (Nat → UInt8))) (z : Int) : ByteArray := if 0 ≤ z ∧ z < 66 then sb 256 (readF S W z.toNat) else ByteArray.empty
theorem kdread (h : Kp w0 w O P b r c X S W F S' W' F' N) (z : Int) (hW : W.length ≤ 1000) :
    Calls Tryd.prog 45 #[.pointer (some ⟨b, 0, none⟩), .int .i64 z] w fun e w' => e = .returned (.tuple #[.string (rText S W z), errV (rCode z)]) ∧ Below w.heap.size w w' := by
  obtain ⟨v, lf, hD⟩ := h.dev
  unfold rText rCode
  by_cases hz : 0 ≤ z ∧ z < 66
  · rw [if_pos hz, if_pos hz]
    obtain ⟨n, rfl⟩ : ∃ n : Nat, z = n := ⟨z.toNat, by omega⟩
    exact read_ok b O S W F v lf n w hD (by omega) hW
  · rw [if_neg hz, if_neg hz]
    exact read_range b z w hz
theorem krread (h : Kp w0 w O P b r c X S W F S' W' F' N) (z : Int) (hW : W'.length ≤ 1000) :
    Calls Tryd.prog 44 #[.pointer (some ⟨r, 0, none⟩), .int .i64 z] w fun e w' => e = .returned (.tuple #[.string (rText S' W' z), .int .i64 (rCode z)]) ∧ w' = w := by
  obtain ⟨a', b', c', hD⟩ := h.ref
  unfold rText rCode
  by_cases hz : 0 ≤ z ∧ z < 66
  · rw [if_pos hz, if_pos hz]
    obtain ⟨n, rfl⟩ : ∃ n : Nat, z = n := ⟨z.toNat, by omega⟩
    exact rread_ok r P S' W' F' a' b' c' n w hD (by omega) hW
  · rw [if_neg hz, if_neg hz]
    exact rread_range r z w hz
theorem kdimage (h : Kp w0 w O P b r c X S W F S' W' F' N) :
    Calls Tryd.prog 42 #[.pointer (some ⟨b, 0, none⟩)] w fun e w' => (∃ G, e = .returned (.slice (some ⟨G, 0, none⟩) 66 66) ∧ Texts w' (fun _ => False) (some ⟨G, 0, none⟩) (imgL S)) ∧ Below w.heap.size w w' := by
  obtain ⟨v, lf, hD⟩ := h.dev
  refine (image_any b O S W F v lf w hD).mono ?_
  rintro e w' ⟨rfl, hB, u⟩
  exact ⟨⟨_, rfl, imgT hB id⟩, u⟩
theorem krimage (h : Kp w0 w O P b r c X S W F S' W' F' N) :
    Calls Tryd.prog 43 #[.pointer (some ⟨r, 0, none⟩)] w fun e w' => (∃ g cap, e = .returned (.slice (some ⟨g, 0, none⟩) 66 cap) ∧ Texts w' (fun _ => False) (some ⟨g, 0, none⟩) (imgL S')) ∧ Below w.heap.size w w' := by
  obtain ⟨a', b', c', hD⟩ := h.ref
  exact rimage_any r P S' W' F' a' b' c' w hD
end
end Go.Proofs.YtccnnfllgdplhaaDoor
