/-
  Part of the proof: plain words: what is found, its order, and how far points are.
  Part of the proof: where strings.Compare and slices.SortFunc, and what they call, lie in this program.
  Part of the proof: Far, Compare and Right of package near are walked.
  Part of the proof: what is found, in memory; slices.SortFunc over it.
-/
import Derived.Test.YtamalmgfhpneaaaDoorB04
import Derived.Shelf.SlSortCmp.WholeK
import Derived.Lib.Bytealg
import Derived.Shelf.SlGeneric
import Derived.Shelf.Small.Strs
namespace Go.Proofs.YtamalmgfhpneaaaDoor.Nr
open Go.RowKit
theorem cB_neg : ∀ a b : List UInt8, Lib.compareBytes b a = - Lib.compareBytes a b
  | [], [] => rfl
  | [], _ :: _ => rfl
  | _ :: _, [] => rfl
  | a :: xs, b :: ys => by
    have ih := cB_neg xs ys
    unfold Lib.compareBytes
    by_cases h1 : a < b
    · have h2 : ¬ b < a := by rw [UInt8.lt_iff_toNat_lt] at *; omega
      rw [if_neg h2, if_pos h1, if_pos h1]; rfl
    · by_cases h2 : b < a
      · rw [if_pos h2, if_neg h1, if_pos h2]
      · rw [if_neg h2, if_neg h1, if_neg h1, if_neg h2]; exact ih
theorem cB_zero : ∀ a b : List UInt8, Lib.compareBytes a b = 0 → a = b
  | [], [], _ => rfl
  | [], _ :: _, h => by cases h
  | _ :: _, [], h => by cases h
  | a :: xs, b :: ys, h => by
    unfold Lib.compareBytes at h
    by_cases h1 : a < b
    · rw [if_pos h1] at h; cases h
    · by_cases h2 : b < a
      · rw [if_neg h1, if_pos h2] at h; cases h
      · rw [if_neg h1, if_neg h2] at h
        have e : a = b := by
          apply UInt8.toNat_inj.1
          rw [UInt8.lt_iff_toNat_lt] at *; omega
        rw [e, cB_zero xs ys h]
theorem cB_self : ∀ a : List UInt8, Lib.compareBytes a a = 0
  | [] => rfl
  | a :: xs => by
    unfold Lib.compareBytes
    have h : ¬ a < a := by rw [UInt8.lt_iff_toNat_lt]; omega
    rw [if_neg h, if_neg h]; exact cB_self xs
theorem cB_trans : ∀ a b c : List UInt8, Lib.compareBytes a b < 0 → Lib.compareBytes b c < 0 → Lib.compareBytes a c < 0
  | [], [], _, h, _ => by simp [Lib.compareBytes] at h
  | [], _ :: _, [], _, h => by simp [Lib.compareBytes] at h
  | [], _ :: _, _ :: _, _, _ => by simp [Lib.compareBytes]
  | _ :: _, [], _, h, _ => by simp [Lib.compareBytes] at h
  | _ :: _, _ :: _, [], _, h => by simp [Lib.compareBytes] at h
  | a :: xs, b :: ys, c :: us, h1, h2 => by
    have ih := cB_trans xs ys us
    unfold Lib.compareBytes at h1 h2 ⊢
    simp only [UInt8.lt_iff_toNat_lt] at *
    split at h1
    · split at h2
      · rw [if_pos (by omega)]; decide
      · split at h2
        · omega
        · rw [if_pos (by omega)]; decide
    · split at h1
      · omega
      · split at h2
        · rw [if_pos (by omega)]; decide
        · split at h2
          · omega
          · rw [if_neg (by omega), if_neg (by omega)]; exact ih h1 h2
/-- What is found: how it is called, and how far it is. -/
def encF (x : ByteArray × Int) : List Value := [.string x.1, .int .i64 x.2]
def cfF (x y : ByteArray × Int) : Int := if x.2 = y.2 then Lib.compareBytes x.1.data.toList y.1.data.toList else Lib.compareInt x.2 y.2
def ltF (x y : ByteArray × Int) : Bool := ltOf cfF x y
theorem ltF_iff (x y : ByteArray × Int) : ltF x y = true ↔ x.2 < y.2 ∨ x.2 = y.2 ∧ Lib.compareBytes x.1.data.toList y.1.data.toList < 0 := by
  unfold ltF ltOf cfF Lib.compareInt
  rw [decide_eq_true_eq]
  by_cases h : x.2 = y.2
  · rw [if_pos h]
    exact ⟨fun h' => Or.inr ⟨h, h'⟩, fun h' => h'.elim (fun h' => by omega) (fun h' => h'.2)⟩
  · rw [if_neg h]
    by_cases h1 : x.2 < y.2
    · rw [if_pos h1]; exact ⟨fun _ => Or.inl h1, fun _ => by decide⟩
    · rw [if_neg h1]
      have h2 : x.2 > y.2 := by omega
      rw [if_pos h2]
      exact ⟨fun h' => by omega, fun h' => by omega⟩
theorem ltF_irrefl (x : ByteArray × Int) : ltF x x = false := by
  cases h : ltF x x with
  | false => rfl
  | true =>
    rcases (ltF_iff x x).1 h with h | h
    · omega
    · have := cB_self x.1.data.toList; omega
theorem ltF_trans (x y z : ByteArray × Int) (h1 : ltF x y = true) (h2 : ltF y z = true) : ltF x z = true := by
  rw [ltF_iff] at *
  rcases h1 with h1 | ⟨e1, h1⟩
  · rcases h2 with h2 | ⟨e2, h2⟩
    · exact Or.inl (by omega)
    · exact Or.inl (by omega)
  · rcases h2 with h2 | ⟨e2, h2⟩
    · exact Or.inl (by omega)
    · exact Or.inr ⟨by omega, cB_trans _ _ _ h1 h2⟩
theorem ba_inj {a b : ByteArray} (h : a.data.toList = b.data.toList) : a = b := by
  cases a; cases b; simp only [ByteArray.mk.injEq]; exact Array.toList_inj.1 h
theorem ltF_tot (x y : ByteArray × Int) (h1 : ltF x y = false) (h2 : ltF y x = false) : x = y := by
  have n1 : ¬ ltF x y = true := by rw [h1]; decide
  have n2 : ¬ ltF y x = true := by rw [h2]; decide
  rw [ltF_iff] at n1 n2
  have e : x.2 = y.2 := by omega
  have hc := cB_neg x.1.data.toList y.1.data.toList
  have e1 : x.1 = y.1 := ba_inj (cB_zero _ _ (by
    by_cases q1 : Lib.compareBytes x.1.data.toList y.1.data.toList < 0
    · exact absurd (Or.inr ⟨e, q1⟩) n1
    · by_cases q2 : Lib.compareBytes y.1.data.toList x.1.data.toList < 0
      · exact absurd (Or.inr ⟨e.symm, q2⟩) n2
      · omega))
  exact Prod.ext e1 e
theorem ltF_ntrans (x y z : ByteArray × Int) (h1 : ltF x y = false) (h2 : ltF y z = false) : ltF x z = false := by
  cases h : ltF x z with
  | false => rfl
  | true =>
    cases h3 : ltF y x with
    | true => rw [ltF_trans y x z h3 h] at h2; cases h2
    | false =>
      have := ltF_tot x y h1 h3
      subst this
      rw [h] at h2; cases h2
theorem swoF : Sort.SWO (ltOf cfF) := ⟨ltF_irrefl, ltF_trans, ltF_ntrans⟩
theorem totF : ∀ x y, (ltOf cfF) x y = false → (ltOf cfF) y x = false → x = y := ltF_tot
theorem cfF_neg (x y : ByteArray × Int) : (cfF x y < 0) = (ltF x y = true) := by unfold ltF ltOf; simp
theorem cfF_zero (x y : ByteArray × Int) : cfF x y = 0 ↔ x = y := by
  constructor
  · intro h
    refine ltF_tot x y ?_ ?_
    · cases h' : ltF x y with
      | false => rfl
      | true => rw [← cfF_neg] at h'; omega
    · cases h' : ltF y x with
      | false => rfl
      | true =>
        rcases (ltF_iff y x).1 h' with q | ⟨q1, q2⟩
        · unfold cfF Lib.compareInt at h
          rw [if_neg (by omega), if_neg (by omega), if_pos (by omega)] at h; cases h
        · unfold cfF at h
          rw [if_pos q1.symm] at h
          have := cB_neg x.1.data.toList y.1.data.toList
          omega
  · intro h
    subst h
    unfold cfF
    rw [if_pos rfl]; exact cB_self _
/-- What is found, in its order. -/
def srt (l : List (ByteArray × Int)) : List (ByteArray × Int) := l.mergeSort fun x y => !ltF y x
theorem srt_perm (l : List (ByteArray × Int)) : (srt l).Perm l := List.mergeSort_perm _ _
theorem srt_sorted (l : List (ByteArray × Int)) : (srt l).Pairwise fun x y => ltF y x = false := by
  have h := List.pairwise_mergeSort (le := fun x y : ByteArray × Int => !ltF y x) (fun a b c h1 h2 => by
    simp only [Bool.not_eq_true'] at *
    exact ltF_ntrans c b a h2 h1) (fun a b => by
    cases h1 : ltF b a <;> cases h2 : ltF a b
    · rfl
    · rfl
    · rfl
    · have := ltF_trans a b a h2 h1; rw [ltF_irrefl] at this; cases this) l
  exact h.imp fun {a b} h => by simpa using h
theorem srt_of_perm {l l' : List (ByteArray × Int)} (h : l.Perm l') : srt l = srt l' := by
  refine List.Perm.eq_of_pairwise (le := fun x y => ltF y x = false) (fun a b _ _ h1 h2 => (ltF_tot b a h1 h2).symm) (srt_sorted l) (srt_sorted l') ((srt_perm l).trans (h.trans (srt_perm l').symm))
theorem srt_len (l : List (ByteArray × Int)) : (srt l).length = l.length := (srt_perm l).length_eq
/-- How far two points are. -/
def farK (zs ys : List Int) (k : Nat) : Int := (((zs.zip ys).take k).map fun p => (p.1 - p.2) * (p.1 - p.2)).foldl (· + ·) 0
def farI (zs ys : List Int) : Int := farK zs ys (min zs.length ys.length)
theorem farK_succ {zs ys : List Int} {k : Nat} {z y : Int} (hz : zs[k]? = some z) (hy : ys[k]? = some y) : farK zs ys (k + 1) = farK zs ys k + (z - y) * (z - y) := by
  unfold farK
  have : (zs.zip ys)[k]? = some (z, y) := by rw [List.getElem?_zip_eq_some]; exact ⟨hz, hy⟩
  rw [List.take_add_one, this]
  simp
end Go.Proofs.YtamalmgfhpneaaaDoor.Nr
namespace Go.Proofs.YtamalmgfhpneaaaDoor.Nr
open Go.Shelf Go.RowKit
def lays106_ren : Go.Shelf.Ren := ⟨fun | 106 => 27 | 213 => 49 | 265 => 69 | n => n, fun | 9 => 9 | 3 => 3 | n => n, fun | n => n⟩
theorem lays106 : Go.Proofs.Lays.n106 Tryd.prog lays106_ren := {
  mixed := by kernel_rfl
  f106 := Tryd.func27.trans (congrArg some (by kernel_rfl))
  f213 := Tryd.func49.trans (congrArg some (by kernel_rfl))
  f265 := Tryd.func69.trans (congrArg some (by kernel_rfl))
  t3 := Tryd.underlying3
  a3 := Tryd.isAgg3
  z3 := Tryd.sizeOf3
  v3 := Tryd.zeroValue3
  t9 := Tryd.underlying9
  a9 := Tryd.isAgg9
  z9 := Tryd.sizeOf9
  v9 := Tryd.zeroValue9 }
def sortF_ren : Go.Shelf.Ren := ⟨fun | 6 => 34 | 15 => 53 | 14 => 52 | 28 => 78 | 29 => 79 | 20 => 70 | 21 => 71 | 22 => 72 | 23 => 73 | 24 => 74 | 25 => 75 | 26 => 76 | 27 => 77 | 46 => 89 | 47 => 90 | 48 => 91 | 49 => 92 | 50 => 93 | 57 => 97 | n => n, fun | 22 => 31 | 24 => 25 | 25 => 28 | 3 => 3 | 39 => 85 | 0 => 0 | 53 => 124 | 55 => 126 | 4 => 4 | 46 => 117 | 45 => 116 | 50 => 121 | 5 => 5 | 9 => 9 | 66 => 143 | 70 => 147 | 76 => 151 | 77 => 152 | n => n, fun | n => n⟩
theorem sortF : Go.Proofs.SlLaysF0.n6 Tryd.prog sortF_ren := {
  mixed := by kernel_rfl
  f6 := ⟨Tryd.f34.name, by decide, Tryd.func34.trans (congrArg some (by kernel_rfl))⟩
  f14 := ⟨Tryd.f52.name, by decide, Tryd.func52.trans (congrArg some (by kernel_rfl))⟩
  f15 := Tryd.func53.trans (congrArg some (by kernel_rfl))
  f20 := ⟨Tryd.f70.name, by decide, Tryd.func70.trans (congrArg some (by kernel_rfl))⟩
  f21 := ⟨Tryd.f71.name, by decide, Tryd.func71.trans (congrArg some (by kernel_rfl))⟩
  f22 := ⟨Tryd.f72.name, by decide, Tryd.func72.trans (congrArg some (by kernel_rfl))⟩
  f23 := ⟨Tryd.f73.name, by decide, Tryd.func73.trans (congrArg some (by kernel_rfl))⟩
  f24 := ⟨Tryd.f74.name, by decide, Tryd.func74.trans (congrArg some (by kernel_rfl))⟩
  f25 := ⟨Tryd.f75.name, by decide, Tryd.func75.trans (congrArg some (by kernel_rfl))⟩
  f26 := ⟨Tryd.f76.name, by decide, Tryd.func76.trans (congrArg some (by kernel_rfl))⟩
  f27 := ⟨Tryd.f77.name, by decide, Tryd.func77.trans (congrArg some (by kernel_rfl))⟩
  f28 := Tryd.func78.trans (congrArg some (by kernel_rfl))
  f29 := Tryd.func79.trans (congrArg some (by kernel_rfl))
  f46 := ⟨Tryd.f89.name, by decide, Tryd.func89.trans (congrArg some (by kernel_rfl))⟩
  f47 := Tryd.func90.trans (congrArg some (by kernel_rfl))
  f48 := Tryd.func91.trans (congrArg some (by kernel_rfl))
  f49 := ⟨Tryd.f92.name, by decide, Tryd.func92.trans (congrArg some (by kernel_rfl))⟩
  f50 := ⟨Tryd.f93.name, by decide, Tryd.func93.trans (congrArg some (by kernel_rfl))⟩
  f57 := ⟨Tryd.f97.name, by decide, Tryd.func97.trans (congrArg some (by kernel_rfl))⟩
  t0 := Tryd.underlying0
  a0 := Tryd.isAgg0
  z0 := Tryd.sizeOf0
  v0 := Tryd.zeroValue0
  t3 := Tryd.underlying3
  a3 := Tryd.isAgg3
  z3 := Tryd.sizeOf3
  v3 := Tryd.zeroValue3
  t4 := Tryd.underlying4
  a4 := Tryd.isAgg4
  z4 := Tryd.sizeOf4
  v4 := Tryd.zeroValue4
  t5 := Tryd.underlying5
  a5 := Tryd.isAgg5
  z5 := Tryd.sizeOf5
  v5 := Tryd.zeroValue5
  t9 := Tryd.underlying9
  a9 := Tryd.isAgg9
  z9 := Tryd.sizeOf9
  v9 := Tryd.zeroValue9
  t22 := Tryd.underlying31
  a22 := Tryd.isAgg31
  z22 := Tryd.sizeOf31
  v22 := Tryd.zeroValue31
  t25 := Tryd.underlying28
  a25 := Tryd.isAgg28
  z25 := Tryd.sizeOf28
  v25 := Tryd.zeroValue28
  t39 := Tryd.underlying85
  a39 := Tryd.isAgg85
  z39 := Tryd.sizeOf85
  v39 := Tryd.zeroValue85
  t45 := Tryd.underlying116
  a45 := Tryd.isAgg116
  z45 := Tryd.sizeOf116
  v45 := Tryd.zeroValue116
  t46 := Tryd.underlying117
  a46 := Tryd.isAgg117
  z46 := Tryd.sizeOf117
  v46 := Tryd.zeroValue117
  t50 := Tryd.underlying121
  a50 := Tryd.isAgg121
  z50 := Tryd.sizeOf121
  v50 := Tryd.zeroValue121
  t53 := Tryd.underlying124
  a53 := Tryd.isAgg124
  z53 := Tryd.sizeOf124
  v53 := Tryd.zeroValue124
  t55 := Tryd.underlying126
  a55 := Tryd.isAgg126
  z55 := Tryd.sizeOf126
  v55 := Tryd.zeroValue126
  t66 := Tryd.underlying143
  a66 := Tryd.isAgg143
  z66 := Tryd.sizeOf143
  v66 := Tryd.zeroValue143
  t70 := Tryd.underlying147
  a70 := Tryd.isAgg147
  z70 := Tryd.sizeOf147
  v70 := Tryd.zeroValue147
  t76 := Tryd.underlying151
  a76 := Tryd.isAgg151
  z76 := Tryd.sizeOf151
  v76 := Tryd.zeroValue151
  t77 := Tryd.underlying152
  a77 := Tryd.isAgg152
  z77 := Tryd.sizeOf152
  v77 := Tryd.zeroValue152 }
theorem strCmp_any (a b : ByteArray) (w : World) : Calls Tryd.prog 27 #[.string a, .string b] w fun e w' => e = .returned (.int .i64 (Lib.compareBytes a.data.toList b.data.toList)) ∧ w' = w := Any.strings_Compare lays106 a b w
theorem len0_any (w : World) : Calls Tryd.prog 53 #[.int .u64 0] w fun e w' => e = .returned (.int .i64 0) ∧ w' = w := by
  have h := Any.bits_Len (SlLaysF0.n15.bits (P := Tryd.prog) (ρ := sortF_ren) { sortF with }) 0 w (by omega) (by omega)
  exact h
set_option maxHeartbeats 1000000 in
theorem insNone_any (p : Option Addr) (cap : Nat) (fv : Value) (w : World) :
    Calls Tryd.prog 70 #[.slice p 0 cap, .int .i64 0, .int .i64 0, fv] w fun e w' => e = .returned (.tuple #[]) ∧ w' = w := by
  go_enter Tryd.func70, Tryd.ntmps70
  go_wp2
  refine wp_loop_rounds 1 ?_
  rw [rounds_succ]
  go_wp2
  go_end0
  exact ⟨rfl, rfl⟩
set_option maxHeartbeats 1000000 in
theorem pdqNone_any (p : Option Addr) (cap : Nat) (lim : Int) (fv : Value) (w : World) :
    Calls Tryd.prog 52 #[.slice p 0 cap, .int .i64 0, .int .i64 0, .int .i64 lim, fv] w fun e w' => e = .returned (.tuple #[]) ∧ w' = w := by
  go_enter Tryd.func52, Tryd.ntmps52
  go_wp2
  refine wp_loop_rounds 1 ?_
  rw [rounds_succ]
  go_wp2_with (go_at_call 70; refine (insNone_any _ _ _ _).mono ?_; rintro e w' ⟨rfl, rfl⟩)
  (try simp only [Exit.inBlock, Exit.then]); refine bodyPost_ret (results_none rfl _ _ _) rfl ?_
  exact ⟨rfl, rfl⟩
theorem sortNone_any (p : Option Addr) (cap : Nat) (fv : Value) (w : World) :
    Calls Tryd.prog 34 #[.slice p 0 cap, fv] w fun e w' => e = .returned (.tuple #[]) ∧ w' = w := by
  go_enter Tryd.func34, Tryd.ntmps34
  go_wp2_with (first
    | (go_at_call 53; refine (len0_any _).mono ?_; rintro e w' ⟨rfl, rfl⟩)
    | (go_at_call 52; refine (pdqNone_any _ _ _ _ _).mono ?_; rintro e w' ⟨rfl, rfl⟩))
  go_end0
  exact ⟨rfl, rfl⟩
end Go.Proofs.YtamalmgfhpneaaaDoor.Nr
namespace Go.Proofs.YtamalmgfhpneaaaDoor.Nr
open Go.RowKit
open It
theorem nearOut_any (n : Int) (w : World) : Calls Tryd.prog 29 #[.int .i64 n] w fun e w' => e = .returned (.bool (!numB n)) ∧ w' = w := by
  go_enter Tryd.func29, Tryd.ntmps29
  by_cases h1 : -1000 ≤ n <;> by_cases h2 : n ≤ 1000 <;>
  · go_wp2
    go_ret
    exact ⟨by simp [numB, h1, h2], rfl⟩
set_option maxHeartbeats 400000 in
theorem indexInts_any (a : Option Addr) (c : Nat) (zs : List Int) (w : World) (h : Ints w a zs) (hl : zs.length ≤ maxLen) :
    Calls Tryd.prog 50 #[.slice a zs.length c, .func (.func 29) #[] #[]] w fun e w' => (∃ j : Int, e = .returned (.int .i64 j) ∧ (decide (0 ≤ j) = !zs.all numB)) ∧ w' = w := by
  unfold maxLen at hl
  go_enter Tryd.func50, Tryd.ntmps50
  go_wp2_with fail
  go_loop [8] (fun i => ∃ k : Nat, k ≤ zs.length ∧ i = .int .i64 k ∧ (zs.take k).all numB = true) (fun i => zs.length - (intOf i).toNat)
  case atStart => exact ⟨0, by omega, rfl, by simp⟩
  case round =>
    obtain ⟨k, hk, rfl, hp⟩ := hrel
    by_cases hlt : k < zs.length
    · have HP : Hid ((zs.take k).all numB = true) := hp
      clear hp
      obtain ⟨g, o, rfl, hc⟩ := h k zs[k] (List.getElem?_eq_getElem hlt)
      have hg : g < w.heap.size := World.block_lt_of_cell? w _ hc
      have htk : Hid (zs[k]? = some zs[k]) := List.getElem?_eq_getElem hlt
      have hlt' : (k : Int) < (zs.length : Int) := by omega
      generalize zs[k] = x at *
      by_cases hx : numB x = true
      · go_wp2_with (go_at_call 29; refine (nearOut_any _ _).mono ?_; rintro e w' ⟨rfl, rfl⟩; rw [hx])
        go_round
        case rel => exact ⟨k + 1, by omega, by go_num, by rw [List.take_add_one, htk.out, List.all_append, HP.out]; simp [hx]⟩
        case measure => simp [intOf]; omega
      · have hx' : numB x = false := by simpa using hx
        go_wp2_with (go_at_call 29; refine (nearOut_any _ _).mono ?_; rintro e w' ⟨rfl, rfl⟩; rw [hx'])
        go_ret
        refine ⟨⟨k, rfl, ?_⟩, rfl⟩
        have : zs.all numB = false := by rw [List.all_eq_false]; exact ⟨x, List.mem_of_getElem? htk.out, by simp [hx']⟩
        rw [this]; simp
    · have hk' : k = zs.length := by omega
      subst hk'
      rw [List.take_length] at hp
      have HP : Hid (zs.all numB = true) := hp
      clear hp
      go_wp2_with fail
      go_ret
      exact ⟨⟨-1, rfl, by rw [HP.out]; decide⟩, rfl⟩
theorem containsInts_any (a : Option Addr) (c : Nat) (zs : List Int) (w : World) (h : Ints w a zs) (hl : zs.length ≤ maxLen) :
    Calls Tryd.prog 28 #[.slice a zs.length c, .func (.func 29) #[] #[]] w fun e w' => e = .returned (.bool (!zs.all numB)) ∧ w' = w := by
  go_enter Tryd.func28, Tryd.ntmps28
  go_wp2_with (go_at_call 50; refine (indexInts_any _ _ _ _ h hl).mono ?_; rintro e w' ⟨⟨j, rfl, hj⟩, rfl⟩)
  go_ret
  refine ⟨?_, rfl⟩
  rw [← hj]; simp
/-- Whether something may be asked. -/
def askB (dim : Int) (zs : List Int) (k : Int) : Bool := decide ((zs.length : Int) = dim) && decide (1 ≤ k) && decide (k ≤ 60) && zs.all numB
set_option maxHeartbeats 400000 in
theorem ask_any (dim : Int) (a : Option Addr) (c : Nat) (zs : List Int) (k : Int) (w : World) (h : Ints w a zs) (hl : zs.length ≤ maxLen) :
    Calls Tryd.prog 8 #[.int .i64 dim, .slice a zs.length c, .int .i64 k] w fun e w' => e = .returned (.bool (askB dim zs k)) ∧ w' = w := by
  have hl' : zs.length ≤ 9223372036854775807 := hl
  have HA : Hid (askB dim zs k = (decide ((zs.length : Int) = dim) && decide (1 ≤ k) && decide (k ≤ 60) && zs.all numB)) := rfl
  rw [HA.out]
  by_cases c1 : (zs.length : Int) = dim
  rotate_left
  · have c1' : decide ((zs.length : Int) = dim) = false := by simpa using c1
    go_enter Tryd.func8, Tryd.ntmps8
    go_wp2
    go_ret
    exact ⟨by rw [c1']; rfl, rfl⟩
  subst c1
  by_cases c2 : 1 ≤ k
  rotate_left
  · have c2' : k < 1 := by omega
    go_enter Tryd.func8, Tryd.ntmps8
    go_wp2
    go_ret
    exact ⟨by rw [decide_eq_false (show ¬ (1 ≤ k) by omega)]; simp, rfl⟩
  have c2' : ¬ k < 1 := by omega
  by_cases c3 : k ≤ 60
  rotate_left
  · have c3' : 60 < k := by omega
    go_enter Tryd.func8, Tryd.ntmps8
    go_wp2
    go_ret
    exact ⟨by rw [decide_eq_false (show ¬ (k ≤ 60) by omega)]; simp, rfl⟩
  have c3' : ¬ 60 < k := by omega
  have HB : Hid ((decide ((zs.length : Int) = (zs.length : Int)) && decide (1 ≤ k) && decide (k ≤ 60) && zs.all numB) = zs.all numB) := by unfold Hid; simp [c2, c3]
  rw [HB.out]
  go_enter Tryd.func8, Tryd.ntmps8
  go_wp2_with (go_at_call 28; refine (containsInts_any _ _ _ _ h hl).mono ?_; rintro e w' ⟨rfl, rfl⟩)
  go_ret
  exact ⟨by simp, rfl⟩
set_option maxHeartbeats 400000 in
theorem far_any (a b : Option Addr) (c d : Nat) (zs ys : List Int) (w : World) (ha : Ints w a zs) (hb : Ints w b ys) (hl : zs.length ≤ 100) (hz : zs.all numB = true) (hy : ys.all numB = true) :
    Calls Tryd.prog 15 #[.slice a zs.length c, .slice b ys.length d] w fun e w' => e = .returned (.int .i64 (farI zs ys)) ∧ ∃ n, w' = w.drewN n := by
  have HZ : Hid (∀ z ∈ zs, -1000 ≤ z ∧ z ≤ 1000) := fun z hz' => by have := List.all_eq_true.1 hz z hz'; simpa [numB] using this
  have HY : Hid (∀ z ∈ ys, -1000 ≤ z ∧ z ≤ 1000) := fun z hz' => by have := List.all_eq_true.1 hy z hz'; simpa [numB] using this
  obtain ⟨m, hm⟩ : ∃ m, Hid (min zs.length ys.length = m) := ⟨_, rfl⟩
  have hmz : m ≤ zs.length := by rw [← hm.out]; omega
  have hmy : m ≤ ys.length := by rw [← hm.out]; omega
  have HF : Hid (farI zs ys = farK zs ys m) := by unfold Hid farI; rw [hm.out]
  have hmin : min (zs.length : Int) (ys.length : Int) = (m : Int) := by rw [← hm.out]; omega
  rw [HF.out]
  clear hz hy
  go_enter Tryd.func15, Tryd.ntmps15
  go_wp2_with fail
  go_loopw [5, 13] (fun s i wr => ∃ k n : Nat, k ≤ m ∧ i = .int .i64 k ∧ s = .int .i64 (farK zs ys k) ∧ Hid (0 ≤ farK zs ys k ∧ farK zs ys k ≤ 4000000 * k) ∧ wr = w.drewN n) (fun _ i _ => m - (intOf i).toNat)
  case atStart => exact ⟨0, 0, by omega, rfl, rfl, by unfold Hid farK; simp, rfl⟩
  case round =>
    obtain ⟨k, n, hk, rfl, rfl, HB, rfl⟩ := hrel
    by_cases hlt : k < m
    · have hzk : zs[k]? = some zs[k] := List.getElem?_eq_getElem (by omega)
      have hyk : ys[k]? = some ys[k] := List.getElem?_eq_getElem (by omega)
      obtain ⟨g, o, rfl, q1⟩ := ha k _ hzk
      obtain ⟨g', o', rfl, q2⟩ := hb k _ hyk
      have hs : Hid _ := farK_succ hzk hyk
      have b1 := HZ.out _ (List.mem_of_getElem? hzk)
      have b2 := HY.out _ (List.mem_of_getElem? hyk)
      have hlt' : (k : Int) < (m : Int) := by omega
      generalize zs[k] = z at *
      generalize ys[k] = y at *
      obtain ⟨dd, hdd⟩ : ∃ dd, z - y = dd := ⟨_, rfl⟩
      have hd0 : Hid (0 ≤ dd * dd ∧ dd * dd ≤ 4000000) := by
        have h1 : -2000 ≤ dd := by omega
        have h2 : dd ≤ 2000 := by omega
        have h3 : (2000 - dd) * (2000 + dd) ≥ 0 := Int.mul_nonneg (by omega) (by omega)
        have h4 : (2000 - dd) * (2000 + dd) = 4000000 - dd * dd := by
          rw [Int.sub_mul, Int.mul_add, Int.mul_add, Int.mul_comm dd 2000]; omega
        exact ⟨by rcases Int.le_total 0 dd with h | h
                  · exact Int.mul_nonneg h h
                  · have := Int.mul_nonneg (show 0 ≤ -dd by omega) (show 0 ≤ -dd by omega); rwa [Int.neg_mul_neg] at this, by omega⟩
      obtain ⟨qq, hqq⟩ : ∃ qq, dd * dd = qq := ⟨_, rfl⟩
      have hw1 : IntKind.i64.wrap dd = dd := by rw [IntKind.wrap_i64]; omega
      have hw2 : IntKind.i64.wrap qq = qq := by have := hd0.out; rw [IntKind.wrap_i64]; omega
      have HS : Hid (farK zs ys (k + 1) = farK zs ys k + qq) := by have := hs.out; rw [hdd, hqq] at this; exact this
      have HQ : Hid (0 ≤ qq ∧ qq ≤ 4000000) := by rw [← hqq]; exact hd0.out
      generalize farK zs ys k = s at *
      have hw3 : IntKind.i64.wrap (s + qq) = s + qq := by have := HB.out; have := HQ.out; rw [IntKind.wrap_i64]; omega
      clear hs hd0
      go_wp2_with fail
      go_quiet (fail)
      go_wp2
      go_light
      refine ⟨⟨k + 1, n + nq, by omega, by go_num, by rw [HS.out], ?_, rfl⟩, by simp [intOf]; omega⟩
      have := HB.out
      have := HQ.out
      unfold Hid
      rw [HS.out]
      omega
    · have hk' : k = m := by omega
      subst hk'
      go_wp2_with fail
      go_ret
      exact ⟨rfl, n, rfl⟩
theorem cmpInt_any (x y : Int) (w : World) : Calls Tryd.prog 26 #[.int .i64 x, .int .i64 y] w fun e w' => e = .returned (.int .i64 (Lib.compareInt x y)) ∧ w' = w := by
  have hN : ∀ (x : Int) (w : World), Calls Tryd.prog 48 #[.int .i64 x] w fun e w' => e = .returned (.bool false) ∧ w' = w := fun x w => by
    go_enter Tryd.func48, Tryd.ntmps48
    go_wp2
    go_ret
    exact ⟨rfl, rfl⟩
  by_cases h1 : x < y
  · have e : Lib.compareInt x y = -1 := if_pos h1
    rw [e]
    go_enter Tryd.func26, Tryd.ntmps26
    go_wp2_with (go_at_call 48; refine (hN _ _).mono ?_; rintro e w' ⟨rfl, rfl⟩)
    go_ret
    exact ⟨rfl, rfl⟩
  · by_cases h2 : y < x
    · have e : Lib.compareInt x y = 1 := by unfold Lib.compareInt; rw [if_neg h1, if_pos h2]
      rw [e]
      go_enter Tryd.func26, Tryd.ntmps26
      go_wp2_with (go_at_call 48; refine (hN _ _).mono ?_; rintro e w' ⟨rfl, rfl⟩)
      go_ret
      exact ⟨rfl, rfl⟩
    · have e : Lib.compareInt x y = 0 := by unfold Lib.compareInt; rw [if_neg h1, if_neg (by omega)]
      rw [e]
      go_enter Tryd.func26, Tryd.ntmps26
      go_wp2_with (go_at_call 48; refine (hN _ _).mono ?_; rintro e w' ⟨rfl, rfl⟩)
      go_ret
      exact ⟨rfl, rfl⟩
set_option maxHeartbeats 400000 in
theorem compare_any (x y : ByteArray × Int) (w : World) : Calls Tryd.prog 7 #[.agg #[.string x.1, .int .i64 x.2], .agg #[.string y.1, .int .i64 y.2]] w fun e w' => e = .returned (.int .i64 (cfF x y)) ∧ ∃ os, w' = Go.Sort.grow w os := by
  obtain ⟨xn, xf⟩ := x
  obtain ⟨yn, yf⟩ := y
  by_cases h : xf = yf
  · have e : cfF (xn, xf) (yn, yf) = Lib.compareBytes xn.data.toList yn.data.toList := if_pos h
    rw [e]
    subst h
    go_enter Tryd.func7, Tryd.ntmps7
    go_wp2_with (go_at_call 27; refine (strCmp_any _ _ _).mono ?_; rintro e w' ⟨rfl, rfl⟩)
    go_ret
    exact ⟨rfl, _, by rw [Go.Sort.alloc_eq_grow, Go.Sort.alloc_eq_grow, Go.Sort.grow_grow]⟩
  · have e : cfF (xn, xf) (yn, yf) = Lib.compareInt xf yf := if_neg h
    rw [e]
    go_enter Tryd.func7, Tryd.ntmps7
    go_wp2_with (go_at_call 26; refine (cmpInt_any _ _ _).mono ?_; rintro e w' ⟨rfl, rfl⟩)
    go_ret
    exact ⟨rfl, _, by rw [Go.Sort.alloc_eq_grow, Go.Sort.alloc_eq_grow, Go.Sort.grow_grow]⟩
end Go.Proofs.YtamalmgfhpneaaaDoor.Nr
namespace Go.Proofs.YtamalmgfhpneaaaDoor.Nr
open Go.RowKit
open It
/-- What is found, cell by cell. -/
def flatF (l : List (ByteArray × Int)) : List Value := l.flatMap encF
theorem flatF_len (l : List (ByteArray × Int)) : (flatF l).length = l.length * 2 := by
  induction l with
  | nil => rfl
  | cons x l ih => show (encF x ++ flatF l).length = _; rw [List.length_append, ih, List.length_cons]; simp [encF]; omega
theorem flatF_snoc (l : List (ByteArray × Int)) (x : ByteArray × Int) : flatF (l ++ [x]) = flatF l ++ [.string x.1, .int .i64 x.2] := by simp [flatF, encF]
theorem flatF_cell : ∀ (l : List (ByteArray × Int)) (i : Nat) (x : ByteArray × Int), l[i]? = some x → (flatF l)[i * 2]? = some (.string x.1) ∧ (flatF l)[i * 2 + 1]? = some (.int .i64 x.2)
  | [], i, x, h => by simp at h
  | y :: l, 0, x, h => by simp at h; subst h; exact ⟨rfl, rfl⟩
  | y :: l, i + 1, x, h => by
    have ih := flatF_cell l i x (by simpa using h)
    have e : flatF (y :: l) = .string y.1 :: .int .i64 y.2 :: flatF l := rfl
    rw [e, show (i + 1) * 2 = i * 2 + 1 + 1 from by omega]
    simpa using ih
/-- A slice of what is found. -/
def Fnds (w : World) (v : Value) (l : List (ByteArray × Int)) : Prop := ∃ a c, v = .slice a l.length c ∧ l.length ≤ c ∧ ∀ i x, l[i]? = some x → ∃ g o, a = some ⟨g, o, none⟩ ∧ g < w.heap.size ∧ w.cell? ⟨g, o + i * 2, none⟩ = some (.string x.1) ∧ w.cell? ⟨g, o + i * 2 + 1, none⟩ = some (.int .i64 x.2)
theorem Fnds.below {w w' : World} {v : Value} {l : List (ByteArray × Int)} (h : Fnds w v l) (hb : Below w.heap.size w w') : Fnds w' v l := by
  obtain ⟨a, c, h1, h2, h3⟩ := h
  refine ⟨a, c, h1, h2, fun i x hx => ?_⟩
  obtain ⟨g, o, q1, q2, q3, q4⟩ := h3 i x hx
  exact ⟨g, o, q1, Nat.lt_of_lt_of_le q2 hb.size, (World.cell?_of_block (hb.block g q2)).trans q3, (World.cell?_of_block (hb.block g q2)).trans q4⟩
theorem below_grow {B : Nat} {w w' : World} (h : Below B w w') (os : Array Obj) (hB : B ≤ w'.heap.size) : Below B w (Go.Sort.grow w' os) :=
  ⟨h.os, h.tape, h.output, by show w.heap.size ≤ (w'.heap ++ os).size; rw [Array.size_append]; have := h.size; omega, fun k hk => by
    rw [← h.block k hk]
    show (w'.heap ++ os)[k]? = w'.heap[k]?
    rw [Array.getElem?_append_left (by omega)]⟩
theorem own_parts {w : World} {B : Nat} {e : TypeId} {z : Nat} {v : Value} {n : Nat} {xs : List Value} (h : w.ownsRow B e z v n xs) (hn : 0 < n * z) :
    ∃ g cap cur, v = .slice (some ⟨g, 0, none⟩) n cap ∧ B ≤ g ∧ g < w.heap.size ∧ w.heap[g]? = some (.cells cur e (0, 0)) ∧ n ≤ cap ∧ cap ≤ maxLen ∧ cur.size = cap * z ∧ cur.toList.take (n * z) = xs := by
  obtain ⟨h1, ⟨h2, h3⟩ | ⟨g, cap, cur, hv, hgB, hh, hc1, hc2, hs, ht⟩⟩ := h
  · exfalso; rw [h3] at hn; simp at hn
  · exact ⟨g, cap, cur, hv, hgB, (Array.getElem?_eq_some_iff.1 hh).1, hh, hc1, hc2, hs, ht⟩
theorem flatK_get (l : List (ByteArray × Int)) (t : Nat) (h : t < l.length * 2) : (flatF l)[t]? = some ((Go.Sort.flatK encF 2 l.toArray)[t]!) := by
  rw [Go.Sort.get_flatK _ _ _ _ (by simpa using h)]
  have hi : t / 2 < l.length := by omega
  obtain ⟨x, hx⟩ : ∃ x, l[t / 2]? = some x := ⟨_, List.getElem?_eq_getElem hi⟩
  have e : l.toArray[t / 2]! = x := by
    rw [getElem!_pos _ _ (by simpa using hi)]
    rw [List.getElem?_eq_getElem hi] at hx
    simpa using hx
  rw [e]
  obtain ⟨q1, q2⟩ := flatF_cell l (t / 2) _ hx
  rcases Nat.mod_two_eq_zero_or_one t with h0 | h0
  · rw [h0]
    have e2 : t = t / 2 * 2 := by omega
    conv => lhs; rw [e2]
    rw [q1]; rfl
  · rw [h0]
    have e2 : t = t / 2 * 2 + 1 := by omega
    conv => lhs; rw [e2]
    rw [q2]; rfl
set_option maxHeartbeats 1000000 in
theorem sort_any (B g cap : Nat) (l : List (ByteArray × Int)) (w : World) (h : w.ownsRow B 25 2 (.slice (some ⟨g, 0, none⟩) l.length cap) l.length (flatF l)) (hl0 : 0 < l.length) (hl : l.length ≤ 1000) (hB : B ≤ w.heap.size) :
    Calls Tryd.prog 34 #[.slice (some ⟨g, 0, none⟩) l.length cap, .func (.func 7) #[] #[]] w fun e w' => e = .returned (.tuple #[]) ∧ Fnds w' (.slice (some ⟨g, 0, none⟩) l.length cap) (srt l) ∧ Below B w w' := by
  obtain ⟨g', cap', cur, hv, hgB, hgl, hh, hc1, hc2, hs, ht⟩ := own_parts h (by omega)
  injection hv with hv1 hv2 hv3
  injection hv1 with hv1
  injection hv1 with hv1
  subst hv1 hv3
  have hH : Go.Sort.HoldsK encF 2 w g 0 l.toArray := by
    intro t htl
    rw [Go.Sort.size_flatK] at htl
    have htl' : t < l.length * 2 := by simpa using htl
    have hf := flatK_get l t htl'
    rw [← ht, List.getElem?_take_of_lt htl', Array.getElem?_toList] at hf
    refine ⟨?_, ?_⟩
    · rw [Nat.zero_add]; simp only [World.cell?, hh]; exact hf
    · simp [World.frozen?, hh]
  have eg : ∀ args w, (callFunc 7 args).run Tryd.prog w = .ok (.enter 7 args) w := enters_of Tryd.func7 (by kernel_rfl) rfl
  have hcon := AnyQ.slices_SortFunc sortF 2 Tryd.isAgg25 Tryd.sizeOf25 encF (fun _ => rfl) (fun x v hv => by simp [encF] at hv; rcases hv with rfl | rfl <;> rfl) cfF swoF 7 #[] g 0 cap l.toArray w eg
    (fun m os dk _ x y => (compare_any x y _).mono fun e w' ⟨he, os', hw⟩ => ⟨he, 0, os', hw⟩) hH hgl (by simp; omega)
  have hsz : l.toArray.size = l.length := by simp
  rw [hsz] at hcon
  refine hcon.mono ?_
  rintro e w' ⟨rfl, d', n, os, hp, hso, rfl⟩
  obtain ⟨p1, _, p3⟩ := hp
  have p1' : d'.size = l.length := by rw [p1]; simp
  have hd : d'.toList = srt l := by
    have e1 : (d'.extract 0 l.length).toList = d'.toList := by rw [← p1']; simp
    have e2 : (l.toArray.extract 0 l.length).toList = l := by simp
    rw [e1, e2] at p3
    refine List.Perm.eq_of_pairwise (le := fun x y => ltF y x = false) (fun a b _ _ h1 h2 => (ltF_tot b a h1 h2).symm) ?_ (srt_sorted l) (p3.trans (srt_perm l).symm)
    rw [List.pairwise_iff_getElem]
    intro i j hi hj hij
    have := hso i j (Nat.zero_le _) hij (by simpa [p1'] using hj)
    rw [getElem!_pos _ _ (by simpa using hj), getElem!_pos _ _ (by simpa using hi)] at this
    have this' : ltF d'[j] d'[i] = false := this
    simpa using this'
  have hH' := Go.Sort.holdsK_grow (enc := encF) (k := 2) (Go.Sort.putRowK encF 2 (Go.Sort.ahead w n) g 0 d') os g 0 d' (by simpa [Go.Sort.putRowK, Go.Sort.ahead] using hgl) (Go.Sort.holdsK_putRowK (enc := encF) (k := 2) (Go.Sort.ahead w n) g 0 l.toArray d' (Go.Sort.holdsK_ahead (enc := encF) (k := 2) w n g 0 _ hH) (by simpa using p1'))
  have hbel : Below B w (Go.Sort.putRowK encF 2 (Go.Sort.ahead w n) g 0 d') := ⟨rfl, rfl, rfl, by simp [Go.Sort.putRowK, Go.Sort.putRow, Go.Sort.mapBlock, Go.Sort.ahead], fun k hk => by
    simp [Go.Sort.putRowK, Go.Sort.putRow, Go.Sort.mapBlock, Go.Sort.ahead, Array.getElem?_modify, show g ≠ k by omega]⟩
  refine ⟨rfl, ⟨_, cap, by rw [srt_len], by rw [srt_len]; exact hc1, fun i x hx => ?_⟩, below_grow hbel os (Nat.le_trans hB hbel.size)⟩
  rw [← hd] at hx
  have hil : i < d'.size := by have := (List.getElem?_eq_some_iff.1 hx).1; simpa using this
  have hdx : d'[i]! = x := by
    rw [getElem!_pos d' i hil]
    rw [Array.getElem?_toList, Array.getElem?_eq_getElem hil] at hx
    exact Option.some.inj hx
  have c0 := (hH'.cell hil (show 0 < 2 by decide)).1
  have c1 := (hH'.cell hil (show 1 < 2 by decide)).1
  rw [hdx] at c0 c1
  refine ⟨g, 0, rfl, ?_, c0, c1⟩
  show g < ((Go.Sort.putRowK encF 2 (Go.Sort.ahead w n) g 0 d').heap ++ os).size
  rw [Array.size_append]
  have := hbel.size
  omega
end Go.Proofs.YtamalmgfhpneaaaDoor.Nr
