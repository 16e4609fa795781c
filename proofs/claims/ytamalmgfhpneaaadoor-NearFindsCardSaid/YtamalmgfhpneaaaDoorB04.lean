/-
  Part of the proof: which items may be, which are held, and pick, are walked (out of the items' texts).
-/
import Derived.Test.YtamalmgfhpneaaaDoorB03
import Derived.Lib.SmallJoins
namespace Go.Proofs.YtamalmgfhpneaaaDoor.It
open Go.RowKit
/-- An item. -/
structure Itm where
  name : ByteArray
  tag : ByteArray
  nums : List Int
/-- A small letter; a digit. -/
def isLet (c : UInt8) : Bool := decide (97 ≤ c.toNat) && decide (c.toNat ≤ 122)
def isDig (c : UInt8) : Bool := decide (48 ≤ c.toNat) && decide (c.toNat ≤ 57)
/-- Something may be called so. -/
def nameB (s : ByteArray) : Bool := decide (1 ≤ s.size) && decide (s.size ≤ 10) && isLet (s.data.toList.getD 0 0) && s.data.toList.all fun c => isLet c || isDig c
def dimB (d : Int) : Bool := decide (1 ≤ d) && decide (d ≤ 8)
def numB (n : Int) : Bool := decide (-1000 ≤ n) && decide (n ≤ 1000)
def tagB (s : ByteArray) : Bool := decide (s.size = 0) || nameB s
def rightB (x : Itm) (d : Int) : Bool := dimB d && decide ((x.nums.length : Int) = d) && nameB x.name && tagB x.tag && x.nums.all numB
theorem cell_below {w w' : World} (hb : Below w.heap.size w w') {b o : Nat} {v : Value} (h : w.cell? ⟨b, o, none⟩ = some v) : w'.cell? ⟨b, o, none⟩ = some v := by
  rw [hb.cell (World.block_lt_of_cell? w _ h)]; exact h
theorem below_alloc (w : World) (o : Obj) : Below w.heap.size w (w.alloc o) := (Below.refl _ _).alloc (Nat.le_refl _) o
/-- A slice of numbers reads as zs. -/
def Ints (w : World) (a : Option Addr) (zs : List Int) : Prop := ∀ (i : Nat) z, zs[i]? = some z → ∃ g o, a = some ⟨g, o, none⟩ ∧ w.cell? ⟨g, o + i, none⟩ = some (.int .i64 z)
theorem Ints.below {w w' : World} {a : Option Addr} {zs : List Int} (h : Ints w a zs) (hb : Below w.heap.size w w') : Ints w' a zs := by
  intro i z hz
  obtain ⟨g, o, h1, h2⟩ := h i z hz
  exact ⟨g, o, h1, cell_below hb h2⟩
theorem ownsRow_below {w w' : World} {B : Nat} {e : TypeId} {z : Nat} {v : Value} {n : Nat} {xs : List Value} (h : w.ownsRow B e z v n xs) (hb : Below w.heap.size w w') : w'.ownsRow B e z v n xs := by
  obtain ⟨h1, h2 | ⟨g, cap, cur, hv, hg, hh, r⟩⟩ := h
  · exact ⟨h1, Or.inl h2⟩
  · refine ⟨h1, Or.inr ⟨g, cap, cur, hv, hg, ?_, r⟩⟩
    have lt : g < w.heap.size := by
      rcases Nat.lt_or_ge g w.heap.size with h' | h'
      · exact h'
      · simp [Array.getElem?_eq_none h'] at hh
    rw [hb.block _ lt]; exact hh
theorem isDim_any (d : Int) (w : World) : Calls Tryd.prog 62 #[.int .i64 d] w fun e w' => e = .returned (.bool (dimB d)) ∧ w' = w := by
  go_enter Tryd.func62, Tryd.ntmps62
  by_cases h1 : 1 ≤ d <;> by_cases h2 : d ≤ 8 <;>
  · go_wp2
    go_ret
    exact ⟨by simp [dimB, h1, h2], rfl⟩
theorem isLetter_any (c : UInt8) (w : World) : Calls Tryd.prog 84 #[.int .u8 (c.toNat : Int)] w fun e w' => e = .returned (.bool (isLet c)) ∧ w' = w := by
  go_enter Tryd.func84, Tryd.ntmps84
  by_cases h1 : 97 ≤ c.toNat <;> by_cases h2 : c.toNat ≤ 122 <;>
  · have h1' : decide ((97 : Int) ≤ (c.toNat : Int)) = decide (97 ≤ c.toNat) := by congr 1; apply propext; omega
    have h2' : decide ((c.toNat : Int) ≤ 122) = decide (c.toNat ≤ 122) := by congr 1; apply propext; omega
    go_wp2
    go_ret
    exact ⟨by simp [isLet, h1, h2], rfl⟩
theorem isDigit_any (c : UInt8) (w : World) : Calls Tryd.prog 85 #[.int .u8 (c.toNat : Int)] w fun e w' => e = .returned (.bool (isDig c)) ∧ w' = w := by
  go_enter Tryd.func85, Tryd.ntmps85
  by_cases h1 : 48 ≤ c.toNat <;> by_cases h2 : c.toNat ≤ 57 <;>
  · have h1' : decide ((48 : Int) ≤ (c.toNat : Int)) = decide (48 ≤ c.toNat) := by congr 1; apply propext; omega
    have h2' : decide ((c.toNat : Int) ≤ 57) = decide (c.toNat ≤ 57) := by congr 1; apply propext; omega
    go_wp2
    go_ret
    exact ⟨by simp [isDig, h1, h2], rfl⟩
theorem numOut_any (n : Int) (w : World) : Calls Tryd.prog 64 #[.int .i64 n] w fun e w' => e = .returned (.bool (!numB n)) ∧ w' = w := by
  go_enter Tryd.func64, Tryd.ntmps64
  by_cases h1 : -1000 ≤ n <;> by_cases h2 : n ≤ 1000 <;>
  · go_wp2
    go_ret
    exact ⟨by simp [numB, h1, h2], rfl⟩
set_option maxHeartbeats 400000 in
theorem name_any (s : ByteArray) (w : World) (hs : s.size ≤ maxLen) : Calls Tryd.prog 63 #[.string s] w fun e w' => e = .returned (.bool (nameB s)) ∧ w' = w := by
  unfold maxLen at hs
  by_cases h1 : 1 ≤ s.size
  rotate_left
  · have h1' : (s.size : Int) < 1 := by omega
    go_enter Tryd.func63, Tryd.ntmps63
    go_wp2
    go_ret
    exact ⟨by simp [nameB, h1], rfl⟩
  by_cases h2 : s.size ≤ 10
  rotate_left
  · have h1' : ¬ ((s.size : Int) < 1) := by omega
    have h2' : (10 : Int) < (s.size : Int) := by omega
    go_enter Tryd.func63, Tryd.ntmps63
    go_wp2
    go_ret
    exact ⟨by simp [nameB, h2], rfl⟩
  have h1' : ¬ ((s.size : Int) < 1) := by omega
  have h2' : ¬ ((10 : Int) < (s.size : Int)) := by omega
  have e0 : s.data.toList.getD 0 0 = s[0] := by
    rw [List.getD_eq_getElem?_getD, List.getElem?_eq_getElem (by rw [← Lib.size_eq]; omega)]; rfl
  by_cases h3 : isLet s[0] = true
  rotate_left
  · have h3' : isLet s[0] = false := by simpa using h3
    go_enter Tryd.func63, Tryd.ntmps63
    go_wp2_with (go_at_call 84; refine (isLetter_any _ _).mono ?_; rintro e w1 ⟨rfl, rfl⟩; rw [h3'])
    go_ret
    exact ⟨by unfold nameB; rw [e0, h3']; simp, rfl⟩
  have hN : Hid (nameB s = s.data.toList.all fun c => isLet c || isDig c) := by unfold Hid nameB; rw [e0, h3]; simp [h1, h2]
  clear e0
  go_enter Tryd.func63, Tryd.ntmps63
  go_wp2_with (go_at_call 84; refine (isLetter_any _ _).mono ?_; rintro e w1 ⟨rfl, rfl⟩; rw [h3])
  go_loop [20] (fun i => ∃ k : Nat, k ≤ s.size ∧ i = .int .i64 k ∧ ((s.data.toList.take k).all fun c => isLet c || isDig c) = true) (fun i => s.size - (intOf i).toNat)
  case atStart => exact ⟨0, by omega, rfl, by simp⟩
  case round =>
    obtain ⟨k, hk, rfl, hp⟩ := hrel
    by_cases hlt : k < s.size
    · have HP : Hid (((s.data.toList.take k).all fun c => isLet c || isDig c) = true) := hp
      have hgl : s.data.toList[k]? = some s[k] := by rw [List.getElem?_eq_getElem (by rw [← Lib.size_eq]; omega)]; rfl
      have HG : Hid (s.data.toList[k]? = some s[k]) := hgl
      clear hp hgl
      have hlt' : (k : Int) < (s.size : Int) := by omega
      by_cases c1 : isLet s[k] = true
      · go_wp2_with (go_at_call 84; refine (isLetter_any _ _).mono ?_; rintro e w1 ⟨rfl, rfl⟩; rw [c1])
        go_round
        case rel => exact ⟨k + 1, by omega, by go_num, by rw [List.take_add_one, HG.out, List.all_append, HP.out]; simp [c1]⟩
        case measure => simp [intOf]; omega
      · have c1' : isLet s[k] = false := by simpa using c1
        by_cases c2 : isDig s[k] = true
        · go_wp2_with (first
            | (go_at_call 84; refine (isLetter_any _ _).mono ?_; rintro e w1 ⟨rfl, rfl⟩; rw [c1'])
            | (go_at_call 85; refine (isDigit_any _ _).mono ?_; rintro e w1 ⟨rfl, rfl⟩; rw [c2]))
          go_round
          case rel => exact ⟨k + 1, by omega, by go_num, by rw [List.take_add_one, HG.out, List.all_append, HP.out]; simp [c2]⟩
          case measure => simp [intOf]; omega
        · have c2' : isDig s[k] = false := by simpa using c2
          go_wp2_with (first
            | (go_at_call 84; refine (isLetter_any _ _).mono ?_; rintro e w1 ⟨rfl, rfl⟩; rw [c1'])
            | (go_at_call 85; refine (isDigit_any _ _).mono ?_; rintro e w1 ⟨rfl, rfl⟩; rw [c2']))
          go_ret
          refine ⟨?_, rfl⟩
          have : (s.data.toList.all fun c => isLet c || isDig c) = false := by
            rw [List.all_eq_false]
            exact ⟨s[k], List.mem_of_getElem? HG.out, by simp [c1', c2']⟩
          rw [hN.out, this]; rfl
    · have hk' : k = s.size := by omega
      subst hk'
      have HP : Hid (((s.data.toList.take s.size).all fun c => isLet c || isDig c) = true) := hp
      clear hp
      go_wp2_with fail
      go_ret
      refine ⟨?_, rfl⟩
      have := HP.out
      rw [List.take_of_length_le (by rw [Lib.size_eq]; exact Nat.le_refl _)] at this
      rw [hN.out, this]; rfl
/-- An item, and where its numbers lie. -/
structure ItD where
  x : Itm
  a : Option Addr
  c : Nat
/-- Its three cells. -/
def ItD.val (d : ItD) : Value := .slice d.a d.x.nums.length d.c
def ItD.arr (d : ItD) : Array Value := #[.string d.x.name, .string d.x.tag, d.val]
/-- What is known of it. -/
def ItD.Ok (w : World) (d : ItD) : Prop := Ints w d.a d.x.nums ∧ d.x.nums.length ≤ maxLen ∧ d.x.name.size ≤ maxLen ∧ d.x.tag.size ≤ maxLen ∧ d.x.nums.length ≤ d.c
theorem ItD.Ok.below {w w' : World} {d : ItD} (h : d.Ok w) (hb : Below w.heap.size w w') : d.Ok w' := ⟨h.1.below hb, h.2⟩
set_option maxHeartbeats 400000 in
theorem indexInts_any (a : Option Addr) (c : Nat) (zs : List Int) (w : World) (h : Ints w a zs) (hl : zs.length ≤ maxLen) :
    Calls Tryd.prog 50 #[.slice a zs.length c, .func (.func 64) #[] #[]] w fun e w' => (∃ j : Int, e = .returned (.int .i64 j) ∧ (decide (0 ≤ j) = !zs.all numB)) ∧ w' = w := by
  unfold maxLen at hl
  go_enter Tryd.func50, Tryd.ntmps50
  go_wp2_with fail
  go_loop [8] (fun i => ∃ k : Nat, k ≤ zs.length ∧ i = .int .i64 k ∧ (zs.take k).all numB = true) (fun i => zs.length - (intOf i).toNat)
  case atStart => exact ⟨0, by omega, rfl, by simp⟩
  case round =>
    obtain ⟨k, hk, rfl, hp⟩ := hrel
    by_cases hlt : k < zs.length
    · have HP : Hid ((zs.take k).all numB = true) := hp
      clear hp
      obtain ⟨g, o, rfl, hc⟩ := h k zs[k] (List.getElem?_eq_getElem hlt)
      have hg : g < w.heap.size := World.block_lt_of_cell? w _ hc
      have htk : Hid (zs[k]? = some zs[k]) := List.getElem?_eq_getElem hlt
      have hlt' : (k : Int) < (zs.length : Int) := by omega
      generalize zs[k] = x at *
      by_cases hx : numB x = true
      · go_wp2_with (go_at_call 64; refine (numOut_any _ _).mono ?_; rintro e w' ⟨rfl, rfl⟩; rw [hx])
        go_round
        case rel => exact ⟨k + 1, by omega, by go_num, by rw [List.take_add_one, htk.out, List.all_append, HP.out]; simp [hx]⟩
        case measure => simp [intOf]; omega
      · have hx' : numB x = false := by simpa using hx
        go_wp2_with (go_at_call 64; refine (numOut_any _ _).mono ?_; rintro e w' ⟨rfl, rfl⟩; rw [hx'])
        go_ret
        refine ⟨⟨k, rfl, ?_⟩, rfl⟩
        have : zs.all numB = false := by rw [List.all_eq_false]; exact ⟨x, List.mem_of_getElem? htk.out, by simp [hx']⟩
        rw [this]; simp
    · have hk' : k = zs.length := by omega
      subst hk'
      rw [List.take_length] at hp
      have HP : Hid (zs.all numB = true) := hp
      clear hp
      go_wp2_with fail
      go_ret
      exact ⟨⟨-1, rfl, by rw [HP.out]; decide⟩, rfl⟩
theorem containsInts_any (a : Option Addr) (c : Nat) (zs : List Int) (w : World) (h : Ints w a zs) (hl : zs.length ≤ maxLen) :
    Calls Tryd.prog 28 #[.slice a zs.length c, .func (.func 64) #[] #[]] w fun e w' => e = .returned (.bool (!zs.all numB)) ∧ w' = w := by
  go_enter Tryd.func28, Tryd.ntmps28
  go_wp2_with (go_at_call 50; refine (indexInts_any _ _ _ _ h hl).mono ?_; rintro e w' ⟨⟨j, rfl, hj⟩, rfl⟩)
  go_ret
  refine ⟨?_, rfl⟩
  rw [← hj]; simp
set_option maxHeartbeats 1000000 in
theorem right_any (x : ItD) (d : Int) (w : World) (h : x.Ok w) : Calls Tryd.prog 45 #[.agg x.arr, .int .i64 d] w fun e w' => e = .returned (.bool (rightB x.x d)) ∧ Below w.heap.size w w' := by
  obtain ⟨h1, h2, h3, h4, _⟩ := h
  unfold ItD.arr ItD.val
  obtain ⟨⟨nm, tg, zs⟩, a, c⟩ := x
  simp only at h1 h2 h3 h4 ⊢
  have hl : zs.length ≤ 9223372036854775807 := h2
  have hb := below_alloc w (.cells #[.string nm, .string tg, .slice a zs.length c] 43)
  have h1' := h1.below hb
  have HR : Hid (rightB ⟨nm, tg, zs⟩ d = (dimB d && decide ((zs.length : Int) = d) && nameB nm && tagB tg && zs.all numB)) := rfl
  rw [HR.out]
  by_cases c1 : dimB d = true
  rotate_left
  · have c1' : dimB d = false := by simpa using c1
    go_enter Tryd.func45, Tryd.ntmps45
    go_wp2_with (go_at_call 62; refine (isDim_any _ _).mono ?_; rintro e w' ⟨rfl, rfl⟩; rw [c1'])
    go_ret
    exact ⟨by rw [c1']; rfl, hb⟩
  by_cases c2 : (zs.length : Int) = d
  rotate_left
  · have c2' : decide ((zs.length : Int) = d) = false := by simpa using c2
    go_enter Tryd.func45, Tryd.ntmps45
    go_wp2_with (go_at_call 62; refine (isDim_any _ _).mono ?_; rintro e w' ⟨rfl, rfl⟩; rw [c1])
    go_ret
    exact ⟨by rw [c1, c2']; rfl, hb⟩
  have c2' : decide ((zs.length : Int) = d) = true := by simpa using c2
  by_cases c3 : nameB nm = true
  rotate_left
  · have c3' : nameB nm = false := by simpa using c3
    go_enter Tryd.func45, Tryd.ntmps45
    go_wp2_with (first
      | (go_at_call 62; refine (isDim_any _ _).mono ?_; rintro e w' ⟨rfl, rfl⟩; rw [c1])
      | (go_at_call 63; refine (name_any _ _ h3).mono ?_; rintro e w' ⟨rfl, rfl⟩; rw [c3']))
    go_ret
    exact ⟨by rw [c1, c2', c3']; rfl, hb⟩
  by_cases c4 : tg.size = 0
  · obtain rfl : tg = ByteArray.empty := by
      apply ByteArray.ext; apply Array.eq_empty_of_size_eq_zero; exact c4
    have c5 : tagB ByteArray.empty = true := by decide
    by_cases c6 : zs.all numB = true
    · go_enter Tryd.func45, Tryd.ntmps45
      go_wp2_with (first
        | (go_at_call 62; refine (isDim_any _ _).mono ?_; rintro e w' ⟨rfl, rfl⟩; rw [c1])
        | (go_at_call 63; refine (name_any _ _ h3).mono ?_; rintro e w' ⟨rfl, rfl⟩; rw [c3])
        | (go_at_call 28; refine (containsInts_any _ _ _ _ h1' h2).mono ?_; rintro e w' ⟨rfl, rfl⟩; rw [c6]))
      go_ret
      exact ⟨by rw [c1, c2', c3, c5, c6]; rfl, hb⟩
    · have c6' : zs.all numB = false := by simpa using c6
      go_enter Tryd.func45, Tryd.ntmps45
      go_wp2_with (first
        | (go_at_call 62; refine (isDim_any _ _).mono ?_; rintro e w' ⟨rfl, rfl⟩; rw [c1])
        | (go_at_call 63; refine (name_any _ _ h3).mono ?_; rintro e w' ⟨rfl, rfl⟩; rw [c3])
        | (go_at_call 28; refine (containsInts_any _ _ _ _ h1' h2).mono ?_; rintro e w' ⟨rfl, rfl⟩; rw [c6']))
      go_ret
      exact ⟨by rw [c1, c2', c3, c5, c6']; rfl, hb⟩
  · have c4' : ¬ tg.toList = [] := by
      intro e
      rw [Lib.toList_data] at e
      apply c4
      rw [Lib.size_eq, e]; rfl
    have c4e : tg.toList.isEmpty = false := by simpa using c4'
    have ct : tagB tg = nameB tg := by unfold tagB; simp [c4]
    rw [ct]
    by_cases c5 : nameB tg = true
    rotate_left
    · have c5' : nameB tg = false := by simpa using c5
      go_enter Tryd.func45, Tryd.ntmps45
      go_wp2_with (first
        | (go_at_call 62; refine (isDim_any _ _).mono ?_; rintro e w' ⟨rfl, rfl⟩; rw [c1])
        | (go_at_call 63; refine (name_any _ _ (by first | exact h3 | exact h4)).mono ?_; rintro e w' ⟨rfl, rfl⟩; first | rw [c3] | rw [c5']))
      go_ret
      exact ⟨by rw [c1, c2', c3, c5']; rfl, hb⟩
    · by_cases c6 : zs.all numB = true
      · go_enter Tryd.func45, Tryd.ntmps45
        go_wp2_with (first
          | (go_at_call 62; refine (isDim_any _ _).mono ?_; rintro e w' ⟨rfl, rfl⟩; rw [c1])
          | (go_at_call 63; refine (name_any _ _ (by first | exact h3 | exact h4)).mono ?_; rintro e w' ⟨rfl, rfl⟩; first | rw [c3] | rw [c5])
          | (go_at_call 28; refine (containsInts_any _ _ _ _ h1' h2).mono ?_; rintro e w' ⟨rfl, rfl⟩; rw [c6]))
        go_ret
        exact ⟨by rw [c1, c2', c3, c5, c6]; rfl, hb⟩
      · have c6' : zs.all numB = false := by simpa using c6
        go_enter Tryd.func45, Tryd.ntmps45
        go_wp2_with (first
          | (go_at_call 62; refine (isDim_any _ _).mono ?_; rintro e w' ⟨rfl, rfl⟩; rw [c1])
          | (go_at_call 63; refine (name_any _ _ (by first | exact h3 | exact h4)).mono ?_; rintro e w' ⟨rfl, rfl⟩; first | rw [c3] | rw [c5])
          | (go_at_call 28; refine (containsInts_any _ _ _ _ h1' h2).mono ?_; rintro e w' ⟨rfl, rfl⟩; rw [c6']))
        go_ret
        exact ⟨by rw [c1, c2', c3, c5, c6']; rfl, hb⟩
/-- A slice of items reads as ds. -/
def Its (w : World) (a : Option Addr) (ds : List ItD) : Prop := ∀ (i : Nat) d, ds[i]? = some d → ∃ g o, a = some ⟨g, o, none⟩ ∧ w.cell? ⟨g, o + i * 3, none⟩ = some (.string d.x.name) ∧ w.cell? ⟨g, o + i * 3 + 1, none⟩ = some (.string d.x.tag) ∧ w.cell? ⟨g, o + i * 3 + 2, none⟩ = some d.val ∧ d.Ok w
theorem Its.below {w w' : World} {a : Option Addr} {ds : List ItD} (h : Its w a ds) (hb : Below w.heap.size w w') : Its w' a ds := by
  intro i d hd
  obtain ⟨g, o, h1, h2, h3, h4, h5⟩ := h i d hd
  exact ⟨g, o, h1, cell_below hb h2, cell_below hb h3, cell_below hb h4, h5.below hb⟩
def errA : Value := .iface 32 (.int .i64 1)
/-- The items, without where they lie. -/
def xsOf (ds : List ItD) : List Itm := ds.map ItD.x
/-- An item is too long to be held. -/
def bigB (x : Itm) : Bool := decide (40 < x.name.size) || decide (40 < x.tag.size) || decide (12 < x.nums.length)
def heldB (xs : List Itm) : Bool := decide (xs.length ≤ 65) && !xs.any bigB
set_option maxHeartbeats 1000000 in
theorem big_any (x : ItD) (w : World) (h : x.Ok w) : Calls Tryd.prog 44 #[.agg x.arr] w fun e w' => e = .returned (.bool (bigB x.x)) ∧ Below w.heap.size w w' := by
  obtain ⟨_, h2, h3, h4, _⟩ := h
  unfold ItD.arr ItD.val
  obtain ⟨⟨nm, tg, zs⟩, a, c⟩ := x
  simp only at h2 h3 h4 ⊢
  unfold maxLen at h2 h3 h4
  have hb := below_alloc w (.cells #[.string nm, .string tg, .slice a zs.length c] 43)
  have HB : Hid (bigB ⟨nm, tg, zs⟩ = (decide (40 < nm.size) || decide (40 < tg.size) || decide (12 < zs.length))) := rfl
  rw [HB.out]
  by_cases c1 : 40 < nm.size
  · have c1' : (40 : Int) < (nm.size : Int) := by omega
    go_enter Tryd.func44, Tryd.ntmps44
    go_wp2
    go_ret
    exact ⟨by simp, hb⟩
  have c1' : ¬ (40 : Int) < (nm.size : Int) := by omega
  by_cases c2 : 40 < tg.size
  · have c2' : (40 : Int) < (tg.size : Int) := by omega
    go_enter Tryd.func44, Tryd.ntmps44
    go_wp2
    go_ret
    exact ⟨by simp, hb⟩
  have c2' : ¬ (40 : Int) < (tg.size : Int) := by omega
  by_cases c3 : 12 < zs.length
  · have c3' : (12 : Int) < (zs.length : Int) := by omega
    go_enter Tryd.func44, Tryd.ntmps44
    go_wp2
    go_ret
    exact ⟨by simp, hb⟩
  have c3' : ¬ (12 : Int) < (zs.length : Int) := by omega
  go_enter Tryd.func44, Tryd.ntmps44
  go_wp2
  go_ret
  exact ⟨by simp, hb⟩
set_option maxHeartbeats 1000000 in
theorem indexBig_any (a : Option Addr) (c : Nat) (ds : List ItD) (w : World) (h : Its w a ds) (hl : ds.length ≤ 65) :
    Calls Tryd.prog 61 #[.slice a ds.length c, .func (.func 44) #[] #[]] w fun e w' => (∃ j : Int, e = .returned (.int .i64 j) ∧ (decide (0 ≤ j) = (xsOf ds).any bigB)) ∧ Below w.heap.size w w' := by
  go_enter Tryd.func61, Tryd.ntmps61
  go_wp2_with fail
  go_loopw [8] (fun i wr => ∃ k : Nat, k ≤ ds.length ∧ i = .int .i64 k ∧ ((xsOf ds).take k).any bigB = false ∧ Below w.heap.size w wr) (fun i _ => ds.length - (intOf i).toNat)
  case atStart => exact ⟨0, by omega, rfl, rfl, Below.refl _ _⟩
  case round =>
    obtain ⟨k, hk, rfl, hp, hbel⟩ := hrel
    have HP : Hid (((xsOf ds).take k).any bigB = false) := hp
    clear hp
    by_cases hlt : k < ds.length
    · have hlt' : (k : Int) < (ds.length : Int) := by omega
      have hr := h.below hbel
      obtain ⟨g, o, rfl, q1, q2, q3, q4⟩ := hr k ds[k] (List.getElem?_eq_getElem hlt)
      have hxk : Hid ((xsOf ds)[k]? = some ds[k].x) := by unfold Hid xsOf; rw [List.getElem?_map, List.getElem?_eq_getElem hlt]; rfl
      generalize ds[k] = x at *
      obtain ⟨⟨nm, tg, zs⟩, xa, xc⟩ := x
      simp only [ItD.val] at q1 q2 q3 hxk
      clear hr
      go_wp2_with fail
      refine (big_any ⟨⟨nm, tg, zs⟩, xa, xc⟩ wr q4).mono ?_
      rintro e w1 ⟨rfl, g1⟩
      have hb1 := hbel.trans (g1.mono hbel.size)
      cases hx : bigB ⟨nm, tg, zs⟩ with
      | true =>
        have HX : Hid ((xsOf ds).any bigB = true) := List.any_eq_true.2 ⟨_, List.mem_of_getElem? hxk.out, hx⟩
        clear q1 q2 q3 q4 g1 hx
        go_wp2_with fail
        go_ret
        exact ⟨⟨k, rfl, by rw [HX.out]; simp⟩, hb1⟩
      | false =>
        have HX : Hid (((xsOf ds).take (k + 1)).any bigB = false) := by
          unfold Hid; rw [List.take_add_one, hxk.out, List.any_append, HP.out]; simp [hx]
        clear q1 q2 q3 q4 g1 hx
        go_wp2_with fail
        exact ⟨⟨k + 1, by omega, by go_num, HX.out, hb1⟩, by simp [intOf]; omega⟩
    · have hk' : k = ds.length := by omega
      subst hk'
      have HX : Hid ((xsOf ds).any bigB = false) := by
        have := HP.out
        rw [List.take_of_length_le (by simp [xsOf])] at this; exact this
      go_wp2_with fail
      go_ret
      exact ⟨⟨-1, rfl, by rw [HX.out]; decide⟩, hbel⟩
theorem containsBig_any (a : Option Addr) (c : Nat) (ds : List ItD) (w : World) (h : Its w a ds) (hl : ds.length ≤ 65) :
    Calls Tryd.prog 43 #[.slice a ds.length c, .func (.func 44) #[] #[]] w fun e w' => e = .returned (.bool ((xsOf ds).any bigB)) ∧ Below w.heap.size w w' := by
  go_enter Tryd.func43, Tryd.ntmps43
  go_wp2_with (go_at_call 61; refine (indexBig_any _ _ _ _ h hl).mono ?_; rintro e w' ⟨⟨j, rfl, hj⟩, g1⟩)
  go_ret
  refine ⟨?_, g1⟩
  rw [← hj]; simp
theorem held_any (a : Option Addr) (c : Nat) (ds : List ItD) (w : World) (h : Its w a ds) (hl : ds.length ≤ maxLen) :
    Calls Tryd.prog 19 #[.slice a ds.length c] w fun e w' => e = .returned (.bool (heldB (xsOf ds))) ∧ Below w.heap.size w w' := by
  unfold maxLen at hl
  have hxl : (xsOf ds).length = ds.length := by simp [xsOf]
  unfold heldB
  rw [hxl]
  clear hxl
  by_cases c1 : ds.length ≤ 65
  · have c1' : (ds.length : Int) ≤ 65 := by omega
    have c1'' : decide (ds.length ≤ 65) = true := by simpa using c1
    rw [c1'']
    cases hx : (xsOf ds).any bigB with
    | true =>
      go_enter Tryd.func19, Tryd.ntmps19
      go_wp2_with (go_at_call 43; refine (containsBig_any _ _ _ _ h c1).mono ?_; rintro e w' ⟨rfl, g1⟩; rw [hx])
      go_ret
      exact ⟨rfl, g1⟩
    | false =>
      go_enter Tryd.func19, Tryd.ntmps19
      go_wp2_with (go_at_call 43; refine (containsBig_any _ _ _ _ h c1).mono ?_; rintro e w' ⟨rfl, g1⟩; rw [hx])
      go_ret
      exact ⟨rfl, g1⟩
  · have c1' : ¬ (ds.length : Int) ≤ 65 := by omega
    go_enter Tryd.func19, Tryd.ntmps19
    go_wp2
    go_ret
    exact ⟨by simp, Below.refl _ _⟩
theorem row_fresh {w : World} {b B : Nat} {e : TypeId} {z n : Nat} {xs : List Value} (h : Blk w b xs.toArray e) (hB : B ≤ b) (hl : n ≤ maxLen) (hn : xs.length = n * z) : w.ownsRow B e z (.slice (some ⟨b, 0, none⟩) n n) n xs :=
  ⟨hn, Or.inr ⟨b, n, xs.toArray, rfl, hB, h, Nat.le_refl _, hl, by simpa using hn, by rw [← hn]; simp⟩⟩
theorem row_cap {w : World} {B g n m cap : Nat} {e : TypeId} {z : Nat} {xs : List Value} (h : w.ownsRow B e z (.slice (some ⟨g, 0, none⟩) n cap) m xs) : n = m ∧ n ≤ cap ∧ B ≤ g ∧ g < w.heap.size := by
  obtain ⟨h1, h2⟩ := h
  rcases h2 with ⟨h2, _⟩ | ⟨g', cap', cur, hv, hgB, hh, hc, _⟩
  · injection h2 with a1; cases a1
  · injection hv with a1 a2 a3; injection a1 with a1; injection a1 with a1
    subst a1; subst a2; subst a3
    refine ⟨rfl, hc, hgB, ?_⟩
    rcases Nat.lt_or_ge g w.heap.size with h' | h'
    · exact h'
    · simp [Array.getElem?_eq_none h'] at hh
theorem row_cell {w : World} {B g n m cap : Nat} {e : TypeId} {z : Nat} {xs : List Value} (h : w.ownsRow B e z (.slice (some ⟨g, 0, none⟩) n cap) m xs) (j : Nat) (u : Value) (hj : xs[j]? = some u) : w.cell? ⟨g, j, none⟩ = some u := by
  obtain ⟨h1, h2⟩ := h
  rcases h2 with ⟨h2, _⟩ | ⟨g', cap', cur, hv, hgB, hh, _, _, _, ht⟩
  · injection h2 with a1; cases a1
  · have e : g = g' := by injection hv with a1; injection a1 with a2; injection a2
    subst e
    simp only [World.cell?, hh]
    rw [← ht, List.getElem?_take] at hj
    split at hj
    · simpa using hj
    · cases hj
theorem row_ownLt {B : Nat} {e : TypeId} {z n : Nat} {v : Value} {xs : List Value} {w : World} (h : w.ownsRow B e z v n xs) (k : Nat) (hk : v.ownBlock = some k) : B ≤ k ∧ k < w.heap.size := by
  obtain ⟨_, ⟨h2, _⟩ | ⟨g, cap, cur, hv, hgB, hh, _⟩⟩ := h
  · rw [h2] at hk; cases hk
  · rw [hv] at hk; simp only [Value.ownBlock, Option.some.injEq] at hk; subst hk
    refine ⟨hgB, ?_⟩
    rcases Nat.lt_or_ge g w.heap.size with h' | h'
    · exact h'
    · simp [Array.getElem?_eq_none h'] at hh
theorem row_grownBelow {B : Nat} {a w w' : World} {e : TypeId} {z n : Nat} {v : Value} {xs : List Value} (h : Below B a w) (hr : w.ownsRow B e z v n xs) (hg : w.grownBy w' v.ownBlock) (hB : B ≤ w.heap.size) : Below B a w' :=
  h.grown hg hB fun k hk => (row_ownLt hr k hk).1
section
variable {P : Program} {ops : Array Oper} {Q : Exit → Act → World → Prop} {a : Act} {w : World} {rest : List Oper} {o : Oper}
/-- One element, of whatever many cells, appended to a slice that the call has made. -/
theorem wpl_pushZ (hgd : o.guard = none) (s x : Operand) (t : TypeId) (ho : o.op = .call { callee := .builtin .append, args := #[s, x], argTypes := #[t, t] })
    (B : Nat) (e : TypeId) (z : Value) (size bytes : Nat) (ht : P.underlying t = some (.slice e)) (hinfo : (P.info? e).map (fun i => (i.zero, i.size, i.bytes)) = some (some z, size, bytes)) (hz1 : z.cells.size = size) (hsz : 0 < size)
    (v : Value) (n : Nat) (xs : List Value) (hs : a.eval s = v) (hown : w.ownsRow B e size v n xs) (sb c : Nat) (news : List Value) (hx : a.eval x = .slice (some ⟨sb, 0, none⟩) 1 c) (T : TypeId) (hu : Blk w sb news.toArray T) (hl : news.length = size) (hu1 : ∀ u ∈ news, u.oneCell' = true)
    (hlen : n < 100000) (hby : bytes ≤ 1000) (hbase : B ≤ w.heap.size)
    (h : ∀ g cap w', w'.ownsRow B e size (.slice (some ⟨g, 0, none⟩) (n + 1) cap) (n + 1) (xs ++ news) → w.grownBy w' v.ownBlock → (v.ownBlock = some g ∨ g = w.heap.size) → g < w'.heap.size → wpList P ops Q rest (a.put o.dst (.slice (some ⟨g, 0, none⟩) (n + 1) cap)) w') :
    wpList P ops Q (o :: rest) a w := by
  obtain ⟨i, hi, hp⟩ := Option.map_eq_some_iff.1 hinfo
  simp only [Prod.mk.injEq] at hp
  obtain ⟨p1, p2, p3⟩ := hp
  refine wpList_append_lies w hgd s x t ho B e i z size bytes ht hi p1 p2 p3 hz1 hsz v n xs hs hown ⟨sb, 0, none⟩ 1 c news hx (by omega) ?_ hu1 (by decide) (by unfold maxLen; omega) ?_ hbase w.heap.size rfl ?_
  · intro j u hj
    rw [addr_add, hu.cell]; simpa using hj
  · have := Nat.mul_le_mul (show n + 1 ≤ 100000 by omega) hby; omega
  · intro g cap w' h1 h2 h3 h4
    exact h g cap w' h1 h2 h3 h4
end
section
variable {P : Program} {ops : Array Oper} {Q : Exit → Act → World → Prop} {a : Act} {w : World} {rest : List Oper} {o : Oper} {K : Act → World → Prop}
theorem storeVar_run (t : TypeId) (n : Nat) (hi0 : (P.info? t).map (·.size) = some n) (b : Nat) (arr vs : Array Value) (T : TypeId) (hone : ∀ v ∈ vs.toList, v.oneCell' = true) (hb : Blk w b arr T) (hn : arr.size = n) (hv : vs.size = n) :
    (storeVar t ⟨b, 0, none⟩ (.agg vs)).run P w = .ok () (putBlk w b (.cells vs T)) := by
  obtain ⟨i, hi, hsize⟩ := Option.map_eq_some_iff.1 hi0
  have hl := storeCells_run P w b hb.lt T vs.toList 0 arr (by simp [hv, hn]) hone
  rw [putBlk_self hb, foldset_all _ _ (by simp [hv, hn])] at hl
  simp only [storeVar, sizeOf, typeInfo, hi, hsize, Sem.run_bind, Sem.run_pure, run_program, Result.andThen_ok, Value.cells, hv, ne_eq, not_true, if_false, hl]
theorem wpl_storeV (hgd : o.guard = none) (hdn : o.dst = none) (t : TypeId) (x y : Operand) (ho : o.op = .store t x y) (n : Nat) (hi0 : (P.info? t).map (·.size) = some n)
    (b : Nat) (arr : Array Value) (T : TypeId) (vs : Array Value) (hone : ∀ v ∈ vs.toList, v.oneCell' = true) (hx : a.eval x = .pointer (some ⟨b, 0, none⟩)) (hy : a.eval y = .agg vs) (hb : Blk w b arr T) (hn : arr.size = n) (hv : vs.size = n)
    (h : ∀ w', Upd w w' b → Blk w' b vs T → wpList P ops Q rest a w') : wpList P ops Q (o :: rest) a w := by
  refine wpList_plain hgd fun K hK => ?_
  unfold Oper.wp execOp
  simp only [ho, hx, hy, Instr.storeAt, Instr.sureAddr, Sem.run_bind, Sem.run_pure, Result.andThen_ok, storeVar_run t n hi0 b arr vs T hone hb hn hv]
  simp only [Oper.upon_skip, hdn, Act.put]
  exact hK _ _ (h _ (putBlk_upd _ _ _) (putBlk_blk hb))
theorem loadV_run (w : World) (t : TypeId) (ha : ∀ w, (isAgg t).run P w = .ok true w) (n : Nat) (hi0 : (P.info? t).map (·.size) = some n) (b off : Nat) (arr : Array Value) (T : TypeId) (hb : Blk w b arr T) (hn : off + n ≤ arr.size) : (loadVar t ⟨b, off, none⟩).run P w = .ok (.agg (arr.extract off (off + n))) w := by
  obtain ⟨i, hi, hsize⟩ := Option.map_eq_some_iff.1 hi0
  have hl := loadCellsFrom_run P w b off arr T hb n 0 #[] (by omega)
  simp only [loadVar, ha, sizeOf, typeInfo, loadCells, hi, hsize, Sem.run_bind, Sem.run_pure, run_program, Result.andThen_ok, if_true, hl]
  simp only [Nat.add_zero, Array.empty_append]
theorem op_storeV (hdn : o.dst = none) (t : TypeId) (x y : Operand) (ho : o.op = .store t x y) (n : Nat) (hi0 : (P.info? t).map (·.size) = some n)
    (b : Nat) (arr : Array Value) (T : TypeId) (vs : Array Value) (hone : ∀ v ∈ vs.toList, v.oneCell' = true) (hx : a.eval x = .pointer (some ⟨b, 0, none⟩)) (hy : a.eval y = .agg vs) (hb : Blk w b arr T) (hn : arr.size = n) (hv : vs.size = n)
    (h : ∀ w', Upd w w' b → Blk w' b vs T → K a w') : o.wp P a w K Q := by
  unfold Oper.wp execOp
  simp only [ho, hx, hy, Instr.storeAt, Instr.sureAddr, Sem.run_bind, Sem.run_pure, Result.andThen_ok, storeVar_run t n hi0 b arr vs T hone hb hn hv]
  simp only [Oper.upon_skip, hdn, Act.put]
  exact h _ (putBlk_upd _ _ _) (putBlk_blk hb)
end
end Go.Proofs.YtamalmgfhpneaaaDoor.It
