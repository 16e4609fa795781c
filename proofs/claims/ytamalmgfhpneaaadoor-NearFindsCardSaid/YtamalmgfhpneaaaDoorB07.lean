/-
  Part of the proof: the fact 'found' is walked.
  Part of the proof: cells: where a number's cell begins, and a point's.
-/
import Derived.Test.YtamalmgfhpneaaaDoorB06
namespace Go.Proofs.YtamalmgfhpneaaaDoor.Nr
open Go.RowKit
open It
theorem srt_eq {l l' : List (ByteArray × Int)} (h : l.Perm l') (hs : l'.Pairwise fun x y => ltF y x = false) : srt l = l' :=
  List.Perm.eq_of_pairwise (le := fun x y => ltF y x = false) (fun a b _ _ h1 h2 => (ltF_tot b a h1 h2).symm) (srt_sorted l) hs ((srt_perm l).trans h)
theorem ints2 {w : World} {b : Nat} {x y : Int} (h : Blk w b #[.int .i64 x, .int .i64 y] 3) : Ints w (some ⟨b, 0, none⟩) [x, y] := by
  intro i z hz
  have c0 := h.cell 0
  have c1 := h.cell 1
  match i, hz with
  | 0, hz => simp at hz; subst hz; exact ⟨b, 0, rfl, c0⟩
  | 1, hz => simp at hz; subst hz; exact ⟨b, 0, rfl, c1⟩
theorem found_plain (a b c : Option Addr) : (srt (fnd [0, 0] ⟨#[]⟩ (xsOf [⟨⟨⟨#[97]⟩, ⟨#[]⟩, [0, 0]⟩, a, 2⟩, ⟨⟨⟨#[98]⟩, ⟨#[]⟩, [3, 4]⟩, b, 2⟩, ⟨⟨⟨#[99]⟩, ⟨#[]⟩, [1, 0]⟩, c, 2⟩]))).take 2 = [(⟨#[97]⟩, 0), (⟨#[99]⟩, 1)] := by
  have e : fnd [0, 0] ⟨#[]⟩ (xsOf [⟨⟨⟨#[97]⟩, ⟨#[]⟩, [0, 0]⟩, a, 2⟩, ⟨⟨⟨#[98]⟩, ⟨#[]⟩, [3, 4]⟩, b, 2⟩, ⟨⟨⟨#[99]⟩, ⟨#[]⟩, [1, 0]⟩, c, 2⟩]) = [(⟨#[97]⟩, 0), (⟨#[98]⟩, 25), (⟨#[99]⟩, 1)] := by
    have ht : ∀ x : Itm, tagP ⟨#[]⟩ x = true := fun x => by unfold tagP; rw [decide_eq_true (show (ByteArray.mk #[]).toList = [] by rw [ByteArray.toList_eq])]; rfl
    unfold fnd xsOf
    simp only [List.map_cons, List.map_nil, List.filter_cons, ht, if_true, List.filter_nil]
    rfl
  have hs : srt [(⟨#[97]⟩, 0), (⟨#[98]⟩, 25), (⟨#[99]⟩, 1)] = [(⟨#[97]⟩, 0), (⟨#[99]⟩, 1), (⟨#[98]⟩, 25)] := by
    refine srt_eq (List.Perm.cons _ (List.Perm.swap _ _ _)) ?_
    have l1 : ∀ (x y : ByteArray) (a b : Int), b < a → ltF (x, a) (y, b) = false := fun x y a b h => by
      cases hh : ltF (x, a) (y, b) with
      | false => rfl
      | true => rcases (ltF_iff _ _).1 hh with q | q <;> simp at q <;> omega
    simp only [List.pairwise_cons, List.mem_cons, List.not_mem_nil, or_false, forall_eq_or_imp, forall_eq, List.Pairwise.nil, and_true, false_implies, implies_true]
    exact ⟨⟨l1 _ _ _ _ (by decide), l1 _ _ _ _ (by decide)⟩, l1 _ _ _ _ (by decide)⟩
  rw [e, hs]; rfl
set_option maxHeartbeats 1000000 in
theorem found_any (w : World) : Calls Tryd.prog 20 #[] w fun e w' => e = .returned (.bool true) ∧ Below w.heap.size w w' := by
  go_enter Tryd.func20, Tryd.ntmps20
  go_wp2_with fail
  have z0 : w.heap.size = w.heap.size := rfl
  obtain ⟨B, hB⟩ : ∃ B, w.heap.size = B := ⟨_, rfl⟩
  have j0 := Blk.new' w #[.int .i64 0, .int .i64 0] 3 (b := B) hB.symm
  have j1 := Blk.new' (w.alloc (.cells #[.int .i64 0, .int .i64 0] 3)) #[.int .i64 3, .int .i64 4] 3 (b := B + 1) (by simp [hB])
  have j2 := Blk.new' ((w.alloc (.cells #[.int .i64 0, .int .i64 0] 3)).alloc (.cells #[.int .i64 3, .int .i64 4] 3)) #[.int .i64 1, .int .i64 0] 3 (b := B + 1 + 1) (by simp [hB])
  have j3 := Blk.new' (((w.alloc (.cells #[.int .i64 0, .int .i64 0] 3)).alloc (.cells #[.int .i64 3, .int .i64 4] 3)).alloc (.cells #[.int .i64 1, .int .i64 0] 3)) #[.string ⟨#[97]⟩, .string ⟨#[]⟩, .slice (some ⟨B, 0, none⟩) 2 2, .string ⟨#[98]⟩, .string ⟨#[]⟩, .slice (some ⟨B + 1, 0, none⟩) 2 2, .string ⟨#[99]⟩, .string ⟨#[]⟩, .slice (some ⟨B + 1 + 1, 0, none⟩) 2 2] 43 (b := B + 1 + 1 + 1) (by simp [hB])
  have j4 := Blk.new' ((((w.alloc (.cells #[.int .i64 0, .int .i64 0] 3)).alloc (.cells #[.int .i64 3, .int .i64 4] 3)).alloc (.cells #[.int .i64 1, .int .i64 0] 3)).alloc (.cells #[.string ⟨#[97]⟩, .string ⟨#[]⟩, .slice (some ⟨B, 0, none⟩) 2 2, .string ⟨#[98]⟩, .string ⟨#[]⟩, .slice (some ⟨B + 1, 0, none⟩) 2 2, .string ⟨#[99]⟩, .string ⟨#[]⟩, .slice (some ⟨B + 1 + 1, 0, none⟩) 2 2] 43)) #[.int .i64 0, .int .i64 0] 3 (b := B + 1 + 1 + 1 + 1) (by simp [hB])
  have k0 := (((j0.alloc (.cells #[.int .i64 3, .int .i64 4] 3)).alloc (.cells #[.int .i64 1, .int .i64 0] 3)).alloc (.cells #[.string ⟨#[97]⟩, .string ⟨#[]⟩, .slice (some ⟨B, 0, none⟩) 2 2, .string ⟨#[98]⟩, .string ⟨#[]⟩, .slice (some ⟨B + 1, 0, none⟩) 2 2, .string ⟨#[99]⟩, .string ⟨#[]⟩, .slice (some ⟨B + 1 + 1, 0, none⟩) 2 2] 43)).alloc (.cells #[.int .i64 0, .int .i64 0] 3)
  have k1 := ((j1.alloc (.cells #[.int .i64 1, .int .i64 0] 3)).alloc (.cells #[.string ⟨#[97]⟩, .string ⟨#[]⟩, .slice (some ⟨B, 0, none⟩) 2 2, .string ⟨#[98]⟩, .string ⟨#[]⟩, .slice (some ⟨B + 1, 0, none⟩) 2 2, .string ⟨#[99]⟩, .string ⟨#[]⟩, .slice (some ⟨B + 1 + 1, 0, none⟩) 2 2] 43)).alloc (.cells #[.int .i64 0, .int .i64 0] 3)
  have k2 := (j2.alloc (.cells #[.string ⟨#[97]⟩, .string ⟨#[]⟩, .slice (some ⟨B, 0, none⟩) 2 2, .string ⟨#[98]⟩, .string ⟨#[]⟩, .slice (some ⟨B + 1, 0, none⟩) 2 2, .string ⟨#[99]⟩, .string ⟨#[]⟩, .slice (some ⟨B + 1 + 1, 0, none⟩) 2 2] 43)).alloc (.cells #[.int .i64 0, .int .i64 0] 3)
  have k3 := j3.alloc (.cells #[.int .i64 0, .int .i64 0] 3)
  have g5 : Below w.heap.size w (((((w.alloc (.cells #[.int .i64 0, .int .i64 0] 3)).alloc (.cells #[.int .i64 3, .int .i64 4] 3)).alloc (.cells #[.int .i64 1, .int .i64 0] 3)).alloc (.cells #[.string ⟨#[97]⟩, .string ⟨#[]⟩, .slice (some ⟨B, 0, none⟩) 2 2, .string ⟨#[98]⟩, .string ⟨#[]⟩, .slice (some ⟨B + 1, 0, none⟩) 2 2, .string ⟨#[99]⟩, .string ⟨#[]⟩, .slice (some ⟨B + 1 + 1, 0, none⟩) 2 2] 43)).alloc (.cells #[.int .i64 0, .int .i64 0] 3)) := (((((Below.refl _ _).alloc (Nat.le_refl _) _).alloc (by simp) _).alloc (by simp; omega) _).alloc (by simp; omega) _).alloc (by simp; omega) _
  rw [hB]
  clear j0 j1 j2 j3 z0
  generalize hW : ((((w.alloc (.cells #[.int .i64 0, .int .i64 0] 3)).alloc (.cells #[.int .i64 3, .int .i64 4] 3)).alloc (.cells #[.int .i64 1, .int .i64 0] 3)).alloc (.cells #[.string ⟨#[97]⟩, .string ⟨#[]⟩, .slice (some ⟨B, 0, none⟩) 2 2, .string ⟨#[98]⟩, .string ⟨#[]⟩, .slice (some ⟨B + 1, 0, none⟩) 2 2, .string ⟨#[99]⟩, .string ⟨#[]⟩, .slice (some ⟨B + 1 + 1, 0, none⟩) 2 2] 43)).alloc (.cells #[.int .i64 0, .int .i64 0] 3) = W at *
  have hIts : Its W (some ⟨B + 1 + 1 + 1, 0, none⟩) [⟨⟨⟨#[97]⟩, ⟨#[]⟩, [0, 0]⟩, some ⟨B, 0, none⟩, 2⟩, ⟨⟨⟨#[98]⟩, ⟨#[]⟩, [3, 4]⟩, some ⟨B + 1, 0, none⟩, 2⟩, ⟨⟨⟨#[99]⟩, ⟨#[]⟩, [1, 0]⟩, some ⟨B + 1 + 1, 0, none⟩, 2⟩] := by
    intro i d hd
    match i, hd with
    | 0, hd => simp at hd; subst hd; exact ⟨_, 0, rfl, k3.cell 0, k3.cell 1, k3.cell 2, ints2 k0, (show 2 ≤ maxLen by decide), (show 1 ≤ maxLen by decide), (show 0 ≤ maxLen by decide), (show 2 ≤ 2 by decide)⟩
    | 1, hd => simp at hd; subst hd; exact ⟨_, 0, rfl, k3.cell 3, k3.cell 4, k3.cell 5, ints2 k1, (show 2 ≤ maxLen by decide), (show 1 ≤ maxLen by decide), (show 0 ≤ maxLen by decide), (show 2 ≤ 2 by decide)⟩
    | 2, hd => simp at hd; subst hd; exact ⟨_, 0, rfl, k3.cell 6, k3.cell 7, k3.cell 8, ints2 k2, (show 2 ≤ maxLen by decide), (show 1 ≤ maxLen by decide), (show 0 ≤ maxLen by decide), (show 2 ≤ 2 by decide)⟩
  refine (top_ok 2 _ 3 _ (some ⟨B + 1 + 1 + 1 + 1, 0, none⟩) 2 [0, 0] 2 ⟨#[]⟩ W hIts (show 3 ≤ 100 by decide) (ints2 j4) (by decide) (by decide) (fun x hx => by
    simp at hx
    rcases hx with rfl | rfl | rfl
    · exact ⟨(show ([0, 0] : List Int).all numB = true by decide), (show 2 ≤ 100 by decide)⟩
    · exact ⟨(show ([3, 4] : List Int).all numB = true by decide), (show 2 ≤ 100 by decide)⟩
    · exact ⟨(show ([1, 0] : List Int).all numB = true by decide), (show 2 ≤ 100 by decide)⟩)).mono ?_
  rintro e w6 ⟨⟨v, rfl, hF⟩, g6⟩
  have hF2 : Fnds w6 v [(⟨#[97]⟩, 0), (⟨#[99]⟩, 1)] := by rw [← found_plain (some ⟨B, 0, none⟩) (some ⟨B + 1, 0, none⟩) (some ⟨B + 1 + 1, 0, none⟩)]; exact hF
  have b6 := g5.trans (g6.mono g5.size)
  clear hF hIts k0 k1 k2 k3 j4 hW g5 g6
  have s7 := below_alloc w6 (.cells #[.string ⟨#[97]⟩, .int .i64 0, .string ⟨#[99]⟩, .int .i64 1] 25)
  have j7 : Blk (w6.alloc (.cells #[.string ⟨#[97]⟩, .int .i64 0, .string ⟨#[99]⟩, .int .i64 1] 25)) w6.heap.size #[.string ⟨#[97]⟩, .int .i64 0, .string ⟨#[99]⟩, .int .i64 1] 25 := Blk.new w6 _ _
  have hF7 : Fnds (w6.alloc (.cells #[.string ⟨#[97]⟩, .int .i64 0, .string ⟨#[99]⟩, .int .i64 1] 25)) (.slice (some ⟨w6.heap.size, 0, none⟩) 2 2) [(⟨#[97]⟩, 0), (⟨#[99]⟩, 1)] := by
    refine ⟨_, 2, rfl, by decide, fun i x hx => ?_⟩
    match i, hx with
    | 0, hx => simp at hx; subst hx; exact ⟨_, 0, rfl, j7.lt, j7.cell 0, j7.cell 1⟩
    | 1, hx => simp at hx; subst hx; exact ⟨_, 0, rfl, j7.lt, j7.cell 2, j7.cell 3⟩
  have HE := feq_any v _ _ _ (hF2.below s7) hF7 (by decide)
  have HEQ : Hid _ := HE
  have b7 := b6.trans (s7.mono b6.size)
  clear hF2 hF7 HE
  go_wp2_with fail
  refine Calls.mono HEQ.out ?_
  rintro e w8 ⟨rfl, n8, rfl⟩
  have b8 : Below w.heap.size w ((w6.alloc (.cells #[.string ⟨#[97]⟩, .int .i64 0, .string ⟨#[99]⟩, .int .i64 1] 25)).drewN n8) := below_drewN b7 n8
  generalize (w6.alloc (.cells #[.string ⟨#[97]⟩, .int .i64 0, .string ⟨#[99]⟩, .int .i64 1] 25)).drewN n8 = w8 at *
  have i0 := Blk.new w8 #[.int .i64 0, .int .i64 0] 3
  have i1 := Blk.new' (w8.alloc (.cells #[.int .i64 0, .int .i64 0] 3)) #[.int .i64 3, .int .i64 4] 3 (b := w8.heap.size + 1) (by simp)
  have HF := far_any (some ⟨w8.heap.size, 0, none⟩) (some ⟨w8.heap.size + 1, 0, none⟩) 2 2 [0, 0] [3, 4] _ (ints2 (i0.alloc (.cells #[.int .i64 3, .int .i64 4] 3))) (ints2 i1) (by decide) (by decide) (by decide)
  have HFF : Hid _ := HF
  have b9 := (b8.alloc b8.size (.cells #[.int .i64 0, .int .i64 0] 3)).alloc (by simp; have := b8.size; omega) (.cells #[.int .i64 3, .int .i64 4] 3)
  clear HF i0 i1 HEQ j7 s7 b7
  go_wp2_with fail
  refine Calls.mono HFF.out ?_
  rintro e wz ⟨rfl, nz, rfl⟩
  rw [show farI [0, 0] [3, 4] = 25 from by decide]
  go_wp2_with fail
  go_ret
  exact ⟨rfl, below_drewN b9 nz⟩
end Go.Proofs.YtamalmgfhpneaaaDoor.Nr
namespace Go.Proofs.YtamalmgfhpneaaaDoor.Ce
open Go.RowKit
open It Nr
/-- Where a number's cell begins. -/
def begF (n : Int) : Int := n - n % 250
theorem begF_le (n : Int) : begF n ≤ n ∧ n < begF n + 250 := by unfold begF; omega
theorem begin_any (n : Int) (w : World) (h1 : -1000 ≤ n) (h2 : n ≤ 1000) : Calls Tryd.prog 54 #[.int .i64 n] w fun e w' => e = .returned (.int .i64 (begF n)) ∧ w' = w := by
  obtain ⟨r, hr⟩ : ∃ r, n.tmod 250 = r := ⟨_, rfl⟩
  by_cases h0 : 0 ≤ n
  · have e1 : r = n % 250 := by rw [← hr]; exact Int.tmod_eq_emod_of_nonneg h0
    have h3 : ¬ r < 0 := by omega
    have x1 : IntKind.i64.wrap r = r := by rw [IntKind.wrap_i64]; omega
    have x2 : IntKind.i64.wrap (n - r) = begF n := by rw [IntKind.wrap_i64]; unfold begF; omega
    clear e1
    go_enter Tryd.func54, Tryd.ntmps54
    go_wp2_with fail
    go_ret
    exact ⟨rfl, rfl⟩
  · have e1 : r = -((-n) % 250) := by
      rw [← hr]
      have := Int.neg_tmod (-n) 250
      rw [Int.neg_neg] at this
      rw [this, Int.tmod_eq_emod_of_nonneg (by omega)]
    have x1 : IntKind.i64.wrap r = r := by rw [IntKind.wrap_i64]; omega
    by_cases h3 : r < 0
    · have x2 : IntKind.i64.wrap (r + 250) = r + 250 := by rw [IntKind.wrap_i64]; omega
      have x3 : IntKind.i64.wrap (n - (r + 250)) = begF n := by rw [IntKind.wrap_i64]; unfold begF; omega
      clear e1
      go_enter Tryd.func54, Tryd.ntmps54
      go_wp2_with fail
      go_ret
      exact ⟨rfl, rfl⟩
    · have x2 : IntKind.i64.wrap (n - r) = begF n := by rw [IntKind.wrap_i64]; unfold begF; omega
      clear e1
      go_enter Tryd.func54, Tryd.ntmps54
      go_wp2_with fail
      go_ret
      exact ⟨rfl, rfl⟩
theorem below_of_grown {w w' : World} (hg : w.grownBy w' none) : Below w.heap.size w w' := ⟨hg.os, hg.tape, hg.output, hg.size, fun k hk => hg.block k hk (by simp)⟩
theorem infoN : (Tryd.prog.info? 3).map (fun i => (i.zero, i.size, i.bytes)) = some (some (.int .i64 0), 1, 8) := by kernel_rfl
theorem info_parts {P : Program} {e : TypeId} {z : Value} {s b : Nat} (h : (P.info? e).map (fun i => (i.zero, i.size, i.bytes)) = some (some z, s, b)) : ∃ i0, P.info? e = some i0 ∧ i0.zero = some z ∧ i0.size = s ∧ i0.bytes = b := by
  obtain ⟨i, hi, h1⟩ := Option.map_eq_some_iff.1 h
  simp only [Prod.mk.injEq] at h1
  exact ⟨i, hi, h1.1, h1.2.1, h1.2.2⟩
theorem mkInts (c : Nat) (hc : c ≤ 100000) (w : World) (B : Nat) (hB : B ≤ w.heap.size) : ∃ w', (Instr.makeSlice 23 (.int .i64 0) (.int .i64 (c : Int))).run Tryd.prog w = .ok (.slice (some ⟨w.heap.size, 0, none⟩) 0 c) w' ∧
    w'.ownsRow B 3 1 (.slice (some ⟨w.heap.size, 0, none⟩) 0 c) 0 [] ∧ Below w.heap.size w w' := by
  obtain ⟨i0, hi0, hz0, hz1, hz2⟩ := info_parts infoN
  obtain ⟨w', h1, h2, h3⟩ := run_make_own w B 23 3 i0 _ 1 Tryd.underlying23 hi0 hz0 hz1 .i64 .i64 c (by rw [hz2]; omega) (by unfold maxLen; omega) hB
  exact ⟨w', h1, h2, below_of_grown h3⟩
def nv (zs : List Int) : List Value := zs.map (.int .i64)
theorem nv_len (zs : List Int) : (nv zs).length = zs.length := by simp [nv]
theorem ints_own {w : World} {B : Nat} {v : Value} {zs : List Int} (h : w.ownsRow B 3 1 v zs.length (nv zs)) : ∃ a c, v = .slice a zs.length c ∧ Ints w a zs ∧ zs.length ≤ c ∧ ∀ g o, a = some ⟨g, o, none⟩ → B ≤ g ∧ g < w.heap.size := by
  by_cases h0 : zs.length = 0
  · have hd : zs = [] := List.eq_nil_of_length_eq_zero h0
    subst hd
    obtain ⟨h1, ⟨h2, _⟩ | ⟨g, cap, cur, hv, hg, hh, _⟩⟩ := h
    · exact ⟨none, 0, h2, fun i d hd => by simp at hd, Nat.zero_le _, fun g o e => by cases e⟩
    · refine ⟨some ⟨g, 0, none⟩, cap, hv, fun i d hd => by simp at hd, Nat.zero_le _, fun g' o e => ?_⟩
      injection e with e; injection e with e1; subst e1
      exact ⟨hg, (Array.getElem?_eq_some_iff.1 hh).1⟩
  · obtain ⟨g, cap, cur, rfl, hgB, hgl, hh, hc, _, _, _⟩ := own_parts h (by omega)
    refine ⟨some ⟨g, 0, none⟩, cap, rfl, fun i z hz => ⟨g, 0, rfl, ?_⟩, hc, fun g' o e => ?_⟩
    · rw [Nat.zero_add]
      exact row_cell h i _ (by unfold nv; rw [List.getElem?_map, hz]; rfl)
    · injection e with e; injection e with e1; subst e1
      exact ⟨hgB, hgl⟩
theorem own_slice {w : World} {B : Nat} {e : TypeId} {z : Nat} {v : Value} {n : Nat} {xs : List Value} (h : w.ownsRow B e z v n xs) : ∃ a c, v = .slice a n c := by
  obtain ⟨_, ⟨h2, rfl⟩ | ⟨g, cap, cur, hv, _⟩⟩ := h
  · exact ⟨none, 0, h2⟩
  · exact ⟨some ⟨g, 0, none⟩, cap, hv⟩
set_option maxHeartbeats 1000000 in
theorem corner_any (a : Option Addr) (c : Nat) (zs : List Int) (w : World) (h : Ints w a zs) (hl : zs.length ≤ 100) (hz : zs.all numB = true) :
    Calls Tryd.prog 36 #[.slice a zs.length c] w fun e w' => (∃ a' c', e = .returned (.slice a' zs.length c') ∧ w'.ownsRow w.heap.size 3 1 (.slice a' zs.length c') zs.length (nv (zs.map begF))) ∧ Below w.heap.size w w' := by
  have HZ : Hid (∀ z ∈ zs, -1000 ≤ z ∧ z ≤ 1000) := fun z hz' => by have := List.all_eq_true.1 hz z hz'; simpa [numB] using this
  obtain ⟨w1, k1, k2, k3⟩ := mkInts zs.length (by omega) w w.heap.size (Nat.le_refl _)
  have K2 : Hid (w1.ownsRow w.heap.size 3 1 (.slice (some ⟨w.heap.size, 0, none⟩) 0 zs.length) 0 []) := k2
  clear hz k2
  go_enter Tryd.func36, Tryd.ntmps36
  go_wp2_with fail
  go_loopw [3, 5, 11] (fun v _ i wr => ∃ m : Nat, m ≤ zs.length ∧ i = .int .i64 m ∧ wr.ownsRow w.heap.size 3 1 v m (nv ((zs.take m).map begF)) ∧ Below w.heap.size w wr) (fun _ _ i _ => zs.length - (intOf i).toNat)
  case atStart => exact ⟨0, by omega, rfl, K2.out, k3⟩
  case round =>
    obtain ⟨m, hm, rfl, ow, br⟩ := hrel
    by_cases hlt : m < zs.length
    · have hlt' : (m : Int) < (zs.length : Int) := by omega
      have hzm : zs[m]? = some zs[m] := List.getElem?_eq_getElem hlt
      obtain ⟨g, o, rfl, q1⟩ := (h.below br) m _ hzm
      have hb := HZ.out _ (List.mem_of_getElem? hzm)
      have HST : Hid (nv ((zs.take (m + 1)).map begF) = nv ((zs.take m).map begF) ++ [.int .i64 (begF zs[m])]) := by
        unfold Hid nv; rw [List.take_add_one, hzm, List.map_append, List.map_append]; rfl
      generalize zs[m] = z at *
      obtain ⟨bz, hbz⟩ : ∃ bz, begF z = bz := ⟨_, rfl⟩
      have HB : Hid _ := begin_any z wr hb.1 hb.2
      rw [hbz] at HB HST
      have a8 := below_alloc wr (.cells #[.int .i64 bz] 3)
      have ow8 := ownsRow_below ow a8
      have b8 := br.trans (a8.mono br.size)
      have hz8 := b8.size
      clear hzm hb hbz
      go_wp2_with (first
        | (go_at_call 54; refine Calls.mono HB.out ?_; rintro e w' ⟨rfl, hw'⟩; obtain rfl : wr = w' := hw'.symm)
        | (refine wpl_pushZ rfl _ _ 23 rfl w.heap.size 3 (.int .i64 0) 1 8 Tryd.underlying23 infoN rfl (by decide) _ m _ rfl ow8 wr.heap.size 1 [.int .i64 bz] rfl 3 (Blk.new wr _ _) rfl (fun u hu => by simp at hu; rcases hu with rfl; rfl) (by omega) (by decide) hz8 ?_; intro g9 c9 w9 ow9 gr9 hat9 hlt9)
        | fail)
      refine ⟨⟨m + 1, by omega, by go_num, ?_, row_grownBelow b8 ow8 gr9 b8.size⟩, by simp [intOf]; omega⟩
      rw [HST.out]; exact ow9
    · have hm' : m = zs.length := by omega
      subst hm'
      rw [List.take_length] at ow
      obtain ⟨a', c', hv⟩ := own_slice ow
      subst hv
      have HO : Hid (wr.ownsRow w.heap.size 3 1 (.slice a' zs.length c') zs.length (nv (zs.map begF))) := ow
      clear ow
      go_wp2_with fail
      go_ret
      exact ⟨⟨a', c', rfl, HO.out⟩, br⟩
end Go.Proofs.YtamalmgfhpneaaaDoor.Ce
