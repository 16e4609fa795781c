/-
  Part of the proof: the fact 'found' is walked.
  Part of the proof: slices.Clone and slices.Reverse over items.
  Part of the proof: plain facts: what is found stands in a row; none that is not is nearer than the last one; in whichever order items stand.
  Part of the proof: NearMoved's closures are walked.
-/
import Derived.Test.YtlhggfmcjmhipaaB06
import Derived.Shelf.SlGeneric
import Derived.Shelf.SlicesQ.Reverse
namespace Go.Proofs.Ytlhggfmcjmhipaa.Nr
open Go.RowKit
open It
theorem srt_eq {l l' : List (ByteArray × Int)} (h : l.Perm l') (hs : l'.Pairwise fun x y => ltF y x = false) : srt l = l' :=
  List.Perm.eq_of_pairwise (le := fun x y => ltF y x = false) (fun a b _ _ h1 h2 => (ltF_tot b a h1 h2).symm) (srt_sorted l) hs ((srt_perm l).trans h)
theorem ints2 {w : World} {b : Nat} {x y : Int} (h : Blk w b #[.int .i64 x, .int .i64 y] 3) : Ints w (some ⟨b, 0, none⟩) [x, y] := by
  intro i z hz
  have c0 := h.cell 0
  have c1 := h.cell 1
  match i, hz with
  | 0, hz => simp at hz; subst hz; exact ⟨b, 0, rfl, c0⟩
  | 1, hz => simp at hz; subst hz; exact ⟨b, 0, rfl, c1⟩
theorem found_plain (a b c : Option Addr) : (srt (fnd [0, 0] ⟨#[]⟩ (xsOf [⟨⟨⟨#[97]⟩, ⟨#[]⟩, [0, 0]⟩, a, 2⟩, ⟨⟨⟨#[98]⟩, ⟨#[]⟩, [3, 4]⟩, b, 2⟩, ⟨⟨⟨#[99]⟩, ⟨#[]⟩, [1, 0]⟩, c, 2⟩]))).take 2 = [(⟨#[97]⟩, 0), (⟨#[99]⟩, 1)] := by
  have e : fnd [0, 0] ⟨#[]⟩ (xsOf [⟨⟨⟨#[97]⟩, ⟨#[]⟩, [0, 0]⟩, a, 2⟩, ⟨⟨⟨#[98]⟩, ⟨#[]⟩, [3, 4]⟩, b, 2⟩, ⟨⟨⟨#[99]⟩, ⟨#[]⟩, [1, 0]⟩, c, 2⟩]) = [(⟨#[97]⟩, 0), (⟨#[98]⟩, 25), (⟨#[99]⟩, 1)] := by
    have ht : ∀ x : Itm, tagP ⟨#[]⟩ x = true := fun x => by unfold tagP; rw [decide_eq_true (show (ByteArray.mk #[]).toList = [] by rw [ByteArray.toList_eq])]; rfl
    unfold fnd xsOf
    simp only [List.map_cons, List.map_nil, List.filter_cons, ht, if_true, List.filter_nil]
    rfl
  have hs : srt [(⟨#[97]⟩, 0), (⟨#[98]⟩, 25), (⟨#[99]⟩, 1)] = [(⟨#[97]⟩, 0), (⟨#[99]⟩, 1), (⟨#[98]⟩, 25)] := by
    refine srt_eq (List.Perm.cons _ (List.Perm.swap _ _ _)) ?_
    have l1 : ∀ (x y : ByteArray) (a b : Int), b < a → ltF (x, a) (y, b) = false := fun x y a b h => by
      cases hh : ltF (x, a) (y, b) with
      | false => rfl
      | true => rcases (ltF_iff _ _).1 hh with q | q <;> simp at q <;> omega
    simp only [List.pairwise_cons, List.mem_cons, List.not_mem_nil, or_false, forall_eq_or_imp, forall_eq, List.Pairwise.nil, and_true, false_implies, implies_true]
    exact ⟨⟨l1 _ _ _ _ (by decide), l1 _ _ _ _ (by decide)⟩, l1 _ _ _ _ (by decide)⟩
  rw [e, hs]; rfl
set_option maxHeartbeats 1000000 in
theorem found_any (w : World) : Calls Try.prog 6 #[] w fun e w' => e = .returned (.bool true) ∧ Below w.heap.size w w' := by
  go_enter Try.func6, Try.ntmps6
  go_wp2_with fail
  have z0 : w.heap.size = w.heap.size := rfl
  obtain ⟨B, hB⟩ : ∃ B, w.heap.size = B := ⟨_, rfl⟩
  have j0 := Blk.new' w #[.int .i64 0, .int .i64 0] 3 (b := B) hB.symm
  have j1 := Blk.new' (w.alloc (.cells #[.int .i64 0, .int .i64 0] 3)) #[.int .i64 3, .int .i64 4] 3 (b := B + 1) (by simp [hB])
  have j2 := Blk.new' ((w.alloc (.cells #[.int .i64 0, .int .i64 0] 3)).alloc (.cells #[.int .i64 3, .int .i64 4] 3)) #[.int .i64 1, .int .i64 0] 3 (b := B + 1 + 1) (by simp [hB])
  have j3 := Blk.new' (((w.alloc (.cells #[.int .i64 0, .int .i64 0] 3)).alloc (.cells #[.int .i64 3, .int .i64 4] 3)).alloc (.cells #[.int .i64 1, .int .i64 0] 3)) #[.string ⟨#[97]⟩, .string ⟨#[]⟩, .slice (some ⟨B, 0, none⟩) 2 2, .string ⟨#[98]⟩, .string ⟨#[]⟩, .slice (some ⟨B + 1, 0, none⟩) 2 2, .string ⟨#[99]⟩, .string ⟨#[]⟩, .slice (some ⟨B + 1 + 1, 0, none⟩) 2 2] 37 (b := B + 1 + 1 + 1) (by simp [hB])
  have j4 := Blk.new' ((((w.alloc (.cells #[.int .i64 0, .int .i64 0] 3)).alloc (.cells #[.int .i64 3, .int .i64 4] 3)).alloc (.cells #[.int .i64 1, .int .i64 0] 3)).alloc (.cells #[.string ⟨#[97]⟩, .string ⟨#[]⟩, .slice (some ⟨B, 0, none⟩) 2 2, .string ⟨#[98]⟩, .string ⟨#[]⟩, .slice (some ⟨B + 1, 0, none⟩) 2 2, .string ⟨#[99]⟩, .string ⟨#[]⟩, .slice (some ⟨B + 1 + 1, 0, none⟩) 2 2] 37)) #[.int .i64 0, .int .i64 0] 3 (b := B + 1 + 1 + 1 + 1) (by simp [hB])
  have k0 := (((j0.alloc (.cells #[.int .i64 3, .int .i64 4] 3)).alloc (.cells #[.int .i64 1, .int .i64 0] 3)).alloc (.cells #[.string ⟨#[97]⟩, .string ⟨#[]⟩, .slice (some ⟨B, 0, none⟩) 2 2, .string ⟨#[98]⟩, .string ⟨#[]⟩, .slice (some ⟨B + 1, 0, none⟩) 2 2, .string ⟨#[99]⟩, .string ⟨#[]⟩, .slice (some ⟨B + 1 + 1, 0, none⟩) 2 2] 37)).alloc (.cells #[.int .i64 0, .int .i64 0] 3)
  have k1 := ((j1.alloc (.cells #[.int .i64 1, .int .i64 0] 3)).alloc (.cells #[.string ⟨#[97]⟩, .string ⟨#[]⟩, .slice (some ⟨B, 0, none⟩) 2 2, .string ⟨#[98]⟩, .string ⟨#[]⟩, .slice (some ⟨B + 1, 0, none⟩) 2 2, .string ⟨#[99]⟩, .string ⟨#[]⟩, .slice (some ⟨B + 1 + 1, 0, none⟩) 2 2] 37)).alloc (.cells #[.int .i64 0, .int .i64 0] 3)
  have k2 := (j2.alloc (.cells #[.string ⟨#[97]⟩, .string ⟨#[]⟩, .slice (some ⟨B, 0, none⟩) 2 2, .string ⟨#[98]⟩, .string ⟨#[]⟩, .slice (some ⟨B + 1, 0, none⟩) 2 2, .string ⟨#[99]⟩, .string ⟨#[]⟩, .slice (some ⟨B + 1 + 1, 0, none⟩) 2 2] 37)).alloc (.cells #[.int .i64 0, .int .i64 0] 3)
  have k3 := j3.alloc (.cells #[.int .i64 0, .int .i64 0] 3)
  have g5 : Below w.heap.size w (((((w.alloc (.cells #[.int .i64 0, .int .i64 0] 3)).alloc (.cells #[.int .i64 3, .int .i64 4] 3)).alloc (.cells #[.int .i64 1, .int .i64 0] 3)).alloc (.cells #[.string ⟨#[97]⟩, .string ⟨#[]⟩, .slice (some ⟨B, 0, none⟩) 2 2, .string ⟨#[98]⟩, .string ⟨#[]⟩, .slice (some ⟨B + 1, 0, none⟩) 2 2, .string ⟨#[99]⟩, .string ⟨#[]⟩, .slice (some ⟨B + 1 + 1, 0, none⟩) 2 2] 37)).alloc (.cells #[.int .i64 0, .int .i64 0] 3)) := (((((Below.refl _ _).alloc (Nat.le_refl _) _).alloc (by simp) _).alloc (by simp; omega) _).alloc (by simp; omega) _).alloc (by simp; omega) _
  rw [hB]
  clear j0 j1 j2 j3 z0
  generalize hW : ((((w.alloc (.cells #[.int .i64 0, .int .i64 0] 3)).alloc (.cells #[.int .i64 3, .int .i64 4] 3)).alloc (.cells #[.int .i64 1, .int .i64 0] 3)).alloc (.cells #[.string ⟨#[97]⟩, .string ⟨#[]⟩, .slice (some ⟨B, 0, none⟩) 2 2, .string ⟨#[98]⟩, .string ⟨#[]⟩, .slice (some ⟨B + 1, 0, none⟩) 2 2, .string ⟨#[99]⟩, .string ⟨#[]⟩, .slice (some ⟨B + 1 + 1, 0, none⟩) 2 2] 37)).alloc (.cells #[.int .i64 0, .int .i64 0] 3) = W at *
  have hIts : Its W (some ⟨B + 1 + 1 + 1, 0, none⟩) [⟨⟨⟨#[97]⟩, ⟨#[]⟩, [0, 0]⟩, some ⟨B, 0, none⟩, 2⟩, ⟨⟨⟨#[98]⟩, ⟨#[]⟩, [3, 4]⟩, some ⟨B + 1, 0, none⟩, 2⟩, ⟨⟨⟨#[99]⟩, ⟨#[]⟩, [1, 0]⟩, some ⟨B + 1 + 1, 0, none⟩, 2⟩] := by
    intro i d hd
    match i, hd with
    | 0, hd => simp at hd; subst hd; exact ⟨_, 0, rfl, k3.cell 0, k3.cell 1, k3.cell 2, ints2 k0, (show 2 ≤ maxLen by decide), (show 1 ≤ maxLen by decide), (show 0 ≤ maxLen by decide), (show 2 ≤ 2 by decide)⟩
    | 1, hd => simp at hd; subst hd; exact ⟨_, 0, rfl, k3.cell 3, k3.cell 4, k3.cell 5, ints2 k1, (show 2 ≤ maxLen by decide), (show 1 ≤ maxLen by decide), (show 0 ≤ maxLen by decide), (show 2 ≤ 2 by decide)⟩
    | 2, hd => simp at hd; subst hd; exact ⟨_, 0, rfl, k3.cell 6, k3.cell 7, k3.cell 8, ints2 k2, (show 2 ≤ maxLen by decide), (show 1 ≤ maxLen by decide), (show 0 ≤ maxLen by decide), (show 2 ≤ 2 by decide)⟩
  refine (top_ok 2 _ 3 _ (some ⟨B + 1 + 1 + 1 + 1, 0, none⟩) 2 [0, 0] 2 ⟨#[]⟩ W hIts (show 3 ≤ 100 by decide) (ints2 j4) (by decide) (by decide) (fun x hx => by
    simp at hx
    rcases hx with rfl | rfl | rfl
    · exact ⟨(show ([0, 0] : List Int).all numB = true by decide), (show 2 ≤ 100 by decide)⟩
    · exact ⟨(show ([3, 4] : List Int).all numB = true by decide), (show 2 ≤ 100 by decide)⟩
    · exact ⟨(show ([1, 0] : List Int).all numB = true by decide), (show 2 ≤ 100 by decide)⟩)).mono ?_
  rintro e w6 ⟨⟨v, rfl, hF⟩, g6⟩
  have hF2 : Fnds w6 v [(⟨#[97]⟩, 0), (⟨#[99]⟩, 1)] := by rw [← found_plain (some ⟨B, 0, none⟩) (some ⟨B + 1, 0, none⟩) (some ⟨B + 1 + 1, 0, none⟩)]; exact hF
  have b6 := g5.trans (g6.mono g5.size)
  clear hF hIts k0 k1 k2 k3 j4 hW g5 g6
  have s7 := below_alloc w6 (.cells #[.string ⟨#[97]⟩, .int .i64 0, .string ⟨#[99]⟩, .int .i64 1] 35)
  have j7 : Blk (w6.alloc (.cells #[.string ⟨#[97]⟩, .int .i64 0, .string ⟨#[99]⟩, .int .i64 1] 35)) w6.heap.size #[.string ⟨#[97]⟩, .int .i64 0, .string ⟨#[99]⟩, .int .i64 1] 35 := Blk.new w6 _ _
  have hF7 : Fnds (w6.alloc (.cells #[.string ⟨#[97]⟩, .int .i64 0, .string ⟨#[99]⟩, .int .i64 1] 35)) (.slice (some ⟨w6.heap.size, 0, none⟩) 2 2) [(⟨#[97]⟩, 0), (⟨#[99]⟩, 1)] := by
    refine ⟨_, 2, rfl, by decide, fun i x hx => ?_⟩
    match i, hx with
    | 0, hx => simp at hx; subst hx; exact ⟨_, 0, rfl, j7.lt, j7.cell 0, j7.cell 1⟩
    | 1, hx => simp at hx; subst hx; exact ⟨_, 0, rfl, j7.lt, j7.cell 2, j7.cell 3⟩
  have HE := feq_any v _ _ _ (hF2.below s7) hF7 (by decide)
  have HEQ : Hid _ := HE
  have b7 := b6.trans (s7.mono b6.size)
  clear hF2 hF7 HE
  go_wp2_with fail
  refine Calls.mono HEQ.out ?_
  rintro e w8 ⟨rfl, n8, rfl⟩
  have b8 : Below w.heap.size w ((w6.alloc (.cells #[.string ⟨#[97]⟩, .int .i64 0, .string ⟨#[99]⟩, .int .i64 1] 35)).drewN n8) := below_drewN b7 n8
  generalize (w6.alloc (.cells #[.string ⟨#[97]⟩, .int .i64 0, .string ⟨#[99]⟩, .int .i64 1] 35)).drewN n8 = w8 at *
  have i0 := Blk.new w8 #[.int .i64 0, .int .i64 0] 3
  have i1 := Blk.new' (w8.alloc (.cells #[.int .i64 0, .int .i64 0] 3)) #[.int .i64 3, .int .i64 4] 3 (b := w8.heap.size + 1) (by simp)
  have HF := far_any (some ⟨w8.heap.size, 0, none⟩) (some ⟨w8.heap.size + 1, 0, none⟩) 2 2 [0, 0] [3, 4] _ (ints2 (i0.alloc (.cells #[.int .i64 3, .int .i64 4] 3))) (ints2 i1) (by decide) (by decide) (by decide)
  have HFF : Hid _ := HF
  have b9 := (b8.alloc b8.size (.cells #[.int .i64 0, .int .i64 0] 3)).alloc (by simp; have := b8.size; omega) (.cells #[.int .i64 3, .int .i64 4] 3)
  clear HF i0 i1 HEQ j7 s7 b7
  go_wp2_with fail
  refine Calls.mono HFF.out ?_
  rintro e wz ⟨rfl, nz, rfl⟩
  rw [show farI [0, 0] [3, 4] = 25 from by decide]
  go_wp2_with fail
  go_ret
  exact ⟨rfl, below_drewN b9 nz⟩
end Go.Proofs.Ytlhggfmcjmhipaa.Nr
namespace Go.Proofs.Ytlhggfmcjmhipaa.Nr
open Go.Shelf Go.RowKit
open It
def revI_ren : Go.Shelf.Ren := ⟨fun | 35 => 15 | n => n, fun | 22 => 22 | 23 => 37 | 3 => 3 | 4 => 4 | 0 => 0 | n => n, fun | n => n⟩
theorem revI : Go.Proofs.SlLaysE0.n35 Try.prog revI_ren := {
  mixed := by kernel_rfl
  f35 := ⟨Try.f15.name, by decide, Try.func15.trans (congrArg some (by kernel_rfl))⟩
  t0 := Try.underlying0
  a0 := Try.isAgg0
  z0 := Try.sizeOf0
  v0 := Try.zeroValue0
  t3 := Try.underlying3
  a3 := Try.isAgg3
  z3 := Try.sizeOf3
  v3 := Try.zeroValue3
  t4 := Try.underlying4
  a4 := Try.isAgg4
  z4 := Try.sizeOf4
  v4 := Try.zeroValue4
  t22 := Try.underlying22
  a22 := Try.isAgg22
  z22 := Try.sizeOf22
  v22 := Try.zeroValue22 }
theorem addr_addO (b o i : Nat) : (⟨b, o, none⟩ : Addr).add i = ⟨b, o + i, none⟩ := by
  simp [Addr.add]
theorem its_cells {w : World} {g o : Nat} {ds : List ItD} (h : Its w (some ⟨g, o, none⟩) ds) (j : Nat) (u : Value) (hj : (flatI ds)[j]? = some u) : w.cell? ⟨g, o + j, none⟩ = some u := by
  have hl : j < ds.length * 3 := by have := (List.getElem?_eq_some_iff.1 hj).1; rwa [flatI_len] at this
  obtain ⟨d, hd⟩ : ∃ d, ds[j / 3]? = some d := ⟨_, List.getElem?_eq_getElem (by omega)⟩
  obtain ⟨q1, q2, q3⟩ := flatI_cell ds _ d hd
  obtain ⟨g', o', e, c1, c2, c3, _⟩ := h _ d hd
  injection e with e
  injection e with e1 e2
  subst e1 e2
  have h3 : j % 3 = 0 ∨ j % 3 = 1 ∨ j % 3 = 2 := by omega
  rcases h3 with h3 | h3 | h3
  · have e : j = j / 3 * 3 := by omega
    rw [e] at hj
    rw [q1] at hj
    injection hj with hj
    subst hj
    conv => lhs; rw [e]
    exact c1
  · have e : j = j / 3 * 3 + 1 := by omega
    rw [e] at hj
    rw [q2] at hj
    injection hj with hj
    subst hj
    conv => lhs; rw [e]
    exact c2
  · have e : j = j / 3 * 3 + 2 := by omega
    rw [e] at hj
    rw [q3] at hj
    injection hj with hj
    subst hj
    conv => lhs; rw [e]
    exact c3
set_option maxHeartbeats 1000000 in
theorem iclone_any (g o c : Nat) (ds : List ItD) (w : World) (h : Its w (some ⟨g, o, none⟩) ds) (h0 : 0 < ds.length) (hl : ds.length ≤ 100) :
    Calls Try.prog 14 #[.slice (some ⟨g, o, none⟩) ds.length c] w fun e w' => (∃ g' c', e = .returned (.slice (some ⟨g', 0, none⟩) ds.length c') ∧ w'.ownsRow w.heap.size 37 3 (.slice (some ⟨g', 0, none⟩) ds.length c') ds.length (flatI ds)) ∧ Below w.heap.size w w' := by
  have s1 := below_alloc w (.cells #[] 37)
  have hI := h.below s1
  have hB : Blk (w.alloc (.cells #[] 37)) w.heap.size #[] 37 := Blk.new w _ _
  have ow1 : (w.alloc (.cells #[] 37)).ownsRow w.heap.size 37 3 (.slice (some ⟨w.heap.size, 0, none⟩) 0 0) 0 [] := row_fresh hB (Nat.le_refl _) (by decide) rfl
  have hq : ∀ w : World, (binOp .eql 22 (.slice (some ⟨g, o, none⟩) ds.length c) (.slice none 0 0)).run Try.prog w = .ok (.bool false) w := fun w => by kernel_rfl
  obtain ⟨i, hi, hp⟩ := Option.map_eq_some_iff.1 infoIt
  simp only [Prod.mk.injEq] at hp
  obtain ⟨p1, p2, p3⟩ := hp
  have hc := its_cells hI
  clear h hI
  have HI : Hid (Try.prog.info? 37 = some i ∧ i.zero = some (.agg #[.string ByteArray.empty, .string ByteArray.empty, .slice none 0 0]) ∧ i.size = 3 ∧ i.bytes = 56) := ⟨hi, p1, p2, p3⟩
  clear hi p1 p2 p3
  go_enter Try.func14, Try.ntmps14
  go_wp2_with (first
    | (refine wpList_append_lies _ rfl _ _ 22 rfl w.heap.size 37 i (.agg #[.string ByteArray.empty, .string ByteArray.empty, .slice none 0 0]) 3 56 Try.underlying22 HI.out.1 HI.out.2.1 HI.out.2.2.1 HI.out.2.2.2 rfl (by decide) (.slice (some ⟨w.heap.size, 0, none⟩) 0 0) 0 [] rfl ow1 ⟨g, o, none⟩ ds.length c (flatI ds) rfl (flatI_len ds) (fun j u hu => by rw [addr_addO]; exact hc j u hu) (flatI_one ds) h0 (by unfold maxLen; omega) (by omega) (by simp) (w.heap.size + 1) (by simp) ?_; intro g6 c6 w6 ow6 gr6 hat6 hlt6)
    | fail)
  go_ret
  have ow7 : w6.ownsRow w.heap.size 37 3 (.slice (some ⟨g6, 0, none⟩) ds.length c6) ds.length (flatI ds) := by simpa using ow6
  exact ⟨⟨g6, c6, by simp, ow7⟩, row_grownBelow s1 ow1 gr6 (by simp)⟩
theorem iclone_nil (w : World) : Calls Try.prog 14 #[.slice none 0 0] w fun e w' => e = .returned (.slice none 0 0) ∧ w' = w := by
  have hq : ∀ w : World, (binOp .eql 22 (.slice none 0 0) (.slice none 0 0)).run Try.prog w = .ok (.bool true) w := fun w => by kernel_rfl
  go_enter Try.func14, Try.ntmps14
  go_wp2_with fail
  go_ret
  exact ⟨rfl, rfl⟩
theorem irev_nil (w : World) : Calls Try.prog 15 #[.slice none 0 0] w fun e w' => e = .returned (.tuple #[]) ∧ w' = w := AnyQ.slices_Reverse_empty revI none 0 w
def encI (d : ItD) : List Value := [.string d.x.name, .string d.x.tag, d.val]
instance : Inhabited ItD := ⟨⟨⟨⟨#[]⟩, ⟨#[]⟩, []⟩, none, 0⟩⟩
theorem flatKI_get (l : List ItD) (t : Nat) (h : t < l.length * 3) : (flatI l)[t]? = some ((Go.Sort.flatK encI 3 l.toArray)[t]!) := by
  rw [Go.Sort.get_flatK _ _ _ _ (by simpa using h)]
  have hi : t / 3 < l.length := by omega
  obtain ⟨x, hx⟩ : ∃ x, l[t / 3]? = some x := ⟨_, List.getElem?_eq_getElem hi⟩
  have e : l.toArray[t / 3]! = x := by
    rw [getElem!_pos _ _ (by simpa using hi)]
    rw [List.getElem?_eq_getElem hi] at hx
    simpa using hx
  rw [e]
  obtain ⟨q1, q2, q3⟩ := flatI_cell l (t / 3) _ hx
  have h3 : t % 3 = 0 ∨ t % 3 = 1 ∨ t % 3 = 2 := by omega
  rcases h3 with h3 | h3 | h3
  · rw [h3]
    have e2 : t = t / 3 * 3 := by omega
    conv => lhs; rw [e2]
    rw [q1]; rfl
  · rw [h3]
    have e2 : t = t / 3 * 3 + 1 := by omega
    conv => lhs; rw [e2]
    rw [q2]; rfl
  · rw [h3]
    have e2 : t = t / 3 * 3 + 2 := by omega
    conv => lhs; rw [e2]
    rw [q3]; rfl
theorem holdsI {w : World} {B g cap : Nat} {l : List ItD} (h : w.ownsRow B 37 3 (.slice (some ⟨g, 0, none⟩) l.length cap) l.length (flatI l)) (hl0 : 0 < l.length) : Go.Sort.HoldsK encI 3 w g 0 l.toArray := by
  obtain ⟨g', cap', cur, hv, hgB, hgl, hh, hc1, hc2, hs, ht⟩ := own_parts h (by omega)
  injection hv with hv1 hv2 hv3
  injection hv1 with hv1
  injection hv1 with hv1
  subst hv1 hv3
  intro t htl
  rw [Go.Sort.size_flatK] at htl
  have htl' : t < l.length * 3 := by simpa using htl
  have hf := flatKI_get l t htl'
  rw [← ht, List.getElem?_take_of_lt htl', Array.getElem?_toList] at hf
  refine ⟨?_, ?_⟩
  · rw [Nat.zero_add]; simp only [World.cell?, hh]; exact hf
  · simp [World.frozen?, hh]
set_option maxHeartbeats 1000000 in
theorem irev_any (B g cap : Nat) (l : List ItD) (w : World) (h : w.ownsRow B 37 3 (.slice (some ⟨g, 0, none⟩) l.length cap) l.length (flatI l)) (hl0 : 0 < l.length) (hl : l.length ≤ 1000) (hok : ∀ d ∈ l, d.Ok w) (hlow : ∀ d ∈ l, ∀ b o, d.a = some ⟨b, o, none⟩ → b ≠ g) :
    Calls Try.prog 15 #[.slice (some ⟨g, 0, none⟩) l.length cap] w fun e w' => e = .returned (.tuple #[]) ∧ Its w' (some ⟨g, 0, none⟩) l.reverse ∧ Below B w w' := by
  have hH := holdsI h hl0
  obtain ⟨g', cap', cur, hv, hgB, hgl, hh, hc1, hc2, hs, ht⟩ := own_parts h (by omega)
  injection hv with hv1 hv2 hv3
  injection hv1 with hv1
  injection hv1 with hv1
  subst hv1 hv3
  have hcon := AnyQ.slices_Reverse revI 3 Try.isAgg37 Try.sizeOf37 encI (fun _ => rfl) (fun x v hv => by simp [encI] at hv; rcases hv with rfl | rfl | rfl <;> rfl) g 0 cap l.toArray w hH (by simp; omega)
  have hsz : l.toArray.size = l.length := by simp
  rw [hsz] at hcon
  refine hcon.mono ?_
  rintro e w' ⟨rfl, n, rfl⟩
  have hH' := Go.Sort.holdsK_putRowK (enc := encI) (k := 3) (Go.Sort.ahead w n) g 0 l.toArray l.toArray.reverse (Go.Sort.holdsK_ahead (enc := encI) (k := 3) w n g 0 _ hH) (by simp)
  have hbel : Below B w (Go.Sort.putRowK encI 3 (Go.Sort.ahead w n) g 0 l.toArray.reverse) := ⟨rfl, rfl, rfl, by simp [Go.Sort.putRowK, Go.Sort.putRow, Go.Sort.mapBlock, Go.Sort.ahead], fun k hk => by
    simp [Go.Sort.putRowK, Go.Sort.putRow, Go.Sort.mapBlock, Go.Sort.ahead, Array.getElem?_modify, show g ≠ k by omega]⟩
  have hoth : ∀ k, k ≠ g → (Go.Sort.putRowK encI 3 (Go.Sort.ahead w n) g 0 l.toArray.reverse).heap[k]? = w.heap[k]? := fun k hk => by
    simp [Go.Sort.putRowK, Go.Sort.putRow, Go.Sort.mapBlock, Go.Sort.ahead, Array.getElem?_modify, show g ≠ k from fun e => hk e.symm]
  refine ⟨rfl, fun i d hd => ?_, hbel⟩
  have hil : i < l.length := by have := (List.getElem?_eq_some_iff.1 hd).1; simpa using this
  have hdx : l.toArray.reverse[i]! = d := by
    rw [getElem!_pos l.toArray.reverse i (by simpa using hil)]
    have : l.toArray.reverse[i]? = some d := by rw [← hd, ← Array.getElem?_toList]; simp
    rw [Array.getElem?_eq_getElem (by simpa using hil)] at this
    exact Option.some.inj this
  have c0 := (hH'.cell (show i < l.toArray.reverse.size by simpa using hil) (show 0 < 3 by decide)).1
  have c1 := (hH'.cell (show i < l.toArray.reverse.size by simpa using hil) (show 1 < 3 by decide)).1
  have c2 := (hH'.cell (show i < l.toArray.reverse.size by simpa using hil) (show 2 < 3 by decide)).1
  rw [hdx] at c0 c1 c2
  have hm : d ∈ l := by have := List.mem_of_getElem? hd; simpa using this
  obtain ⟨k1, k2⟩ := hok d hm
  refine ⟨g, 0, rfl, c0, c1, c2, ⟨fun j z hz => ?_, k2⟩⟩
  obtain ⟨b, o, e, hc⟩ := k1 j z hz
  refine ⟨b, o, e, ?_⟩
  rw [← hc]
  exact World.cell?_of_block (hoth b (hlow d hm b o e))
end Go.Proofs.Ytlhggfmcjmhipaa.Nr
namespace Go.Proofs.Ytlhggfmcjmhipaa.Nr
open Go.RowKit
open It
theorem fnd_names (ys : List Int) (tag : ByteArray) (xs : List Itm) : (fnd ys tag xs).map Prod.fst = (xs.filter (tagP tag)).map fun x => x.name := by
  unfold fnd; rw [List.map_map]; rfl
theorem fnd_nodup {ys : List Int} {tag : ByteArray} {ds : List ItD} (h : (ds.map fun d => d.x.name).Nodup) : (fnd ys tag (xsOf ds)).Nodup := by
  refine List.Pairwise.of_map (S := fun a b => a ≠ b) Prod.fst (fun a b h e => h (by rw [e])) ?_
  rw [fnd_names]
  have e : (xsOf ds).map (fun x => x.name) = ds.map fun d => d.x.name := by unfold xsOf; rw [List.map_map]; rfl
  refine List.Nodup.sublist ?_ (e ▸ h)
  exact List.Sublist.map _ List.filter_sublist
theorem srt_strict {F : List (ByteArray × Int)} (h : F.Nodup) (i j : Nat) (x y : ByteArray × Int) (hij : i < j) (hx : (srt F)[i]? = some x) (hy : (srt F)[j]? = some y) : ltF x y = true := by
  have hn : (srt F).Nodup := (srt_perm F).nodup_iff.2 h
  have hs := srt_sorted F
  obtain ⟨hi, e1⟩ := List.getElem?_eq_some_iff.1 hx
  obtain ⟨hj, e2⟩ := List.getElem?_eq_some_iff.1 hy
  have h1 := List.pairwise_iff_getElem.1 hs i j hi hj hij
  have h2 := List.pairwise_iff_getElem.1 hn i j hi hj hij
  rw [e1, e2] at h1 h2
  cases h3 : ltF x y with
  | true => rfl
  | false => exact absurd (ltF_tot x y h3 h1) h2
theorem lt_cf {x y : ByteArray × Int} (h : ltF x y = true) : cfF x y < 0 := by rw [cfF_neg]; exact h
theorem cf_pos {x y : ByteArray × Int} (h : ltF y x = true) : 0 < cfF x y := by
  have h1 : ¬ cfF x y < 0 := by
    rw [cfF_neg]
    intro h2
    have := ltF_trans x y x h2 h
    rw [ltF_irrefl] at this; cases this
  have h2 : ¬ cfF x y = 0 := by
    rw [cfF_zero]
    intro e; subst e; rw [ltF_irrefl] at h; cases h
  omega
/-- One that is not found is farther than the last one that is. -/
theorem srt_out {F : List (ByteArray × Int)} (h : F.Nodup) (k : Nat) (hk : 1 ≤ k) (f : ByteArray × Int) (hf : f ∈ F) (hn : f ∉ (srt F).take k) : ((srt F).take k).length = k ∧ ∃ y, ((srt F).take k)[k - 1]? = some y ∧ 0 < cfF f y := by
  have hm : f ∈ srt F := (srt_perm F).mem_iff.2 hf
  obtain ⟨j, hj⟩ := List.getElem?_of_mem hm
  have hjk : k ≤ j := by
    rcases Nat.lt_or_ge j k with h' | h'
    · refine absurd (List.mem_of_getElem? (l := (srt F).take k) (i := j) ?_) hn
      rw [List.getElem?_take_of_lt h', hj]
    · exact h'
  have hjl := (List.getElem?_eq_some_iff.1 hj).1
  have hl : ((srt F).take k).length = k := by rw [List.length_take]; omega
  obtain ⟨y, hy⟩ : ∃ y, (srt F)[k - 1]? = some y := ⟨_, List.getElem?_eq_getElem (by omega)⟩
  refine ⟨hl, y, by rw [List.getElem?_take_of_lt (by omega), hy], cf_pos (srt_strict h (k - 1) j y f (by omega) hy hj)⟩
theorem xsOf_reverse (ds : List ItD) : xsOf ds.reverse = (xsOf ds).reverse := by unfold xsOf; rw [List.map_reverse]
theorem fnd_reverse (ys : List Int) (tag : ByteArray) (xs : List Itm) : fnd ys tag xs.reverse = (fnd ys tag xs).reverse := by
  unfold fnd; rw [List.filter_reverse, List.map_reverse]
theorem srt_reverse (ys : List Int) (tag : ByteArray) (ds : List ItD) : srt (fnd ys tag (xsOf ds.reverse)) = srt (fnd ys tag (xsOf ds)) := by
  rw [xsOf_reverse, fnd_reverse]; exact srt_of_perm (List.reverse_perm _)
theorem take_less (T : List (ByteArray × Int)) (k l : Nat) (h : l ≤ k) : (T.take k).take (min l (T.take k).length) = T.take l := by
  rw [List.take_take]
  by_cases h2 : l ≤ (T.take k).length
  · rw [Nat.min_eq_left h2, Nat.min_eq_left h]
  · have h3 : T.length < l := by rw [List.length_take] at h2; omega
    have e : (T.take k).length = T.length := by rw [List.length_take]; omega
    rw [e, Nat.min_eq_right (by omega : T.length ≤ l), Nat.min_eq_left (by omega), List.take_of_length_le (Nat.le_refl _), List.take_of_length_le (by omega)]
theorem fnd_mem {ys : List Int} {tag : ByteArray} {ds : List ItD} {i : Nat} {d : ItD} (h : ds[i]? = some d) (ht : tagP tag d.x = true) : (d.x.name, farI d.x.nums ys) ∈ fnd ys tag (xsOf ds) := by
  unfold fnd
  refine List.mem_map.2 ⟨d.x, List.mem_filter.2 ⟨List.mem_map.2 ⟨d, List.mem_of_getElem? h, rfl⟩, ht⟩, rfl⟩
theorem right_nums {x : Itm} (h : rightB x 2 = true) : x.nums.all numB = true ∧ x.nums.length = 2 := by
  unfold rightB at h
  simp only [Bool.and_eq_true, decide_eq_true_eq] at h
  exact ⟨h.2, by have := h.1.1.1.2; omega⟩
end Go.Proofs.Ytlhggfmcjmhipaa.Nr
namespace Go.Proofs.Ytlhggfmcjmhipaa.Nr
open Go.RowKit
open It
def midB (n : Int) : Bool := decide (-900 ≤ n) && decide (n ≤ 900)
theorem midOut_any (n : Int) (w : World) : Calls Try.prog 20 #[.int .i64 n] w fun e w' => e = .returned (.bool (!midB n)) ∧ w' = w := by
  go_enter Try.func20, Try.ntmps20
  by_cases h1 : -900 ≤ n <;> by_cases h2 : n ≤ 900 <;>
  · go_wp2
    go_ret
    exact ⟨by simp [midB, h1, h2], rfl⟩
set_option maxHeartbeats 400000 in
theorem indexMids_any (a : Option Addr) (c : Nat) (zs : List Int) (w : World) (h : Ints w a zs) (hl : zs.length ≤ maxLen) :
    Calls Try.prog 32 #[.slice a zs.length c, .func (.func 20) #[] #[]] w fun e w' => (∃ j : Int, e = .returned (.int .i64 j) ∧ (decide (0 ≤ j) = !zs.all midB)) ∧ w' = w := by
  unfold maxLen at hl
  go_enter Try.func32, Try.ntmps32
  go_wp2_with fail
  go_loop [8] (fun i => ∃ k : Nat, k ≤ zs.length ∧ i = .int .i64 k ∧ (zs.take k).all midB = true) (fun i => zs.length - (intOf i).toNat)
  case atStart => exact ⟨0, by omega, rfl, by simp⟩
  case round =>
    obtain ⟨k, hk, rfl, hp⟩ := hrel
    by_cases hlt : k < zs.length
    · have HP : Hid ((zs.take k).all midB = true) := hp
      clear hp
      obtain ⟨g, o, rfl, hc⟩ := h k zs[k] (List.getElem?_eq_getElem hlt)
      have hg : g < w.heap.size := World.block_lt_of_cell? w _ hc
      have htk : Hid (zs[k]? = some zs[k]) := List.getElem?_eq_getElem hlt
      have hlt' : (k : Int) < (zs.length : Int) := by omega
      generalize zs[k] = x at *
      by_cases hx : midB x = true
      · go_wp2_with (go_at_call 20; refine (midOut_any _ _).mono ?_; rintro e w' ⟨rfl, rfl⟩; rw [hx])
        go_round
        case rel => exact ⟨k + 1, by omega, by go_num, by rw [List.take_add_one, htk.out, List.all_append, HP.out]; simp [hx]⟩
        case measure => simp [intOf]; omega
      · have hx' : midB x = false := by simpa using hx
        go_wp2_with (go_at_call 20; refine (midOut_any _ _).mono ?_; rintro e w' ⟨rfl, rfl⟩; rw [hx'])
        go_ret
        refine ⟨⟨k, rfl, ?_⟩, rfl⟩
        have : zs.all midB = false := by rw [List.all_eq_false]; exact ⟨x, List.mem_of_getElem? htk.out, by simp [hx']⟩
        rw [this]; simp
    · have hk' : k = zs.length := by omega
      subst hk'
      rw [List.take_length] at hp
      have HP : Hid (zs.all midB = true) := hp
      clear hp
      go_wp2_with fail
      go_ret
      exact ⟨⟨-1, rfl, by rw [HP.out]; decide⟩, rfl⟩
theorem containsMids_any (a : Option Addr) (c : Nat) (zs : List Int) (w : World) (h : Ints w a zs) (hl : zs.length ≤ maxLen) :
    Calls Try.prog 19 #[.slice a zs.length c, .func (.func 20) #[] #[]] w fun e w' => e = .returned (.bool (!zs.all midB)) ∧ w' = w := by
  go_enter Try.func19, Try.ntmps19
  go_wp2_with (go_at_call 32; refine (indexMids_any _ _ _ _ h hl).mono ?_; rintro e w' ⟨⟨j, rfl, hj⟩, rfl⟩)
  go_ret
  refine ⟨?_, rfl⟩
  rw [← hj]; simp
/-- Two numbers, and both wide enough inside. -/
def insB (zs : List Int) : Bool := decide ((zs.length : Int) = 2) && zs.all midB
theorem inside_any (a : Option Addr) (c : Nat) (zs : List Int) (w : World) (h : Ints w a zs) (hl : zs.length ≤ maxLen) :
    Calls Try.prog 18 #[.slice a zs.length c] w fun e w' => e = .returned (.bool (insB zs)) ∧ w' = w := by
  have hl' : zs.length ≤ 9223372036854775807 := hl
  have HA : Hid (insB zs = (decide ((zs.length : Int) = 2) && zs.all midB)) := rfl
  rw [HA.out]
  by_cases c1 : (zs.length : Int) = 2
  · have HC : Hid (decide ((zs.length : Int) = 2) = true) := decide_eq_true c1
    rw [HC.out]
    have c2 : ((zs.length : Int) == 2) = true := by simpa using c1
    have HM := containsMids_any a c zs w h hl
    have HH : Hid _ := HM
    clear HM
    cases hm : zs.all midB with
    | true =>
      rw [hm] at HH
      go_enter Try.func18, Try.ntmps18
      go_wp2_with (go_at_call 19; refine Calls.mono HH.out ?_; rintro e w' ⟨rfl, rfl⟩)
      go_ret
      exact ⟨rfl, rfl⟩
    | false =>
      rw [hm] at HH
      go_enter Try.func18, Try.ntmps18
      go_wp2_with (go_at_call 19; refine Calls.mono HH.out ?_; rintro e w' ⟨rfl, rfl⟩)
      go_ret
      exact ⟨rfl, rfl⟩
  · have c1' : decide ((zs.length : Int) = 2) = false := by simpa using c1
    go_enter Try.func18, Try.ntmps18
    go_wp2
    go_ret
    exact ⟨by rw [c1']; rfl, rfl⟩
theorem far_away_any (y : ItD) (w : World) (bf : Nat) (hf : w.cell? ⟨bf, 0, none⟩ = some (.func (.func 18) #[] #[])) (hbf : bf < w.heap.size) (hy : y.Ok w) (hl : y.x.nums.length ≤ maxLen) :
    Calls Try.prog 22 #[.agg y.arr, .pointer (some ⟨bf, 0, none⟩)] w fun e w' => e = .returned (.bool (!insB y.x.nums)) ∧ Below w.heap.size w w' := by
  unfold ItD.arr ItD.val
  have hi : Ints w y.a y.x.nums := hy.1
  obtain ⟨⟨nm, tg, zs⟩, a, c⟩ := y
  simp only at hi hl ⊢
  have hb := below_alloc w (.cells #[.string nm, .string tg, .slice a zs.length c] 37)
  have hf1 : (w.alloc (.cells #[.string nm, .string tg, .slice a zs.length c] 37)).cell? ⟨bf, 0, none⟩ = some (.func (.func 18) #[] #[]) := (World.cell?_of_block (hb.block bf hbf)).trans hf
  have hi1 := hi.below hb
  have HH : Hid _ := inside_any a c zs _ hi1 hl
  clear hi1 hi hy hf
  go_enter Try.func22, Try.ntmps22
  go_wp2_with (go_at_call 18; refine Calls.mono HH.out ?_; rintro e w' ⟨rfl, rfl⟩)
  go_ret
  exact ⟨rfl, hb⟩
theorem moved_any (a : Option Addr) (c : Nat) (x y : Int) (by' to : Int) (w : World) (bb bt : Nat) (h : Ints w a [x, y]) (hb : w.cell? ⟨bb, 0, none⟩ = some (.int .i64 by')) (ht : w.cell? ⟨bt, 0, none⟩ = some (.int .i64 to))
    (x1 : -1000 ≤ x) (x2 : x ≤ 1000) (y1 : -1000 ≤ y) (y2 : y ≤ 1000) (b1 : -50 ≤ by') (b2 : by' ≤ 50) (t1 : -50 ≤ to) (t2 : to ≤ 50) :
    Calls Try.prog 17 #[.slice a 2 c, .pointer (some ⟨bb, 0, none⟩), .pointer (some ⟨bt, 0, none⟩)] w fun e w' => (∃ g, e = .returned (.slice (some ⟨g, 0, none⟩) 2 2) ∧ w.heap.size ≤ g ∧ Ints w' (some ⟨g, 0, none⟩) [x + by', y + to]) ∧ Below w.heap.size w w' := by
  obtain ⟨g0, o0, rfl, hx⟩ := h 0 x rfl
  obtain ⟨g1, o1, e1, hy⟩ := h 1 y rfl
  injection e1 with e1; injection e1 with e1 e2; subst e1 e2
  rw [Nat.add_zero] at hx
  clear h
  have hg0 : g0 < w.heap.size := World.block_lt_of_cell? w _ hx
  have HX : Hid (∀ W', Below w.heap.size w W' → W'.cell? ⟨g0, o0, none⟩ = some (.int .i64 x)) := fun W' hb => cell_below hb hx
  have HY : Hid (∀ W', Below w.heap.size w W' → W'.cell? ⟨g0, o0 + 1, none⟩ = some (.int .i64 y)) := fun W' hb => cell_below hb hy
  have HB : Hid (∀ W', Below w.heap.size w W' → W'.cell? ⟨bb, 0, none⟩ = some (.int .i64 by')) := fun W' h' => cell_below h' hb
  have HT : Hid (∀ W', Below w.heap.size w W' → W'.cell? ⟨bt, 0, none⟩ = some (.int .i64 to)) := fun W' h' => cell_below h' ht
  clear hx hy hb ht
  go_enter Try.func17, Try.ntmps17
  go_wp2
  have s0 : Below w.heap.size w w.drew := below_drewN (Below.refl _ _) 1
  have hw1 : IntKind.i64.wrap (x + by') = x + by' := by rw [IntKind.wrap_i64]; omega
  have hw2 : IntKind.i64.wrap (y + to) = y + to := by rw [IntKind.wrap_i64]; omega
  refine regS_in 12 (fun W' => Below w.heap.size w W') mixed rfl ?_
  refine regS_take 0 5 (.slice (some ⟨g0, o0, none⟩) 2 c) rfl rfl (by kernel_rfl) (fun _ _ _ h => h) (by kernel_rfl) (fun W' hs' => by go_simp) s0 ?_
  refine regS_take 1 6 (.pointer (some ⟨g0, o0, none⟩)) rfl rfl (by kernel_rfl) (fun _ _ _ h => h) (by kernel_rfl) (fun W' hs' => by go_simp) s0 ?_
  refine regS_take 2 7 (.int .i64 x) rfl rfl (by kernel_rfl) (fun _ _ _ h => h) (by kernel_rfl) (fun W' hs' => by have a0 := HX.out W' hs'; go_simp) s0 ?_
  refine regS_take 3 8 (.int .i64 by') rfl rfl (by kernel_rfl) (fun _ _ _ h => h) (by kernel_rfl) (fun W' hs' => by have a0 := HB.out W' hs'; go_simp) s0 ?_
  refine regS_take 4 9 (.int .i64 (x + by')) rfl rfl (by kernel_rfl) (fun _ _ _ h => h) (by kernel_rfl) (fun W' hs' => by go_simp) s0 ?_
  refine regS_take 5 10 (.slice (some ⟨g0, o0, none⟩) 2 c) rfl rfl (by kernel_rfl) (fun _ _ _ h => h) (by kernel_rfl) (fun W' hs' => by go_simp) s0 ?_
  refine regS_take 6 11 (.pointer (some ⟨g0, o0 + 1, none⟩)) rfl rfl (by kernel_rfl) (fun _ _ _ h => h) (by kernel_rfl) (fun W' hs' => by go_simp) s0 ?_
  refine regS_take 7 12 (.int .i64 y) rfl rfl (by kernel_rfl) (fun _ _ _ h => h) (by kernel_rfl) (fun W' hs' => by have a0 := HY.out W' hs'; go_simp) s0 ?_
  refine regS_take 8 13 (.int .i64 to) rfl rfl (by kernel_rfl) (fun _ _ _ h => h) (by kernel_rfl) (fun W' hs' => by have a0 := HT.out W' hs'; go_simp) s0 ?_
  refine regS_take 9 14 (.int .i64 (y + to)) rfl rfl (by kernel_rfl) (fun _ _ _ h => h) (by kernel_rfl) (fun W' hs' => by go_simp) s0 ?_
  simp only [Act.put, List.setIfInBounds_toArray, List.set_cons_succ, List.set_cons_zero]
  refine regS_one 10 rfl (by kernel_rfl) (by kernel_rfl) (fun K hK' => ?_)
  go_wp2_with fail
  have s1 : Below w.heap.size w (w.alloc (.cells #[.int .i64 (x + by'), .int .i64 (y + to)] 3)).drew := below_drewN (below_alloc w _) 1
  refine hK' _ _ s1 ?_
  clear hK' K
  refine regS_take 11 4 (.slice (some ⟨w.heap.size, 0, none⟩) 2 2) rfl rfl (by kernel_rfl) (fun _ _ _ h => h) (by kernel_rfl) (fun W' hs' => by go_simp) s1 ?_
  refine regS_end (by kernel_rfl) ?_
  simp only [Act.put, List.setIfInBounds_toArray, List.set_cons_succ, List.set_cons_zero]
  go_wp2_with fail
  go_ret
  refine ⟨⟨w.heap.size, rfl, Nat.le_refl _, fun i z hz => ⟨w.heap.size, 0, rfl, ?_⟩⟩, s1⟩
  match i, hz with
  | 0, hz => obtain rfl := Option.some.inj hz; simp
  | 1, hz => obtain rfl := Option.some.inj hz; simp
end Go.Proofs.Ytlhggfmcjmhipaa.Nr
