/-
  Part of the proof: the reference's NewDevice and Write are walked.
-/
import Derived.Test.YtccnnfllgdplhaaDoorG1
namespace Go.Proofs.YtccnnfllgdplhaaDoor
open Go.RowKit
theorem infoInt : (Tryd.prog.info? 3).map (fun i => (i.zero, i.size, i.bytes)) = some (some (.int .i64 0), 1, 8) := by kernel_rfl
theorem zs_sb : zs 256 = sb 256 (fun _ => 0) := by
  unfold zs sb
  rw [List.map_const', List.length_range]
theorem suL_zero : suL (fun _ _ => 0) = List.replicate 66 (.string (zs 256)) := by
  unfold suL imgL
  rw [List.map_map, zs_sb]
  exact List.eq_replicate_iff.2 ⟨by simp, fun b hb => by simp at hb; obtain ⟨_, _, rfl⟩ := hb; rfl⟩
set_option maxRecDepth 100000 in
set_option maxHeartbeats 1000000 in
theorem rnew_any (w : World) : Calls Tryd.prog 29 #[] w fun e w' => e = .returned (.pointer (some ⟨w.heap.size, 0, none⟩)) ∧ (∃ a, RDev w' (fun k => w.heap.size ≤ k ∧ k < w'.heap.size) w.heap.size (fun _ _ => 0) [] (-1) a (.slice none 0 0) (.slice none 0 0)) ∧ Below w.heap.size w w' := by
  go_enter Tryd.func29, Tryd.ntmps29
  go_wp2_with fail
  have j0 := Blk.new w #[.slice none 0 0, .slice none 0 0, .slice none 0 0, .int .i64 (-1)] 121
  have g0 := (Below.refl w.heap.size w).alloc (Nat.le_refl _) (.cells #[.slice none 0 0, .slice none 0 0, .slice none 0 0, .int .i64 (-1)] 121)
  obtain ⟨r, hr⟩ : ∃ r, Hid (r = w.heap.size) := ⟨_, rfl⟩
  rw [← hr.out] at j0 g0
  rw [← hr.out]
  go_loopw [4] (fun i wr => ∃ (k : Nat) (a : Value), k ≤ 66 ∧ i = .int .i64 k ∧ Blk wr r #[a, .slice none 0 0, .slice none 0 0, .int .i64 (-1)] 121 ∧ wr.ownsRow 0 9 1 a k (List.replicate k (.string (zs 256))) ∧ (∀ g, a.ownBlock = some g → r < g) ∧ Below r w wr) (fun i _ => 66 - (intOf i).toNat)
  case atStart => exact ⟨0, _, by omega, rfl, j0, ⟨rfl, Or.inl ⟨rfl, rfl⟩⟩, fun g hg => (by cases hg), g0⟩
  case round =>
    clear j0 g0
    obtain ⟨k, a, hk, rfl, j1, ow, ho, g1⟩ := hrel
    by_cases hlt : k < 66
    · have lr := j1.lt
      go_wp2_with fail
      refine region_s [(0, true), (1, true), (2, true), (3, true), (4, false)] [5, 6] [7, 8, 9, 10] (fun w' => Below wr.heap.size wr w') mixed (by kernel_rfl) (fun _ _ _ _ _ h => h) (below_drewN (Below.refl _ _) 1) ?_
      repeat (refine lead_pure _ rfl _ rfl rfl _ (fun w' => by go_simp; rfl) ?_)
      refine lead_read _ rfl _ rfl rfl a (fun w' hS => by have c : w'.cell? ⟨r, 0, none⟩ = some a := (hS.cell (p := ⟨r, 0, none⟩) lr).trans (j1.cell 0); go_simp) ?_
      simp only [lead_nil_eq]
      simp only [Act.put, List.setIfInBounds_toArray, List.set_cons_succ, List.set_cons_zero]
      refine mid_cons _ rfl rfl fun K hK => ?_
      go_wp2_with (go_at_call 79; refine (zeros_any 256 _ _ rfl (by decide)).mono ?_; rintro e wB ⟨rfl, gB⟩)
      have gB' : Below wr.heap.size wr wB := (below_drewN (Below.refl wr.heap.size wr) 1).trans gB
      refine hK _ _ gB' ?_
      clear hK K
      refine mid_cons _ rfl rfl fun K hK => ?_
      go_wp2_with fail
      have gC := gB'.alloc gB'.size (.cells #[.string (zs 256)] 9)
      refine hK _ _ gC ?_
      clear hK K
      simp only [mid_nil_eq]
      simp only [List.filterMap_cons, List.getElem?_toArray, List.getElem?_cons_succ, List.getElem?_cons_zero, List.filterMap_nil]
      obtain ⟨i0, hi0, hq0, hq1, hq2⟩ := info_parts infoStr
      refine wpList_append_lies _ rfl _ _ _ rfl 0 9 i0 _ 1 16 Tryd.underlying22 hi0 hq0 hq1 hq2 rfl (by decide) a k (List.replicate k (.string (zs 256))) rfl (ownsRow_same ow (fun q hq => gC.block q (ownsRow_lt ow q hq).2))
        ⟨wB.heap.size, 0, none⟩ 1 1 [.string (zs 256)] rfl rfl (World.news_of_block (cs := #[.string (zs 256)]) (t := 9) (fr := (0, 0)) (heap_alloc_new wB _)) (by intro u hu; simp at hu; subst hu; rfl)
        (by decide) (by unfold maxLen; omega) (by omega) (Nat.zero_le _) (wB.heap.size + 1) (by simp) ?_
      intro gD cD wD hownD hgD hatD hltD
      have zB := gB'.size
      have bD : Blk wD r #[a, .slice none 0 0, .slice none 0 0, .int .i64 (-1)] 121 := (j1.below gC lr).grown hgD (fun e => by have := ho r e.symm; omega)
      have cD0 := bD.cell 0
      have cD1 := bD.frozen 0
      have gne : r < gD := by
        rcases hatD with e | e
        · exact ho gD e
        · omega
      have gE : Below r w wD := (g1.trans (gC.mono (Nat.le_of_lt lr))).grown hgD (by have := gC.size; omega) (fun q hq => Nat.le_of_lt (ho q hq))
      clear hi0 hq0 hq1 hq2
      go_wp2_with fail
      go_light
      refine ⟨⟨k + 1, .slice (some ⟨gD, 0, none⟩) (k + 1) cD, by omega, by go_num, bD.set 0 _, ownsRow_same (w := wD) (by rw [List.replicate_succ']; exact hownD) (fun q hq => ?_), fun q hq => ?_, gE.setCell (by exact Nat.le_refl _) _⟩, by simp [intOf]; omega⟩
      · simp only [Value.ownBlock, Option.some.injEq] at hq
        subst hq
        exact Below.heap_setCell _ _ _ _ (by simp; omega)
      · simp only [Value.ownBlock, Option.some.injEq] at hq
        omega
    · have hk' : k = 66 := by omega
      subst hk'
      go_wp2_with fail
      go_ret
      obtain rfl : r = w.heap.size := hr.out
      refine ⟨rfl, ⟨a, j1, by rw [suL_zero]; exact ow, ⟨rfl, Or.inl ⟨rfl, rfl⟩⟩, ⟨rfl, Or.inl ⟨rfl, rfl⟩⟩, ⟨Nat.le_refl _, j1.lt⟩, fun g hg => ⟨⟨Nat.le_of_lt (ho g hg), (ownsRow_lt ow g hg).2⟩, Nat.ne_of_gt (ho g hg)⟩, (fun g hg => by cases hg), (fun g hg => by cases hg), (fun g _ hh => by cases hh), (fun g _ hh => by cases hh), (fun g hg => by cases hg), (fun p hp => by cases hp), by decide, by decide⟩, g1⟩
end Go.Proofs.YtccnnfllgdplhaaDoor
