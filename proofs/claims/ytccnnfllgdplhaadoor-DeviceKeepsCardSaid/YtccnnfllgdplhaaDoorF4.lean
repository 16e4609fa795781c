/-
  Part of the proof: a call of DeviceSure returns true, whatever the input, where the variable that it reads lies as laid.
-/
import Derived.Test.YtccnnfllgdplhaaDoorF3
namespace Go.Proofs.YtccnnfllgdplhaaDoor
open Go.RowKit
theorem upd_upd {α : Type} (f : Nat → α) (k : Nat) (u v : α) : upd (upd f k u) k v = upd f k v := by funext j; unfold upd; by_cases h : j = k <;> simp [h]
theorem infoStr : (Tryd.prog.info? 9).map (fun i => (i.zero, i.size, i.bytes)) = some (some (.string ByteArray.empty), 1, 16) := by kernel_rfl
set_option maxRecDepth 100000 in
set_option maxHeartbeats 2000000 in
theorem ds_law (a1 a2 a3 a4 : Option Addr) (c1 c2 c3 c4 : Nat) (ls ms : List ByteArray) (zs : List Int) (ks : List Bool) (w : World) (h1 : Texts w (fun _ => False) a1 ls) (h2 : Texts w (fun _ => False) a2 ms) (h3 : Ints w a3 zs) (h4 : Bools w a4 ks)
    (l1 : ls.length ≤ maxLen) (l2 : ms.length ≤ maxLen) (l3 : zs.length ≤ maxLen) (l4 : ks.length ≤ maxLen) (s1 : ∀ s ∈ ls, s.size ≤ maxLen) (s2 : ∀ s ∈ ms, s.size ≤ maxLen) (hE : EB w) :
    Calls Tryd.prog 8 #[.slice a1 ls.length c1, .slice a2 ms.length c2, .slice a3 zs.length c3, .slice a4 ks.length c4] w fun e w' => e = .returned (.bool true) ∧ Below w.heap.size w w' := by
  have l3' := l3
  have l4' := l4
  unfold maxLen at l3' l4'
  go_enter Tryd.func8, Tryd.ntmps8
  go_wp2_with fail
  refine (few_any a1 c1 ls _ h1 l1 s1).mono ?_
  intro e wx hh
  rw [hh.1, hh.2]
  clear hh
  cases f1 : fewB ls with
  | false =>
    go_wp2_with fail
    go_ret
    exact ⟨rfl, Below.refl _ _⟩
  | true =>
  go_wp2_with fail
  refine (few_any a2 c2 ms _ h2 l2 s2).mono ?_
  intro e wx hh
  rw [hh.1, hh.2]
  clear hh
  cases f2 : fewB ms with
  | false =>
    go_wp2_with fail
    go_ret
    exact ⟨rfl, Below.refl _ _⟩
  | true =>
  by_cases z0 : zs.length = 0
  · have z0' : ((zs.length : Int) == 0) = true := by simp [z0]
    go_wp2_with fail
    go_ret
    exact ⟨rfl, Below.refl _ _⟩
  have z0' : ((zs.length : Int) == 0) = false := by rw [beq_eq_false_iff_ne]; omega
  by_cases z1 : 20 < zs.length
  · go_wp2_with fail
    go_ret
    exact ⟨rfl, Below.refl _ _⟩
  have z1' : decide ((20 : Int) < (zs.length : Int)) = false := by simp; omega
  by_cases k1 : 30 < ks.length
  · go_wp2_with fail
    go_ret
    exact ⟨rfl, Below.refl _ _⟩
  have k1' : decide ((30 : Int) < (ks.length : Int)) = false := by simp; omega
  have fl1 := fewB_len f1
  have fl2 := fewB_len f2
  have fs1 := fewB_size f1
  have fs2 := fewB_size f2
  have hz0 : 0 < zs.length := by omega
  have hzn : ¬ zs = [] := fun h => by rw [h] at hz0; exact absurd hz0 (by decide)
  clear f1 f2 s1 s2 l1 l2 l3 l4
  go_wp2_with fail
  refine (lost_any _ hE).mono ?_
  rintro e w1 ⟨rfl, g1⟩
  go_wp2_with fail
  refine (dnew_any _).mono ?_
  rintro e w2 ⟨rfl, hD2, b2, z2'⟩
  have z2 : Hid (w2.heap.size = w1.heap.size + 1) := z2'
  clear z2'
  obtain ⟨b, hb⟩ : ∃ b, Hid (b = w1.heap.size) := ⟨_, rfl⟩
  rw [← hb.out] at hD2
  rw [← hb.out]
  have g2 := g1.trans (b2.mono g1.size)
  have mk := mk66S
  obtain ⟨Bm, hBm⟩ : ∃ Bm, Hid (Bm = w2.heap.size) := ⟨_, rfl⟩
  have gm := (Below.refl w2.heap.size w2).alloc (Nat.le_refl _) (.cells (vA 66 (fun _ => .slice none 0 0)) 22)
  have sv0 : Sv w (w2.alloc (.cells (vA 66 (fun _ => .slice none 0 0)) 22)) (fun k => k = b) (fun k => k = Bm) b Bm (fun _ => .slice none 0 0) (fun _ => []) (fun _ _ => 0) [] (-1) (.slice none 0 0) 0 := by
    have ez := z2.out
    have eb := hb.out
    have em := hBm.out
    have zz := g1.size
    refine ⟨hD2.below gm, ⟨by rw [em]; exact Blk.new _ _ _, fun k _ => ⟨rfl, Or.inl ⟨rfl, rfl⟩⟩, rfl, (fun k _ g hg => by cases hg), (fun _ _ _ _ _ g hg => by cases hg)⟩, g2.trans (gm.mono g2.size), fun k hk => ?_, fun k hk => ?_, fun k hk hp => ?_⟩
    · rw [show k = b from hk, eb, World.size_alloc]; omega
    · rw [show k = Bm from hk, em, World.size_alloc]; omega
    · have e1 : k = b := hk
      have e2 : k = Bm := hp
      omega
  have r0 : R1 (fun _ => []) (fun _ _ => 0) [] := fun k _ => Or.inl ⟨rfl, rfl⟩
  obtain ⟨w3, hw3⟩ : ∃ w3, w2.alloc (.cells (vA 66 (fun _ => .slice none 0 0)) 22) = w3 := ⟨_, rfl⟩
  go_wp2_with fail
  rw [hw3] at sv0
  rw [← hBm.out]
  clear hw3 mk gm hD2 b2 g2 g1 hBm hb z2
  go_loopw [12] (fun i wr => ∃ (k : Nat) (O P : Nat → Prop) (vs : Nat → Value) (M : Nat → List ByteArray) (W : List (Nat × (Nat → UInt8))) (v : Value) (lf : Int), k ≤ ls.length ∧ i = .int .i64 k ∧ Sv w wr O P b Bm vs M (fun _ _ => 0) W (-1) v lf ∧ R1 M (fun _ _ => 0) W ∧ W.length ≤ k) (fun i _ => ls.length - (intOf i).toNat)
  case atStart => exact ⟨0, _, _, _, _, _, _, _, by omega, rfl, sv0, r0, Nat.le_refl _⟩
  case round =>
    clear sv0 r0
    obtain ⟨k, O, P, vs, M, W, v, lf, hk, rfl, sv, r1, hWl⟩ := hrel
    by_cases hlt : k < ls.length
    · obtain ⟨g, o, rfl, hg, _, hc⟩ := h1 k ls[k] (List.getElem?_eq_getElem hlt)
      have hsz := fs1 _ (List.getElem_mem hlt)
      obtain ⟨m, hm⟩ : ∃ m, m = k % zs.length := ⟨_, rfl⟩
      have hmz : m < zs.length := by rw [hm]; exact Nat.mod_lt _ hz0
      have hmI : (k : Int) % (zs.length : Int) = (m : Int) := by rw [hm]; simp
      have hmT : (k : Int).tmod (zs.length : Int) = (m : Int) := by rw [Int.tmod_eq_emod_of_nonneg (by omega)]; exact hmI
      obtain ⟨ga, oa, rfl, hga, hca⟩ := h3 m zs[m] (List.getElem?_eq_getElem hmz)
      have cs : wr.cell? ⟨g, o + k, none⟩ = some (.string ls[k]) := (sv.low.cell (p := ⟨g, o + k, none⟩) hg).trans hc
      have cz : wr.cell? ⟨ga, oa + m, none⟩ = some (.int .i64 zs[m]) := (sv.low.cell (p := ⟨ga, oa + m, none⟩) hga).trans hca
      have hlt' : (k : Int) < (ls.length : Int) := by omega
      have hmz' : (m : Int) < (zs.length : Int) := by omega
      have hk0 : (0 : Int) ≤ (k : Int) := by omega
      have hm0 : (0 : Int) ≤ (m : Int) := by omega
      have HI : Hid ((k : Int) % (zs.length : Int) = (m : Int)) := hmI
      generalize ls[k] = x at *
      generalize zs[m] = z at *
      clear hm
      go_wp2_with fail
      refine (pick66 _ _).mono ?_
      rintro e wq ⟨j, rfl, hj, hq⟩
      rw [hq]
      clear hq wq
      have hj0 : (0 : Int) ≤ (j : Int) := by omega
      have hj1 : (j : Int) < 66 := by omega
      go_wp2_with fail
      refine (write_ok b _ _ _ _ _ _ j x _ sv.dev (by decide) hj hsz (by omega)).mono ?_
      rintro e w4 ⟨rfl, ⟨v4, l4, hD4⟩, C4⟩
      rw [burnt_none] at hD4
      have sv4 := sv.grow C4 hD4
      have cs4 : w4.cell? ⟨g, o + k, none⟩ = some (.string x) := (sv4.low.cell (p := ⟨g, o + k, none⟩) hg).trans hc
      clear cs cz sv hD4 C4
      go_wp2_with fail
      refine (full_any x _ hsz).mono ?_
      rintro e w5 ⟨rfl, g5⟩
      have sv5 := sv4.below g5
      have r5 := r1.put j (bAt x)
      generalize hX : sb 256 (bAt x) = X at *
      have HX : Hid (sb 256 (bAt x) = X) := hX
      clear hX
      have sv6 := sv5.put1 j hj X
      have cm := ((sv5.may.blk.alloc (.cells #[.string X] 9)).cell j)
      rw [vA_get _ _ _ hj] at cm
      have fm := (sv5.may.blk.alloc (.cells #[.string X] 9)).frozen j
      clear cs4 sv4
      go_wp2_with fail
      go_light
      exact ⟨⟨k + 1, _, _, _, _, _, _, _, by omega, by go_num, sv6, r5, by simp; omega⟩, by simp [intOf]; omega⟩
    · have hk' : k = ls.length := by omega
      subst hk'
      go_wp2_with fail
      refine (sync_ok b _ _ _ _ _ _ _ sv.dev (by decide)).mono ?_
      rintro e w4 ⟨rfl, ⟨l4, hD4⟩, C4⟩
      rw [burnt_none] at hD4
      have sv4 := sv.same C4 hD4
      have r4 := r1.sync
      clear sv hD4 C4 r1 hWl
      generalize loseS (fun _ _ => 0) W (fun _ => true) W.length = S4 at *
      go_wp2_with fail
      go_loopw [14] (fun i wr => ∃ (k : Nat) (O P : Nat → Prop) (vs : Nat → Value) (M : Nat → List ByteArray) (W : List (Nat × (Nat → UInt8))) (v : Value) (lf : Int), k ≤ ms.length ∧ i = .int .i64 k ∧ Sv w wr O P b Bm vs M S4 W (-1) v lf ∧ R2 M S4 W (1 + 2 * k) ∧ W.length ≤ k) (fun i _ => ms.length - (intOf i).toNat)
      case atStart => exact ⟨0, _, _, _, _, _, _, _, by omega, rfl, sv4, r4, Nat.le_refl _⟩
      case round =>
        clear sv4 r4
        obtain ⟨k, O, P, vs, M, W, v, lf, hk, rfl, sv, r2, hWl⟩ := hrel
        by_cases hlt : k < ms.length
        · obtain ⟨g, o, rfl, hg, _, hc⟩ := h2 k ms[k] (List.getElem?_eq_getElem hlt)
          have hsz := fs2 _ (List.getElem_mem hlt)
          obtain ⟨m, hm⟩ : ∃ m, m = k % zs.length := ⟨_, rfl⟩
          have hmz : m < zs.length := by rw [hm]; exact Nat.mod_lt _ hz0
          have hmI : (k : Int) % (zs.length : Int) = (m : Int) := by rw [hm]; simp
          have hmT : (k : Int).tmod (zs.length : Int) = (m : Int) := by rw [Int.tmod_eq_emod_of_nonneg (by omega)]; exact hmI
          obtain ⟨ga, oa, rfl, hga, hca⟩ := h3 m zs[m] (List.getElem?_eq_getElem hmz)
          have cs : wr.cell? ⟨g, o + k, none⟩ = some (.string ms[k]) := (sv.low.cell (p := ⟨g, o + k, none⟩) hg).trans hc
          have cz : wr.cell? ⟨ga, oa + m, none⟩ = some (.int .i64 zs[m]) := (sv.low.cell (p := ⟨ga, oa + m, none⟩) hga).trans hca
          have hlt' : (k : Int) < (ms.length : Int) := by omega
          have hmz' : (m : Int) < (zs.length : Int) := by omega
          have hk0 : (0 : Int) ≤ (k : Int) := by omega
          have hm0 : (0 : Int) ≤ (m : Int) := by omega
          generalize ms[k] = x at *
          generalize zs[m] = z at *
          clear hm
          go_wp2_with fail
          refine (pick66 _ _).mono ?_
          rintro e wq ⟨j, rfl, hj, hq⟩
          rw [hq]
          clear hq wq
          have hj0 : (0 : Int) ≤ (j : Int) := by omega
          have hj1 : (j : Int) < 66 := by omega
          have hMj := (r2 j hj).1
          go_wp2_with fail
          refine (write_ok b _ _ _ _ _ _ j x _ sv.dev (by decide) hj hsz (by omega)).mono ?_
          rintro e w5 ⟨rfl, ⟨v5, l5, hD5⟩, C5⟩
          rw [burnt_none] at hD5
          have sv5 := sv.grow C5 hD5
          clear cs cz sv hD5 C5
          obtain ⟨aj, cj, hvj, _⟩ := row_texts (sv5.may.rows j hj)
          have cm5 := sv5.may.blk.cell j
          rw [vA_get _ _ _ hj, hvj] at cm5
          have HV : Hid (vs j = .slice aj (M j).length cj) := hvj
          clear hvj
          by_cases hMe : M j = []
          · have hl0 : (M j).length = 0 := by rw [hMe]; rfl
            rw [hl0] at cm5
            go_wp2_with fail
            refine (full_any ⟨#[]⟩ _ (by decide)).mono ?_
            rintro e w6 ⟨rfl, g6⟩
            have sv6 := sv5.below g6
            have sv7 := sv6.put1 j hj (sb 256 (bAt ⟨#[]⟩))
            have cm := ((sv6.may.blk.alloc (.cells #[.string (sb 256 (bAt ⟨#[]⟩))] 9)).cell j)
            rw [vA_get _ _ _ hj] at cm
            have fm := (sv6.may.blk.alloc (.cells #[.string (sb 256 (bAt ⟨#[]⟩))] 9)).frozen j
            clear cm5 sv5
            go_wp2_with fail
            obtain ⟨vj, hvj0⟩ : ∃ vj, vj = Value.slice (some ⟨w6.heap.size, 0, none⟩) 1 1 := ⟨_, rfl⟩
            obtain ⟨wA, hwA⟩ : ∃ wA, (w6.alloc (.cells #[.string (sb 256 (bAt ⟨#[]⟩))] 9)).setCell ⟨Bm, j, none⟩ (.slice (some ⟨w6.heap.size, 0, none⟩) 1 1) = wA := ⟨_, rfl⟩
            rw [hwA] at sv7 ⊢
            clear hwA cm fm sv6
            obtain ⟨vsA, hvsA⟩ : ∃ vsA, upd vs j (.slice (some ⟨w6.heap.size, 0, none⟩) 1 1) = vsA := ⟨_, rfl⟩
            obtain ⟨MA, hMA⟩ : ∃ MA, upd M j [sb 256 (bAt ⟨#[]⟩)] = MA := ⟨_, rfl⟩
            have hvj : Hid (vsA j = vj) := by unfold Hid; rw [← hvsA, upd_same, hvj0]
            have hMAj : Hid (MA j = [sb 256 (bAt ⟨#[]⟩)]) := by unfold Hid; rw [← hMA, upd_same]
            have eM : Hid (upd MA j (MA j ++ [sb 256 (bAt x)]) = upd M j ([sb 256 (bAt ⟨#[]⟩)] ++ [sb 256 (bAt x)])) := by unfold Hid; rw [hMAj.out, ← hMA, upd_upd]
            rw [hvsA, hMA] at sv7
            have svA := sv7
            have hMl : (MA j).length ≤ 100 := by rw [hMAj.out]; simp
            clear sv7 hvsA hMA hvj0 hMj
            have cA : wA.cell? ⟨Bm, j, none⟩ = some vj := by rw [svA.may.blk.cell, vA_get _ _ _ hj, hvj.out]
            have lBm := svA.may.blk.lt
            have lgA : g < wA.heap.size := Nat.lt_of_lt_of_le hg svA.low.size
            have csA : wA.cell? ⟨g, o + k, none⟩ = some (.string x) := (svA.low.cell (p := ⟨g, o + k, none⟩) hg).trans hc
            refine region_s [(0, true), (1, true), (2, true), (3, true), (4, true), (5, false), (6, true), (7, true), (8, true), (9, true), (10, false)] [11, 12] [13, 14, 15] (fun w' => Below wA.heap.size wA w') mixed (by kernel_rfl) (fun _ _ _ _ _ h => h) (below_drewN (Below.refl _ _) 1) ?_
            refine lead_pure _ rfl _ rfl rfl _ (fun w' => by go_simp; rfl) ?_
            refine lead_pure _ rfl _ rfl rfl _ (fun w' => by go_simp; rfl) ?_
            refine lead_pure _ rfl _ rfl rfl _ (fun w' => by go_simp; rfl) ?_
            refine lead_pure _ rfl _ rfl rfl _ (fun w' => by go_simp; rfl) ?_
            refine lead_pure _ rfl _ rfl rfl (.pointer (some ⟨Bm, j, none⟩)) (fun w' => by go_simp) ?_
            refine lead_read _ rfl _ rfl rfl vj (fun w' hS => by have c : w'.cell? ⟨Bm, j, none⟩ = some vj := (hS.cell (p := ⟨Bm, j, none⟩) lBm).trans cA; go_simp) ?_
            refine lead_pure _ rfl _ rfl rfl _ (fun w' => by go_simp; rfl) ?_
            refine lead_pure _ rfl _ rfl rfl _ (fun w' => by go_simp; rfl) ?_
            refine lead_pure _ rfl _ rfl rfl _ (fun w' => by go_simp; rfl) ?_
            refine lead_pure _ rfl _ rfl rfl (.pointer (some ⟨g, o + k, none⟩)) (fun w' => by go_simp) ?_
            refine lead_read _ rfl _ rfl rfl (.string x) (fun w' hS => by have c : w'.cell? ⟨g, o + k, none⟩ = some (.string x) := (hS.cell (p := ⟨g, o + k, none⟩) lgA).trans csA; go_simp) ?_
            simp only [lead_nil_eq]
            simp only [Act.put, List.setIfInBounds_toArray, List.set_cons_succ, List.set_cons_zero]
            refine mid_cons _ rfl rfl fun K hK => ?_
            go_wp2_with (go_at_call 50; refine (full_any x _ hsz).mono ?_; rintro e wB ⟨rfl, gB⟩)
            have gB' : Below wA.heap.size wA wB := (below_drewN (Below.refl wA.heap.size wA) 1).trans gB
            refine hK _ _ gB' ?_
            clear hK K
            refine mid_cons _ rfl rfl fun K hK => ?_
            go_wp2_with fail
            have gC := gB'.alloc gB'.size (.cells #[.string (sb 256 (bAt x))] 9)
            refine hK _ _ gC ?_
            clear hK K
            simp only [mid_nil_eq]
            simp only [List.filterMap_cons, List.getElem?_toArray, List.getElem?_cons_succ, List.getElem?_cons_zero, List.filterMap_nil]
            obtain ⟨i0, hi0, hq0, hq1, hq2⟩ := info_parts infoStr
            refine wpList_append_lies _ rfl _ _ _ rfl 0 9 i0 _ 1 16 Tryd.underlying22 hi0 hq0 hq1 hq2 rfl (by decide) vj (MA j).length ((MA j).map Value.string) rfl (by rw [← hvj.out]; exact ownsRow_same (svA.may.rows j hj) (fun q hq => gC.block q (ownsRow_lt (svA.may.rows j hj) q hq).2))
              ⟨wB.heap.size, 0, none⟩ 1 1 [.string (sb 256 (bAt x))] rfl rfl (World.news_of_block (cs := #[.string (sb 256 (bAt x))]) (t := 9) (fr := (0, 0)) (heap_alloc_new wB _)) (by intro u hu; simp at hu; subst hu; rfl)
              (by decide) (by unfold maxLen; omega) (by omega) (Nat.zero_le _) (wB.heap.size + 1) (by simp) ?_
            intro gD cD wD hownD hgD hatD hltD
            have bD : Blk wD Bm (vA 66 vsA) 22 := (svA.may.blk.below gC svA.may.blk.lt).grown hgD (fun e => by rw [← hvj.out] at e; exact (svA.may.rown j hj Bm e.symm).2 rfl)
            have cD1 := bD.cell j
            rw [vA_get _ _ _ hj] at cD1
            have cD2 := bD.frozen j
            have svD := svA.app j hj (sb 256 (bAt x)) _ wD gC gD cD hownD (by rw [hvj.out]; exact hgD) (by rw [hvj.out]; simpa using hatD) hltD
            clear hi0 hq0 hq1 hq2 cA csA
            go_wp2_with fail
            go_light
            rw [eM.out] at svD
            exact ⟨⟨k + 1, _, _, _, _, _, _, _, by omega, by go_num, svD, r2.put j hj (bAt x) [sb 256 (bAt ⟨#[]⟩)] (Or.inl ⟨hMe, rfl⟩), by simp; omega⟩, by simp [intOf]; omega⟩
          · have hl0 : (((M j).length : Int) == 0) = false := by
              rw [beq_eq_false_iff_ne]; intro h; exact hMe (List.eq_nil_of_length_eq_zero (by omega))
            obtain ⟨vj, hvj0⟩ : ∃ vj, Hid (vj = Value.slice aj (M j).length cj) := ⟨_, rfl⟩
            go_wp2_with fail
            have hvj : Hid (vs j = vj) := by unfold Hid; rw [hvj0.out]; exact HV.out
            have cA : w5.cell? ⟨Bm, j, none⟩ = some vj := by rw [sv5.may.blk.cell, vA_get _ _ _ hj, hvj.out]
            have lBm := sv5.may.blk.lt
            have lgA : g < w5.heap.size := Nat.lt_of_lt_of_le hg sv5.low.size
            have csA : w5.cell? ⟨g, o + k, none⟩ = some (.string x) := (sv5.low.cell (p := ⟨g, o + k, none⟩) hg).trans hc
            clear cm5
            refine region_s [(0, true), (1, true), (2, true), (3, true), (4, true), (5, false), (6, true), (7, true), (8, true), (9, true), (10, false)] [11, 12] [13, 14, 15] (fun w' => Below w5.heap.size w5 w') mixed (by kernel_rfl) (fun _ _ _ _ _ h => h) (below_drewN (Below.refl _ _) 1) ?_
            refine lead_pure _ rfl _ rfl rfl _ (fun w' => by go_simp; rfl) ?_
            refine lead_pure _ rfl _ rfl rfl _ (fun w' => by go_simp; rfl) ?_
            refine lead_pure _ rfl _ rfl rfl _ (fun w' => by go_simp; rfl) ?_
            refine lead_pure _ rfl _ rfl rfl _ (fun w' => by go_simp; rfl) ?_
            refine lead_pure _ rfl _ rfl rfl (.pointer (some ⟨Bm, j, none⟩)) (fun w' => by go_simp) ?_
            refine lead_read _ rfl _ rfl rfl vj (fun w' hS => by have c : w'.cell? ⟨Bm, j, none⟩ = some vj := (hS.cell (p := ⟨Bm, j, none⟩) lBm).trans cA; go_simp) ?_
            refine lead_pure _ rfl _ rfl rfl _ (fun w' => by go_simp; rfl) ?_
            refine lead_pure _ rfl _ rfl rfl _ (fun w' => by go_simp; rfl) ?_
            refine lead_pure _ rfl _ rfl rfl _ (fun w' => by go_simp; rfl) ?_
            refine lead_pure _ rfl _ rfl rfl (.pointer (some ⟨g, o + k, none⟩)) (fun w' => by go_simp) ?_
            refine lead_read _ rfl _ rfl rfl (.string x) (fun w' hS => by have c : w'.cell? ⟨g, o + k, none⟩ = some (.string x) := (hS.cell (p := ⟨g, o + k, none⟩) lgA).trans csA; go_simp) ?_
            simp only [lead_nil_eq]
            simp only [Act.put, List.setIfInBounds_toArray, List.set_cons_succ, List.set_cons_zero]
            refine mid_cons _ rfl rfl fun K hK => ?_
            go_wp2_with (go_at_call 50; refine (full_any x _ hsz).mono ?_; rintro e wB ⟨rfl, gB⟩)
            have gB' : Below w5.heap.size w5 wB := (below_drewN (Below.refl w5.heap.size w5) 1).trans gB
            refine hK _ _ gB' ?_
            clear hK K
            refine mid_cons _ rfl rfl fun K hK => ?_
            go_wp2_with fail
            have gC := gB'.alloc gB'.size (.cells #[.string (sb 256 (bAt x))] 9)
            refine hK _ _ gC ?_
            clear hK K
            simp only [mid_nil_eq]
            simp only [List.filterMap_cons, List.getElem?_toArray, List.getElem?_cons_succ, List.getElem?_cons_zero, List.filterMap_nil]
            obtain ⟨i0, hi0, hq0, hq1, hq2⟩ := info_parts infoStr
            refine wpList_append_lies _ rfl _ _ _ rfl 0 9 i0 _ 1 16 Tryd.underlying22 hi0 hq0 hq1 hq2 rfl (by decide) vj (M j).length ((M j).map Value.string) rfl (by rw [← hvj.out]; exact ownsRow_same (sv5.may.rows j hj) (fun q hq => gC.block q (ownsRow_lt (sv5.may.rows j hj) q hq).2))
              ⟨wB.heap.size, 0, none⟩ 1 1 [.string (sb 256 (bAt x))] rfl rfl (World.news_of_block (cs := #[.string (sb 256 (bAt x))]) (t := 9) (fr := (0, 0)) (heap_alloc_new wB _)) (by intro u hu; simp at hu; subst hu; rfl)
              (by decide) (by unfold maxLen; omega) (by omega) (Nat.zero_le _) (wB.heap.size + 1) (by simp) ?_
            intro gD cD wD hownD hgD hatD hltD
            have bD : Blk wD Bm (vA 66 vs) 22 := (sv5.may.blk.below gC sv5.may.blk.lt).grown hgD (fun e => by rw [← hvj.out] at e; exact (sv5.may.rown j hj Bm e.symm).2 rfl)
            have cD1 := bD.cell j
            rw [vA_get _ _ _ hj] at cD1
            have cD2 := bD.frozen j
            have svD := sv5.app j hj (sb 256 (bAt x)) _ wD gC gD cD hownD (by rw [hvj.out]; exact hgD) (by rw [hvj.out]; simpa using hatD) hltD
            clear hi0 hq0 hq1 hq2 cA csA
            go_wp2_with fail
            go_light
            exact ⟨⟨k + 1, _, _, _, _, _, _, _, by omega, by go_num, svD, r2.put j hj (bAt x) (M j) (Or.inr ⟨hMe, rfl⟩), by simp; omega⟩, by simp [intOf]; omega⟩
        · have hk' : k = ms.length := by omega
          subst hk'
          go_wp2_with fail
          refine (crash_any b _ _ _ _ _ _ _ sv.dev a4 c4 ks (by omega) (argB h4 sv.low sv.bo)).mono ?_
          rintro e w5 ⟨rfl, ⟨l5, hD5⟩, C5⟩
          have sv5 := sv.same C5 hD5
          have rd := fun k hk => r2.read (fun i => ks.getD i false) W.length k hk
          have rl := fun k hk => (r2 k hk).1
          clear sv hD5 C5 r2 hWl
          generalize loseS S4 W (fun i => ks.getD i false) W.length = S5 at *
          go_wp2_with fail
          go_loopw [16] (fun i wr => ∃ (k : Nat), k ≤ 66 ∧ i = .int .i64 k ∧ Sv w wr O P b Bm vs M S5 [] (-1) (.slice none 0 0) l5) (fun i _ => 66 - (intOf i).toNat)
          case atStart => exact ⟨0, by omega, rfl, sv5⟩
          case round =>
            clear sv5
            obtain ⟨k, hk, rfl, sv5⟩ := hrel
            by_cases hlt : k < 66
            · have hlt' : (k : Int) < 66 := by omega
              have hk0 : (0 : Int) ≤ (k : Int) := by omega
              go_wp2_with fail
              refine (read_ok b _ _ _ _ _ _ k _ sv5.dev hlt (by simp)).mono ?_
              rintro e w6 ⟨rfl, g6⟩
              rw [show readF S5 [] k = S5 k from rfl]
              have sv6 := sv5.below g6
              clear sv5
              obtain ⟨aj, cj, hvj, hT⟩ := row_texts (sv6.may.rows k hlt)
              have cm6 := sv6.may.blk.cell k
              rw [vA_get _ _ _ hlt, hvj] at cm6
              have hMl := rl k hlt
              clear hvj
              rcases rd k hlt with ⟨hMe, hse⟩ | hmem
              · have hl0 : (M k).length = 0 := by rw [hMe]; rfl
                rw [hl0] at cm6
                have hse' : sb 256 (S5 k) = sb 256 (bAt ⟨#[]⟩) := hse
                rw [hse']
                clear hse hse'
                go_wp2_with fail
                refine (full_any ⟨#[]⟩ _ (by decide)).mono ?_
                rintro e w7 ⟨rfl, g7⟩
                have sv7 := sv6.below g7
                have cm7 : w7.cell? ⟨Bm, k, none⟩ = some (.slice aj 0 cj) := (g7.cell (p := ⟨Bm, k, none⟩) sv6.may.blk.lt).trans cm6
                generalize sb 256 (bAt ⟨#[]⟩) = X0 at *
                go_wp2_with fail
                go_light
                exact ⟨⟨k + 1, by omega, by go_num, sv7⟩, by simp [intOf]; omega⟩
              · have hne : M k ≠ [] := fun h => by rw [h] at hmem; cases hmem
                have hpos : 0 < (M k).length := List.length_pos_iff.2 hne
                have hpos' : (0 : Int) < ((M k).length : Int) := by omega
                have hl0 : (((M k).length : Int) == 0) = false := by rw [beq_eq_false_iff_ne]; omega
                generalize sb 256 (S5 k) = X at *
                go_wp2_with fail
                refine (contains_mem aj cj (M k) X _ hT (by omega) hmem).mono ?_
                intro e wx hh
                rw [hh.1, hh.2]
                clear hh
                go_wp2_with fail
                go_light
                exact ⟨⟨k + 1, by omega, by go_num, sv6⟩, by simp [intOf]; omega⟩
            · go_wp2_with fail
              go_ret
              exact ⟨rfl, sv5.low⟩
end Go.Proofs.YtccnnfllgdplhaaDoor
