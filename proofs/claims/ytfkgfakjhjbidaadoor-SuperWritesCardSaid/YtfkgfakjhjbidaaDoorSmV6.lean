/-
  Part of the proof of SumTells: the reference's New answers a table of 72 plain words: the eight that a sum starts with and the 64 round numbers.
-/
import Derived.Test.YtfkgfakjhjbidaaDoorSmV4
import Derived.Test.YtfkgfakjhjbidaaDoorSmV5
import Derived.Test.YtfkgfakjhjbidaaDoorSmW9
namespace Go.Proofs.YtfkgfakjhjbidaaDoor.Sm
open Go.RowKit
def r3L : List Nat := [5411319704, 6194414737, 7344290767, 8215976869, 9551921755, 10098905585, 11043570340, 11460697813, 12214315672, 13195500289, 13492127166, 14311783875, 14809980276, 15046980094, 15499789991, 16133124468, 16720292289, 16907126662, 17444216262, 17784676812, 17950125167, 18429019306, 18734950876, 19175934170, 19734090066, 20001703533, 20132865992, 20390182855, 20516441075, 20764397895, 21588763473, 21813078375, 22141143685, 22248366392, 22769593852, 22871018771, 23170020180, 23461497531, 23651862830, 23931792517, 24205322401, 24295138891, 24734567280, 24820601251, 24990902297, 25075189284, 25569408389, 26045227120, 26200031510, 26276752392, 26428864332, 26653801653, 26727943347, 27092625994, 27306805839, 27517677555, 27725365998, 27793908591, 27997534228, 28131656200, 28198240250, 28526537963, 28973835255, 29099129074]
def r2L : List Nat := [6074000999, 7439101573, 9603838834, 11363415354, 14244795007, 15485724812, 17708603819, 18721328409]
theorem r3_ok : ∀ i, i < 64 → (r3L.getD i 0) ^ 3 ≤ (pl 312).getD i 0 * 2 ^ (32 * 3) ∧ (pl 312).getD i 0 * 2 ^ (32 * 3) < (r3L.getD i 0 + 1) ^ 3 ∧ (pl 312).getD i 0 < 65536 ∧ (pl 312).getD i 0 * 2 ^ (32 * 3) < 1099511627776 ^ 3 ∧ r3L.getD i 0 % 4294967296 = (kF i).toNat := by
  decide +kernel
theorem r2_ok : ∀ i, i < 8 → (r2L.getD i 0) ^ 2 ≤ (pl 312).getD i 0 * 2 ^ (32 * 2) ∧ (pl 312).getD i 0 * 2 ^ (32 * 2) < (r2L.getD i 0 + 1) ^ 2 ∧ (pl 312).getD i 0 < 65536 ∧ (pl 312).getD i 0 * 2 ^ (32 * 2) < 1099511627776 ^ 2 ∧ r2L.getD i 0 % 4294967296 = (hF i).toNat := by
  decide +kernel
theorem root3 (i : Nat) (hi : i < 64) (c : Int) (hc : c = ((pl 312).getD i 0 : Nat)) (w : World) : Calls Tryd.prog 72 #[.int .u64 c, .int .i64 3] w fun e w' => e = .returned (.int .u32 (I (kF i))) ∧ Below w.heap.size w w' := by
  subst hc
  obtain ⟨h1, h2, h3, h4, h5⟩ := r3_ok i hi
  have := root_any 3 _ _ w (by decide) above3' h3 h4 h1 h2
  rw [h5] at this; exact this
theorem root2 (i : Nat) (hi : i < 8) (c : Int) (hc : c = ((pl 312).getD i 0 : Nat)) (w : World) : Calls Tryd.prog 72 #[.int .u64 c, .int .i64 2] w fun e w' => e = .returned (.int .u32 (I (hF i))) ∧ Below w.heap.size w w' := by
  subst hc
  obtain ⟨h1, h2, h3, h4, h5⟩ := r2_ok i hi
  have := root_any 2 _ _ w (by decide) above2' h3 h4 h1 h2
  rw [h5] at this; exact this
/-- What New has reckoned behind k rounds. -/
def rK (k j : Nat) : BitVec 32 := if j < 8 then (if j < k then hF j else 0) else (if j < 8 + k then kF (j - 8) else 0)
theorem z34 (w : World) : (zeroValue 105).run Tryd.prog w = .ok (.agg (tab 72 (fun _ => 0))) w := zeroValue_run 105 _ (by kernel_rfl) w
set_option maxRecDepth 100000 in
set_option maxHeartbeats 1000000 in
theorem new_any (w : World) : Calls Tryd.prog 13 #[] w fun e w' => ∃ b, e = .returned (.pointer (some ⟨b, 0, none⟩)) ∧ w.heap.size ≤ b ∧ Blk w' b (tab 72 (rK 64)) 105 ∧ Below w.heap.size w w' := by
  have hz := z34
  go_enter Tryd.func13, Tryd.ntmps13
  go_wp2_with fail
  refine (primes_any _).mono ?_
  rintro e w1 ⟨g, cap, rfl, hrow, hg, hb1⟩
  have hB0 : Blk w1 w.heap.size (tab 72 (rK 0)) 105 := by
    rw [tab_congr 72 (rK 0) (fun _ => 0) (fun j hj => by unfold rK; by_cases h : j < 8 <;> simp [h])]
    exact Blk.below (Blk.new w _ 105) hb1 (by simp)
  have hbel := ((Below.refl w.heap.size w).alloc (Nat.le_refl _) (Obj.cells (tab 72 (fun _ => 0)) 105)).trans (hb1.mono (by simp))
  have hgne : Hid (g ≠ w.heap.size) := by
    rcases hrow.form with ⟨e1, _⟩ | ⟨g', cap', e1, e2, e3⟩
    · injection e1 with a1; cases a1
    · have : g = g' := by injection e1 with a1; injection a1 with a2; injection a2
      rw [Hid]; simp at e2; omega
  have CP : Hid (∀ (j d : Nat), (pl 312)[j]? = some d → w1.cell? ⟨g, j, none⟩ = some (.int .i64 (d : Int))) := fun j d hd => hrow.cell j _ (ins_get (pl 312) j d hd)
  have hwl : w.heap.size < w1.heap.size := hB0.lt
  clear hb1 hrow
  go_wp2_with fail
  go_loopw [8] (fun i wr => ∃ k : Nat, k ≤ 64 ∧ i = .int .i64 k ∧ Blk wr w.heap.size (tab 72 (rK k)) 105 ∧ Hid (∀ b o, b < w1.heap.size → b ≠ w.heap.size → wr.cell? ⟨b, o, none⟩ = w1.cell? ⟨b, o, none⟩) ∧ w1.heap.size ≤ wr.heap.size ∧ Below w.heap.size w wr) (fun i _ => 64 - (intOf i).toNat)
  case atStart => exact ⟨0, by omega, rfl, hB0, fun _ _ _ _ => rfl, Nat.le_refl _, hbel⟩
  case round =>
    clear hB0 hbel
    obtain ⟨k, hk, rfl, hB, hO, hws, hbel⟩ := hrel
    by_cases hlt : k < 64
    · obtain ⟨p, hp⟩ : ∃ p, (pl 312)[k]? = some p := ⟨(pl 312)[k]'(by rw [pl_312]; exact hlt), List.getElem?_eq_getElem _⟩
      have hpd : Hid ((pl 312).getD k 0 = p) := by rw [Hid, List.getD_eq_getElem?_getD, hp]; rfl
      have hp3 := (r3_ok k hlt).2.2.1
      rw [hpd.out] at hp3
      have hc : wr.cell? ⟨g, k, none⟩ = some (.int .i64 (p : Int)) := by rw [hO.out g k hg hgne.out]; exact CP.out k p hp
      clear hp
      have hup : IntKind.u64.wrap (p : Int) = (p : Int) := IntWalk.u64_in _ (by omega)
      have hk64 : (k : Int) < 64 := by omega
      have hl := hB.lt
      go_wp2_with fail
      refine region_qtail 8 (Below wr.heap.size wr) mixed (by kernel_rfl) ((Below.refl _ _).drew) ?_
      simp only [List.take_succ_cons, List.take_zero, List.drop_succ_cons, List.drop_zero]
      repeat (refine q_pure rfl _ (fun w' => by go_simp; rfl) ?_)
      refine q_call rfl 72 #[.int .u64 (p : Int), .int .i64 3] (fun w' => by go_simp) _ (fun w' h' => calls_below h' (root3 k hlt _ (by rw [hpd.out]) w')) ?_
      repeat (refine q_pure rfl _ (fun w' => by go_simp; rfl) ?_)
      refine wpQuiet_nil ?_
      intro w4 h4
      simp only [Act.put]
      have n1 := Blk.below hB h4 hl
      have c1 := n1.tcell (8 + k) (by omega)
      have f1 := n1.frozen (8 + k)
      have n2 := n1.set (8 + k) (.int .u32 (I (kF k)))
      rw [tab_set] at n2
      have n3 := (hbel.trans (h4.mono hbel.size)).setCell (p := ⟨w.heap.size, 8 + k, none⟩) (Nat.le_refl _) (.int .u32 (I (kF k)))
      have n4 : Hid (∀ b o, b < w1.heap.size → b ≠ w.heap.size → (w4.setCell ⟨w.heap.size, 8 + k, none⟩ (.int .u32 (I (kF k)))).cell? ⟨b, o, none⟩ = w1.cell? ⟨b, o, none⟩) := fun b o hb hne => by
        rw [World.cell?_of_block (Below.heap_setCell w4 _ _ b (fun e => hne e)), h4.cell (by exact Nat.lt_of_lt_of_le hb hws)]
        exact hO.out b o hb hne
      have n5 : w1.heap.size ≤ (w4.setCell ⟨w.heap.size, 8 + k, none⟩ (.int .u32 (I (kF k)))).heap.size := by
        have h5 := (setCell_upd w4 w.heap.size (8 + k) (.int .u32 (I (kF k)))).size
        have h6 := h4.size
        omega
      by_cases h8 : k < 8
      · have d8 : (k : Int) < 8 := by omega
        go_wp2_with fail
        clear c1 f1
        generalize w4.setCell ⟨w.heap.size, 8 + k, none⟩ (.int .u32 (I (kF k))) = w5 at *
        have hl5 := n2.lt
        refine region_qtail 8 (Below w5.heap.size w5) mixed (by kernel_rfl) ((Below.refl _ _).drew) ?_
        simp only [List.take_succ_cons, List.take_zero, List.drop_succ_cons, List.drop_zero]
        repeat (refine q_pure rfl _ (fun w' => by go_simp; rfl) ?_)
        refine q_call rfl 72 #[.int .u64 (p : Int), .int .i64 2] (fun w' => by go_simp) _ (fun w' h' => calls_below h' (root2 k h8 _ (by rw [hpd.out]) w')) ?_
        repeat (refine q_pure rfl _ (fun w' => by go_simp; rfl) ?_)
        refine wpQuiet_nil ?_
        intro w6 h6
        simp only [Act.put]
        have m1 := Blk.below n2 h6 hl5
        have c1 := m1.tcell k (by omega)
        have f1 := m1.frozen k
        have m2 := m1.set k (.int .u32 (I (hF k)))
        rw [tab_set, tab_congr 72 _ (rK (k + 1)) (fun j hj => by
          unfold rK
          by_cases e1 : j = k
          · subst e1; simp [h8]
          · by_cases e2 : j = 8 + k
            · subst e2; simp; intro h; omega
            · by_cases e3 : j < 8
              · simp [e1, e2, e3]; congr 1; apply propext; omega
              · simp [e1, e2, e3]; congr 1; apply propext; omega)] at m2
        have m3 := (n3.trans (h6.mono n3.size)).setCell (p := ⟨w.heap.size, k, none⟩) (Nat.le_refl _) (.int .u32 (I (hF k)))
        have m4 : Hid (∀ b o, b < w1.heap.size → b ≠ w.heap.size → (w6.setCell ⟨w.heap.size, k, none⟩ (.int .u32 (I (hF k)))).cell? ⟨b, o, none⟩ = w1.cell? ⟨b, o, none⟩) := fun b o hb hne => by
          rw [World.cell?_of_block (Below.heap_setCell w6 _ _ b (fun e => hne e)), h6.cell (by exact Nat.lt_of_lt_of_le hb n5)]
          exact n4.out b o hb hne
        have m5 : w1.heap.size ≤ (w6.setCell ⟨w.heap.size, k, none⟩ (.int .u32 (I (hF k)))).heap.size := by
          have h7 := (setCell_upd w6 w.heap.size k (.int .u32 (I (hF k)))).size
          have h9 := h6.size
          omega
        go_wp2
        exact ⟨⟨k + 1, by omega, by go_num, m2, m4, m5, m3⟩, by simp [intOf]; omega⟩
      · have d8 : ¬ (k : Int) < 8 := by omega
        rw [tab_congr 72 _ (rK (k + 1)) (fun j hj => by
          unfold rK
          by_cases e2 : j = 8 + k
          · subst e2; simp; intro h; omega
          · by_cases e3 : j < 8
            · simp [e2, e3]; congr 1; apply propext; omega
            · simp [e2, e3]; congr 1; apply propext; omega)] at n2
        go_wp2
        exact ⟨⟨k + 1, by omega, by go_num, n2, n4, n5, n3⟩, by simp [intOf]; omega⟩
    · have hk' : k = 64 := by omega
      subst hk'
      go_wp2
      go_ret
      exact ⟨w.heap.size, rfl, Nat.le_refl _, hB, hbel⟩
end Go.Proofs.YtfkgfakjhjbidaaDoor.Sm
