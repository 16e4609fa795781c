/-
  Part of the proof of TreeBinds: the reference's rows and Root are walked.
-/
import Derived.Test.YtgbfjdaelcfnjaaDoorU8
namespace Go.Proofs.YtgbfjdaelcfnjaaDoor.Tr
open Go.RowKit Go.Shelf
set_option maxRecDepth 100000 in
set_option maxHeartbeats 1000000 in
theorem rows_any (rb : Nat) (a : Option Addr) (c : Nat) (f : Nat → ByteArray) (w : World) (hR : RB w rb) (hT : Tx w a f 32) (hm : ∀ i, i < 32 → (f i).size = 16) :
    Calls Tryd.prog 107 #[.pointer (some ⟨rb, 0, none⟩), .slice a 32 c] w fun e w' => (∃ g cap, e = .returned (.slice (some ⟨g, 0, none⟩) 63 cap) ∧ w.heap.size ≤ g ∧ Tx w' (some ⟨g, 0, none⟩) (AL f) 63) ∧ Below w.heap.size w w' := by
  have e32 : Hid (strs f 32 = strs (AL f) 32) := strs_congr f (AL f) 32 fun i hi => (AL_0 f i hi).symm
  have hT0 := hT.below (below_alloc w (.cells #[] 9))
  go_enter Tryd.func107, Tryd.ntmps107
  go_wp2_with (refine wpl_pushTx rfl _ _ rfl w.heap.size 0 (.slice (some ⟨w.heap.size, 0, none⟩) 0 0) [] rfl (own_new w) a 32 c f rfl hT0 (by decide) (by decide) (by decide) (by simp) ?_; intro g cap w1 ow1 gr1 at1)
  have g1 : Below w.heap.size w w1 := (below_alloc w (.cells #[] 9)).grown gr1 (by simp) (fun k e => by injection e with e; exact Nat.le_of_eq e)
  rw [List.nil_append, e32.out] at ow1
  clear gr1 at1 hT0 e32
  go_loopw [5, 6] (fun v jv wr => ∃ i g cap M, i ≤ 31 ∧ Hid (M = 32 + i) ∧ v = .slice (some ⟨g, 0, none⟩) M cap ∧ jv = .int .i64 ((2 * i : Nat) : Int) ∧ wr.ownsRow w.heap.size 9 1 (.slice (some ⟨g, 0, none⟩) M cap) M (strs (AL f) M) ∧ Below w.heap.size w wr) (fun v _ _ => 63 - lenOf v)
  case atStart => exact ⟨0, g, cap, 32, by decide, rfl, rfl, rfl, ow1, g1⟩
  case round =>
    clear ow1 g1
    obtain ⟨i, g, cap, M, hi, hM, rfl, rfl, ow, gr⟩ := hrel
    by_cases hlt : i < 31
    · have hMo := hM.out
      have sx := AL_size f hm (2 * i) (by omega)
      have sy := AL_size f hm (2 * i + 1) (by omega)
      have hst : Hid (mk2 (AL f (2 * i)) (AL f (2 * i + 1)) = AL f M) := by unfold Hid; rw [hMo, AL_step f i hlt]
      have cx := own_cell ow (2 * i) _ (strs_get (AL f) M (2 * i) (by omega))
      have cy := own_cell ow (2 * i + 1) _ (strs_get (AL f) M (2 * i + 1) (by omega))
      obtain ⟨t, ht⟩ : ∃ t : Nat, t = 2 * i + 1 := ⟨_, rfl⟩
      rw [← ht] at cy sy hst
      have ht2 : Hid (t + 1 = 2 * (i + 1)) := by unfold Hid; omega
      obtain ⟨u, hu⟩ : ∃ u : Nat, u = 2 * i := ⟨_, rfl⟩
      rw [← hu] at cx sx hst
      rw [← hu]
      have hut : (u : Int) + 1 = (t : Int) := by omega
      have hut2 : Hid ((u : Int) + 2 = ((2 * (i + 1) : Nat) : Int)) := by unfold Hid; omega
      have htM : (t : Int) < (M : Int) := by omega
      have huM : (u : Int) < (M : Int) := by omega
      have hu0 : (0 : Int) ≤ (u : Int) := by omega
      have ht0 : (0 : Int) ≤ (t : Int) := by omega
      have hM63 : (M : Int) < 63 := by omega
      have hM62 : M ≤ 62 := by omega
      have hsu : Hid (strs (AL f) (M + 1) = strs (AL f) M ++ [.string (AL f M)]) := strs_succ _ _
      have hM1 : Hid (M + 1 = 32 + (i + 1)) := by unfold Hid; omega
      generalize AL f u = x at *
      generalize AL f t = y at *
      have gr4' : ∀ {w3 w4 : World}, (w3.alloc (.cells #[.string (mk2 x y)] 9)).grownBy w4 (some g) → Below wr.heap.size wr w3 → Below w.heap.size w w4 := fun h3 h4 =>
        ((gr.trans (h4.mono gr.size)).trans ((below_alloc _ _).mono (Nat.le_trans gr.size h4.size))).grown h3 (by have := gr.size; have := h4.size; simp; omega) (fun k e => by injection e with e; rw [← e]; exact own_ge ow)
      clear hu ht hMo
      go_wp2_with fail
      have hwt : IntKind.i64.wrap (t : Int) = (t : Int) := by rw [IntKind.wrap_i64]; omega
      refine reg_in 16 mixed rfl ?_
      refine reg_take 0 22 (.slice (some ⟨g, 0, none⟩) M cap) rfl rfl (by kernel_rfl) (fun _ _ _ h => h) rfl (fun w => by go_simp) ?_
      refine reg_take 1 23 (.pointer (some ⟨rb, 0, none⟩)) rfl rfl (by kernel_rfl) (fun _ _ _ h => h) rfl (fun w => by go_simp) ?_
      refine reg_take 2 24 (.slice (some ⟨g, 0, none⟩) M cap) rfl rfl (by kernel_rfl) (fun _ _ _ h => h) rfl (fun w => by go_simp) ?_
      refine reg_take 3 25 (.int .i64 (u : Int)) rfl rfl (by kernel_rfl) (fun _ _ _ h => h) rfl (fun w => by go_simp) ?_
      refine reg_take 4 26 (.pointer (some ⟨g, u, none⟩)) rfl rfl (by kernel_rfl) (fun _ _ _ h => h) rfl (fun w => by go_simp) ?_
      refine reg_take 6 28 (.slice (some ⟨g, 0, none⟩) M cap) rfl rfl (by kernel_rfl) (fun _ _ _ h => h) rfl (fun w => by go_simp) ?_
      refine reg_take 7 29 (.int .i64 (u : Int)) rfl rfl (by kernel_rfl) (fun _ _ _ h => h) rfl (fun w => by go_simp) ?_
      refine reg_take 8 30 (.int .i64 (t : Int)) rfl rfl (by kernel_rfl) (fun _ _ _ h => h) rfl (fun w => by go_simp) ?_
      refine reg_take 9 31 (.pointer (some ⟨g, t, none⟩)) rfl rfl (by kernel_rfl) (fun _ _ _ h => h) rfl (fun w => by go_simp) ?_
      simp only [Act.put, List.setIfInBounds_toArray, List.set_cons_succ, List.set_cons_zero]
      refine reg_two 5 10 rfl rfl (by kernel_rfl) rfl rfl (fun K hK => ?_) (fun K hK => ?_)
      · go_wp2_with fail
        refine reg_one 10 rfl (by kernel_rfl) rfl (fun K hK => ?_)
        go_wp2_with fail
        have W2 := Blk.new wr.drew #[.string x, .string y] 9
        have G2 : Below wr.heap.size wr (wr.drew.alloc (.cells #[.string x, .string y] 9)) := ((Below.refl _ wr).drew).alloc (Nat.le_refl _) _
        have R2 := (hR.below gr).below G2
        refine reg_seq 11 rfl (by kernel_rfl) ?_
        simp only [List.drop_succ_cons, List.drop_zero]
        go_wp2_with first
          | (go_at_call 20; refine (rmark2 rb rfl R2 W2 (by omega) (by omega)).mono ?_; clear W2; rintro e w3 ⟨rfl, g3⟩; have G3 := G2.trans (g3.mono G2.size); clear g3; have ow3 := own_below (own_below ow G3 (own_lt ow)) (below_alloc w3 (.cells #[.string (mk2 x y)] 9)) (by have := own_lt ow; have := G3.size; omega))
          | (refine wpl_pushTx rfl _ _ rfl w.heap.size M (.slice (some ⟨g, 0, none⟩) M cap) (strs (AL f) M) rfl ow3 _ 1 1 _ rfl (tx_new w3 (mk2 x y)) (by decide) (by omega) (by decide) (by have := gr.size; have := G3.size; simp; omega) ?_; intro g4 cap4 w4 ow4 gr4 _)
        go_light
        exact ⟨⟨i + 1, g4, cap4, M + 1, by omega, hM1, rfl, congrArg (Value.int .i64) hut2.out, by rw [hsu.out, ← hst.out]; exact ow4, gr4' gr4 G3⟩, by simp [lenOf]; omega⟩
      · go_wp2_with fail
        refine reg_one 5 rfl (by kernel_rfl) rfl (fun K hK => ?_)
        go_wp2_with fail
        have W2 := Blk.new wr.drew #[.string x, .string y] 9
        have G2 : Below wr.heap.size wr (wr.drew.alloc (.cells #[.string x, .string y] 9)) := ((Below.refl _ wr).drew).alloc (Nat.le_refl _) _
        have R2 := (hR.below gr).below G2
        refine reg_seq 11 rfl (by kernel_rfl) ?_
        simp only [List.drop_succ_cons, List.drop_zero]
        go_wp2_with first
          | (go_at_call 20; refine (rmark2 rb rfl R2 W2 (by omega) (by omega)).mono ?_; clear W2; rintro e w3 ⟨rfl, g3⟩; have G3 := G2.trans (g3.mono G2.size); clear g3; have ow3 := own_below (own_below ow G3 (own_lt ow)) (below_alloc w3 (.cells #[.string (mk2 x y)] 9)) (by have := own_lt ow; have := G3.size; omega))
          | (refine wpl_pushTx rfl _ _ rfl w.heap.size M (.slice (some ⟨g, 0, none⟩) M cap) (strs (AL f) M) rfl ow3 _ 1 1 _ rfl (tx_new w3 (mk2 x y)) (by decide) (by omega) (by decide) (by have := gr.size; have := G3.size; simp; omega) ?_; intro g4 cap4 w4 ow4 gr4 _)
        go_light
        exact ⟨⟨i + 1, g4, cap4, M + 1, by omega, hM1, rfl, congrArg (Value.int .i64) hut2.out, by rw [hsu.out, ← hst.out]; exact ow4, gr4' gr4 G3⟩, by simp [lenOf]; omega⟩
    · obtain rfl : i = 31 := by omega
      obtain rfl : M = 63 := hM.out
      go_wp2_with fail
      go_ret
      exact ⟨⟨g, ⟨cap, rfl⟩, own_ge ow, own_tx ow⟩, gr⟩
end Go.Proofs.YtgbfjdaelcfnjaaDoor.Tr
