/-
  Part of the proof: the function that DeviceRests writes by is walked.
-/
import Derived.Test.YtccnnfllgdplhaaDoorE1
namespace Go.Proofs.YtccnnfllgdplhaaDoor
open Go.RowKit
theorem Chg.then {w w' w'' : World} {O O' : Nat → Prop} (h : Chg w w' O) (u : Chg w' w'' O') (ho : ∀ k, k < w.heap.size → O' k → O k) : Chg w w'' O :=
  ⟨u.os.trans h.os, u.tape.trans h.tape, u.output.trans h.output, Nat.le_trans h.size u.size, fun k hk hne => (u.block k (Nat.lt_of_lt_of_le hk h.size) (fun e => hne (ho k hk e))).trans (h.block k hk hne)⟩
theorem pick66 (a : Int) (w : World) : Calls Tryd.prog 48 #[.int .i64 a, .int .i64 66] w fun e w' => ∃ j : Nat, e = .returned (.int .i64 (j : Int)) ∧ j < 66 ∧ w' = w := pick_any a 66 w (by decide) (by decide)
theorem burnt_none : burnt (-1) = -1 := by decide
set_option maxRecDepth 100000 in
set_option maxHeartbeats 1000000 in
theorem put_any (b Bd Ba : Nat) (O : Nat → Prop) (S : Nat → Nat → UInt8) (W : List (Nat × (Nat → UInt8))) (v : Value) (lf : Int) (a aa : Option Addr) (cap ac : Nat) (ls : List ByteArray) (zs : List Int) (w : World) (hD : Dev w O b S W (-1) v lf)
    (hbd : Blk w Bd #[.pointer (some ⟨b, 0, none⟩)] 52) (hba : Blk w Ba #[.slice aa zs.length ac] 41) (nd : ¬ O Bd) (na : ¬ O Ba)
    (hz : ∀ i x, zs[i]? = some x → ∃ g o, aa = some ⟨g, o, none⟩ ∧ g < w.heap.size ∧ ¬ O g ∧ w.cell? ⟨g, o + i, none⟩ = some (.int .i64 x)) (hls : Texts w O a ls) (hz0 : 0 < zs.length) (_hz1 : zs.length ≤ 20) (hl : ls.length ≤ 20) (hs : ∀ s ∈ ls, s.size ≤ 256) (hW : W.length ≤ 100) :
    Calls Tryd.prog 47 #[.slice a ls.length cap, .pointer (some ⟨Bd, 0, none⟩), .pointer (some ⟨Ba, 0, none⟩)] w fun e w' => e = .returned (.bool true) ∧ (∃ O' W' v' l', Dev w' O' b S W' (-1) v' l' ∧ (∀ k, O' k → gro O w w' k) ∧ W'.length ≤ W.length + ls.length) ∧ Chg w w' O := by
  go_enter Tryd.func47, Tryd.ntmps47
  go_wp2_with fail
  go_loopw [5] (fun i wr => ∃ (k : Nat) (O' : Nat → Prop) (W' : List (Nat × (Nat → UInt8))) (v' : Value) (l' : Int), k ≤ ls.length ∧ i = .int .i64 k ∧ Dev wr O' b S W' (-1) v' l' ∧ (∀ k, O' k → gro O w wr k) ∧ W'.length ≤ W.length + k ∧ Chg w wr O) (fun i _ => ls.length - (intOf i).toNat)
  case atStart => exact ⟨0, O, W, v, lf, by omega, rfl, hD, fun k h => Or.inl h, by omega, Chg.refl _ _⟩
  case round =>
    obtain ⟨k, O', W', v', l', hk, rfl, hD', hO', hW', hC⟩ := hrel
    by_cases hlt : k < ls.length
    · obtain ⟨g, o, rfl, hg, hgO, hc⟩ := hls k ls[k] (List.getElem?_eq_getElem hlt)
      have hsz := hs _ (List.getElem_mem hlt)
      obtain ⟨m, hm⟩ : ∃ m, m = k % zs.length := ⟨_, rfl⟩
      have hmz : m < zs.length := by rw [hm]; exact Nat.mod_lt _ hz0
      have hmI : (k : Int) % (zs.length : Int) = (m : Int) := by rw [hm]; simp
      obtain ⟨ga, oa, rfl, hga, hgaO, hca⟩ := hz m zs[m] (List.getElem?_eq_getElem hmz)
      have jd := hbd.chg hC nd
      have ja := hba.chg hC na
      have cs : wr.cell? ⟨g, o + k, none⟩ = some (.string ls[k]) := (World.cell?_of_block (hC.block g hg hgO)).trans hc
      have cz : wr.cell? ⟨ga, oa + m, none⟩ = some (.int .i64 zs[m]) := (World.cell?_of_block (hC.block ga hga hgaO)).trans hca
      have hlt' : (k : Int) < (ls.length : Int) := by omega
      have hmz' : (m : Int) < (zs.length : Int) := by omega
      have hk0 : (0 : Int) ≤ (k : Int) := by omega
      have hm0 : (0 : Int) ≤ (m : Int) := by omega
      have hzn : ¬ zs = [] := fun h => by rw [h] at hz0; exact absurd hz0 (by decide)
      have hmT : (k : Int).tmod (zs.length : Int) = (m : Int) := by rw [Int.tmod_eq_emod_of_nonneg (by omega)]; exact hmI
      generalize ls[k] = x at *
      generalize zs[m] = z at *
      clear hm hc hca
      go_wp2_with fail
      refine region_s [(0, false), (1, false), (2, true), (3, false), (4, true), (5, true), (6, true), (7, false), (8, true), (9, true), (11, true), (12, true), (13, true), (14, false)] [10] [15, 16]
        (fun w' => Blk w' Bd #[.pointer (some ⟨b, 0, none⟩)] 52 ∧ Blk w' Ba #[.slice (some ⟨ga, oa, none⟩) zs.length ac] 41 ∧ w'.cell? ⟨g, o + k, none⟩ = some (.string x) ∧ w'.cell? ⟨ga, oa + m, none⟩ = some (.int .i64 z)) mixed (by kernel_rfl) (fun _ _ _ _ _ h => h) ⟨jd.drewN 1, ja.drewN 1, cs, cz⟩ ?_
      refine lead_read _ rfl _ rfl rfl (.pointer (some ⟨b, 0, none⟩)) (fun w' hS => by have c := hS.1.cell 0; go_simp) ?_
      refine lead_read _ rfl _ rfl rfl (.slice (some ⟨ga, oa, none⟩) zs.length ac) (fun w' hS => by have c := hS.2.1.cell 0; go_simp) ?_
      refine lead_pure _ rfl _ rfl rfl _ (fun w' => by go_simp; rfl) ?_
      refine lead_read _ rfl _ rfl rfl (.slice (some ⟨ga, oa, none⟩) zs.length ac) (fun w' hS => by have c := hS.2.1.cell 0; go_simp) ?_
      refine lead_pure _ rfl _ rfl rfl (.int .i64 zs.length) (fun w' => by go_simp) ?_
      refine lead_pure _ rfl _ rfl rfl (.int .i64 m) (fun w' => by go_simp) ?_
      refine lead_pure _ rfl _ rfl rfl (.pointer (some ⟨ga, oa + m, none⟩)) (fun w' => by go_simp) ?_
      refine lead_read _ rfl _ rfl rfl (.int .i64 z) (fun w' hS => by obtain ⟨_, _, _, c⟩ := hS; go_simp) ?_
      refine lead_pure _ rfl _ rfl rfl _ (fun w' => by go_simp; rfl) ?_
      refine lead_pure _ rfl _ rfl rfl _ (fun w' => by go_simp; rfl) ?_
      refine lead_pure _ rfl _ rfl rfl _ (fun w' => by go_simp; rfl) ?_
      refine lead_pure _ rfl _ rfl rfl _ (fun w' => by go_simp; rfl) ?_
      refine lead_pure _ rfl _ rfl rfl (.pointer (some ⟨g, o + k, none⟩)) (fun w' => by go_simp) ?_
      refine lead_read _ rfl _ rfl rfl (.string x) (fun w' hS => by obtain ⟨_, _, c, _⟩ := hS; go_simp) ?_
      simp only [lead_nil_eq]
      simp only [Act.put, List.setIfInBounds_toArray, List.set_cons_succ, List.set_cons_zero]
      refine mid_cons _ rfl rfl fun K hK => ?_
      go_wp2_with (go_at_call 48; refine (pick66 _ _).mono ?_; rintro e w2 ⟨j, rfl, hj, rfl⟩)
      refine hK _ _ ⟨jd.drewN 1, ja.drewN 1, cs, cz⟩ ?_
      clear hK K
      simp only [mid_nil_eq]
      simp only [List.filterMap_cons, List.getElem?_toArray, List.getElem?_cons_succ, List.getElem?_cons_zero, List.filterMap_nil]
      go_wp2_with (go_at_call 31; refine (write_ok b _ _ _ _ _ _ j x _ (hD'.drewN 1) (by decide) hj hsz (by omega)).mono ?_; rintro e w4 ⟨rfl, ⟨v4, l4, hD4⟩, C4⟩)
      rw [burnt_none] at hD4
      have hz4 : wr.heap.size ≤ w4.heap.size := C4.size
      go_light
      refine ⟨⟨k + 1, _, _, v4, l4, by omega, by go_num, hD4, ?_, by simp; omega, (hC.drewN 1).then C4 (fun q hq ho => (hO' q ho).elim id (fun h => absurd hq (by omega)))⟩, by simp [intOf]; omega⟩
      intro q hq
      rcases hq with hq | ⟨h1, h2⟩
      · exact (hO' q hq).imp id (fun h => ⟨h.1, by omega⟩)
      · exact Or.inr ⟨Nat.le_trans hC.size h1, h2⟩
    · go_wp2_with fail
      go_ret
      exact ⟨rfl, ⟨O', W', v', l', hD', hO', by omega⟩, hC⟩
end Go.Proofs.YtccnnfllgdplhaaDoor
