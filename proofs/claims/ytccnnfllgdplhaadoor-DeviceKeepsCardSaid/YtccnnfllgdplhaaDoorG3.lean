/-
  Part of the proof: the reference's Write is walked.
-/
import Derived.Test.YtccnnfllgdplhaaDoorG2
namespace Go.Proofs.YtccnnfllgdplhaaDoor
open Go.RowKit
theorem rwrite_range (r : Nat) (at' : Int) (s : ByteArray) (w : World) (h : ¬ (0 ≤ at' ∧ at' < 66)) :
    Calls Tryd.prog 32 #[.pointer (some ⟨r, 0, none⟩), .int .i64 at', .string s] w fun e w' => e = .returned (.int .i64 2) ∧ w' = w := by
  have d : decide (0 ≤ at' ∧ at' < 66) = false := decide_eq_false h
  go_enter Tryd.func32, Tryd.ntmps32
  go_wp2_with (go_at_call 71; refine (in_any _ _).mono ?_; rintro e w' ⟨rfl, rfl⟩; rw [d])
  go_ret
  exact ⟨rfl, rfl⟩
theorem rwrite_limit (r : Nat) (at' : Int) (s : ByteArray) (w : World) (h : 0 ≤ at' ∧ at' < 66) (hs : 256 < s.size) :
    Calls Tryd.prog 32 #[.pointer (some ⟨r, 0, none⟩), .int .i64 at', .string s] w fun e w' => e = .returned (.int .i64 4) ∧ w' = w := by
  have d : decide (0 ≤ at' ∧ at' < 66) = true := decide_eq_true h
  go_enter Tryd.func32, Tryd.ntmps32
  go_wp2_with (go_at_call 71; refine (in_any _ _).mono ?_; rintro e w' ⟨rfl, rfl⟩; rw [d])
  go_ret
  exact ⟨rfl, rfl⟩
theorem rwrite_spent (r : Nat) (O : Nat → Prop) (S : Nat → Nat → UInt8) (W : List (Nat × (Nat → UInt8))) (a b c : Value) (at' : Int) (s : ByteArray) (w : World) (hD : RDev w O r S W 0 a b c) (h : 0 ≤ at' ∧ at' < 66) (hs : s.size ≤ 256) :
    Calls Tryd.prog 32 #[.pointer (some ⟨r, 0, none⟩), .int .i64 at', .string s] w fun e w' => e = .returned (.int .i64 14) ∧ RDev w' O r S W 0 a b c ∧ Upd w w' r := by
  have d : decide (0 ≤ at' ∧ at' < 66) = true := decide_eq_true h
  go_enter Tryd.func32, Tryd.ntmps32
  go_wp2_with (first | (go_at_call 71; refine (in_any _ _).mono ?_; rintro e w' ⟨rfl, rfl⟩; rw [d]) | (go_at_call 83; refine (rspent_any _ _ _ _ _ _ _ _ _ hD).mono ?_; rintro e w1 ⟨rfl, hD1, hu1⟩))
  go_ret
  exact ⟨rfl, hD1, hu1⟩
set_option maxRecDepth 100000 in
set_option maxHeartbeats 1000000 in
theorem rwrite_ok (r : Nat) (O : Nat → Prop) (S : Nat → Nat → UInt8) (W : List (Nat × (Nat → UInt8))) (F : Int) (a b c : Value) (k : Nat) (s : ByteArray) (w : World) (hD : RDev w O r S W F a b c) (hF : F ≠ 0) (hk : k < 66) (hs : s.size ≤ 256) (hW : W.length < 1000) :
    Calls Tryd.prog 32 #[.pointer (some ⟨r, 0, none⟩), .int .i64 (k : Int), .string s] w fun e w' => e = .returned (.int .i64 0) ∧ (∃ b' c', RDev w' (gro O w w') r S (W ++ [(k, bAt s)]) (burnt F) a b' c') ∧ Chg w w' O := by
  have d : decide (0 ≤ (k : Int) ∧ (k : Int) < 66) = true := decide_eq_true (by omega)
  have dF : decide (F = 0) = false := decide_eq_false hF
  obtain ⟨i0, hi0, hq0, hq1, hq2⟩ := info_parts infoInt
  have hs' : (s.size : Int) ≤ 256 := by omega
  go_enter Tryd.func32, Tryd.ntmps32
  go_wp2_with fail
  refine (in_any _ _).mono ?_
  intro e wx hh
  rw [hh.1, hh.2, d]
  clear hh
  go_wp2_with fail
  refine (rspent_any _ _ _ _ _ _ _ _ _ hD).mono ?_
  rintro e w1 ⟨rfl, hD1, hu1⟩
  rw [dF]
  have c1 := hD1.c1
  have lr := hD1.blk.lt
  have gA := (Below.refl w1.heap.size w1).alloc (Nat.le_refl _) (.cells #[.int .i64 (k : Int)] 3)
  go_wp2_with (refine wpList_append_lies _ rfl _ _ _ rfl 0 3 i0 _ 1 8 Tryd.underlying41 hi0 hq0 hq1 hq2 rfl (by decide) b W.length (atL W) rfl (hD1.below gA).ats ⟨w1.heap.size, 0, none⟩ 1 1 [.int .i64 (k : Int)] rfl rfl (World.news_of_block (cs := #[.int .i64 (k : Int)]) (t := 3) (fr := (0, 0)) (heap_alloc_new w1 _)) (by intro u hu; simp at hu; subst hu; rfl) (by decide) (by unfold maxLen; omega) (by omega) (Nat.zero_le _) (w1.heap.size + 1) (by simp) ?_; intro gB cB wB hownB hgB hatB hltB; have bB : Blk wB r #[a, b, c, .int .i64 (burnt F)] 121 := ((hD1.below gA).blk).grown hgB (fun e => (hD1.ob r e.symm).2 rfl); have cB1 := bB.cell 1; have fB1 := bB.frozen 1)
  have zA := hgB.size
  simp only [World.size_alloc] at zA
  have gBne : gB ≠ r := by
    rcases hatB with e | e
    · exact (hD1.ob gB e).2
    · omega
  have CB : Chg w wB O := (((Chg.refl w O).upd hu1 (Or.inl hD1.own)).alloc _).grown hgB (fun q hq => Or.inl (hD1.ob q hq).1)
  obtain ⟨w2, hw2⟩ : ∃ w2, wB.setCell ⟨r, 1, none⟩ (.slice (some ⟨gB, 0, none⟩) (W.length + 1) cB) = w2 := ⟨_, rfl⟩
  have u2 := setCell_upd wB r 1 (.slice (some ⟨gB, 0, none⟩) (W.length + 1) cB)
  have b2 : Blk (wB.setCell ⟨r, 1, none⟩ (.slice (some ⟨gB, 0, none⟩) (W.length + 1) cB)) r #[a, .slice (some ⟨gB, 0, none⟩) (W.length + 1) cB, c, .int .i64 (burnt F)] 121 := bB.set 1 _
  rw [hw2] at u2 b2
  rw [hw2]
  clear hw2
  have C2 : Chg w w2 O := CB.upd u2 (Or.inl hD1.own)
  have at2 : w2.ownsRow 0 3 1 (.slice (some ⟨gB, 0, none⟩) (W.length + 1) cB) (W.length + 1) (atL (W ++ [(k, bAt s)])) := ownsRow_same (w := wB) (by simp only [atL, List.map_append]; exact hownB) (fun q hq => by
    simp only [Value.ownBlock, Option.some.injEq] at hq; subst hq; exact u2.block _ gBne)
  have keepB : ∀ q, q < w1.heap.size → b.ownBlock ≠ some q → q ≠ r → w2.heap[q]? = w1.heap[q]? := fun q hq hb hr => by
    rw [u2.block q hr, hgB.block q (by simp; omega) (fun e => hb e.symm), Below.heap_alloc _ _ _ hq]
  have su2 : w2.ownsRow 0 9 1 a 66 (suL S) := ownsRow_same hD1.sure (fun q hq => keepB q (ownsRow_lt hD1.sure q hq).2 (hD1.ab q hq) (hD1.oa q hq).2)
  have wh2 : w2.ownsRow 0 9 1 c W.length (whL W) := ownsRow_same hD1.whats (fun q hq => keepB q (ownsRow_lt hD1.whats q hq).2 (fun e => hD1.bc q e hq) (hD1.oc q hq).2)
  have z2 : w2.heap.size = wB.heap.size := u2.size
  clear hi0 hq0 hq1 hq2 c1 cB1 fB1 bB
  have hpad := pad_eq s hs
  have hzs := zs_size (256 - s.size)
  obtain ⟨nn, hnn⟩ : ∃ nn, Hid (nn = 256 - s.size) := ⟨_, rfl⟩
  rw [← hnn.out] at hpad hzs
  have hnI : (256 : Int) - (s.size : Int) = (nn : Int) := by rw [hnn.out]; omega
  have hn1 : nn ≤ 256 := by rw [hnn.out]; omega
  have hwn : IntKind.i64.wrap (nn : Int) = (nn : Int) := by rw [IntKind.wrap_i64]; omega
  have lr2 := b2.lt
  refine region_s [(0, true), (1, true), (2, true), (3, true), (4, false), (5, true), (6, true), (7, true), (8, true)] [9, 10, 11] [12, 13, 14, 15] (fun w' => Below w2.heap.size w2 w') mixed (by kernel_rfl) (fun _ _ _ _ _ h => h) (below_drewN (Below.refl _ _) 1) ?_
  refine lead_pure _ rfl _ rfl rfl _ (fun w' => by go_simp; rfl) ?_
  refine lead_pure _ rfl _ rfl rfl _ (fun w' => by go_simp; rfl) ?_
  refine lead_pure _ rfl _ rfl rfl _ (fun w' => by go_simp; rfl) ?_
  refine lead_pure _ rfl _ rfl rfl _ (fun w' => by go_simp; rfl) ?_
  refine lead_read _ rfl _ rfl rfl c (fun w' hS => by have c : w'.cell? ⟨r, 2, none⟩ = some c := (hS.cell (p := ⟨r, 2, none⟩) lr2).trans (b2.cell 2); go_simp) ?_
  refine lead_pure _ rfl _ rfl rfl _ (fun w' => by go_simp; rfl) ?_
  refine lead_pure _ rfl _ rfl rfl _ (fun w' => by go_simp; rfl) ?_
  refine lead_pure _ rfl _ rfl rfl (.int .i64 s.size) (fun w' => by go_simp) ?_
  refine lead_pure _ rfl _ rfl rfl (.int .i64 nn) (fun w' => by go_simp) ?_
  simp only [lead_nil_eq]
  simp only [Act.put, List.setIfInBounds_toArray, List.set_cons_succ, List.set_cons_zero]
  clear hnI hwn
  refine mid_cons _ rfl rfl fun K hK => ?_
  go_wp2_with (go_at_call 79; refine (zeros_any nn _ _ rfl (by omega)).mono ?_; rintro e w3 ⟨rfl, g3⟩)
  have g3' : Below w2.heap.size w2 w3 := (below_drewN (Below.refl w2.heap.size w2) 1).trans g3
  refine hK _ _ g3' ?_
  clear hK K
  refine mid_cons _ rfl rfl fun K hK => ?_
  go_wp2_with fail
  refine hK _ _ g3' ?_
  clear hK K
  refine mid_cons _ rfl rfl fun K hK => ?_
  go_wp2_with fail
  have g4 := g3'.alloc g3'.size (.cells #[.string (sb 256 (bAt s))] 9)
  refine hK _ _ g4 ?_
  clear hK K
  simp only [mid_nil_eq]
  simp only [List.filterMap_cons, List.getElem?_toArray, List.getElem?_cons_succ, List.getElem?_cons_zero, List.filterMap_nil]
  obtain ⟨i1, hi1, hp0, hp1, hp2⟩ := info_parts infoStr
  refine wpList_append_lies _ rfl _ _ _ rfl 0 9 i1 _ 1 16 Tryd.underlying22 hi1 hp0 hp1 hp2 rfl (by decide) c W.length (whL W) rfl (ownsRow_same wh2 (fun q hq => g4.block q (ownsRow_lt wh2 q hq).2)) ⟨w3.heap.size, 0, none⟩ 1 1 [.string (sb 256 (bAt s))] rfl rfl (World.news_of_block (cs := #[.string (sb 256 (bAt s))]) (t := 9) (fr := (0, 0)) (heap_alloc_new w3 _)) (by intro u hu; simp at hu; subst hu; rfl) (by decide) (by unfold maxLen; omega) (by omega) (Nat.zero_le _) (w3.heap.size + 1) (by simp) ?_
  intro gD cD wD hownD hgD hatD hltD
  have z3 := g3'.size
  have z4 := hgD.size
  simp only [World.size_alloc] at z4
  have hcr : c.ownBlock ≠ some r := fun e => (hD1.oc r e).2 rfl
  have bD : Blk wD r #[a, .slice (some ⟨gB, 0, none⟩) (W.length + 1) cB, c, .int .i64 (burnt F)] 121 := (b2.below g4 lr2).grown hgD (fun e => hcr e.symm)
  have cD2 := bD.cell 2
  have fD2 := bD.frozen 2
  have gDne : gD ≠ r := by
    rcases hatD with e | e
    · exact (hD1.oc gD e).2
    · omega
  have gDB : gD ≠ gB := by
    rcases hatD with e | e
    · rcases hatB with e2 | e2
      · intro h; subst h; exact hD1.bc _ e2 e
      · have := (ownsRow_lt hD1.whats gD e).2; omega
    · omega
  have cB' : c.ownBlock ≠ some gB := fun e => by
    rcases hatB with e2 | e2
    · exact hD1.bc _ e2 e
    · have := (ownsRow_lt hD1.whats gB e).2; omega
  have CD : Chg w wD O := ((C2.below g4).grown hgD (fun q hq => Or.inl (hD1.oc q hq).1))
  have keepD : ∀ q, q < w2.heap.size → c.ownBlock ≠ some q → q ≠ r → (wD.setCell ⟨r, 2, none⟩ (.slice (some ⟨gD, 0, none⟩) (W.length + 1) cD)).heap[q]? = w2.heap[q]? := fun q hq hb hr => by
    rw [Below.heap_setCell _ _ _ _ hr, hgD.block q (by simp; omega) (fun e => hb e.symm), g4.block q hq]
  have z1 := hu1.size
  clear hi1 hp0 hp1 hp2
  go_wp2_with fail
  go_ret
  have hsz : (wD.setCell ⟨r, 2, none⟩ (.slice (some ⟨gD, 0, none⟩) (W.length + 1) cD)).heap.size = wD.heap.size := by simp [World.setCell]
  refine ⟨rfl, ⟨.slice (some ⟨gB, 0, none⟩) (W.length + 1) cB, .slice (some ⟨gD, 0, none⟩) (W.length + 1) cD, bD.set 2 _, ?_, ?_, ?_, Or.inl hD1.own, ?_, ?_, ?_, ?_, ?_, ?_, ?_, hD1.bot, hD1.top⟩, CD.setCell (Or.inl hD1.own) _⟩
  · exact ownsRow_same su2 (fun q hq => keepD q (ownsRow_lt su2 q hq).2 (hD1.ac q hq) (hD1.oa q hq).2)
  · rw [List.length_append]
    exact ownsRow_same at2 (fun q hq => by
      have hl := (ownsRow_lt at2 q hq).2
      simp only [Value.ownBlock, Option.some.injEq] at hq; subst hq
      exact keepD _ hl cB' gBne)
  · rw [List.length_append]
    refine ownsRow_same (w := wD) (by simp only [whL, List.map_append]; exact hownD) (fun q hq => ?_)
    simp only [Value.ownBlock, Option.some.injEq] at hq; subst hq
    exact Below.heap_setCell _ _ _ _ (by exact gDne)
  · exact fun g hg => ⟨Or.inl (hD1.oa g hg).1, (hD1.oa g hg).2⟩
  · intro g hg
    simp only [Value.ownBlock, Option.some.injEq] at hg; subst hg
    refine ⟨?_, gBne⟩
    rcases hatB with e | e
    · exact Or.inl (hD1.ob gB e).1
    · exact Or.inr ⟨by omega, by omega⟩
  · intro g hg
    simp only [Value.ownBlock, Option.some.injEq] at hg; subst hg
    refine ⟨?_, gDne⟩
    rcases hatD with e | e
    · exact Or.inl (hD1.oc gD e).1
    · exact Or.inr ⟨by omega, by omega⟩
  · intro g hg e
    simp only [Value.ownBlock, Option.some.injEq] at e; subst e
    rcases hatB with e2 | e2
    · exact hD1.ab _ hg e2
    · have := (ownsRow_lt hD1.sure gB hg).2; omega
  · intro g hg e
    simp only [Value.ownBlock, Option.some.injEq] at e; subst e
    rcases hatD with e2 | e2
    · exact hD1.ac _ hg e2
    · have := (ownsRow_lt hD1.sure gD hg).2; omega
  · intro g hg e
    simp only [Value.ownBlock, Option.some.injEq] at hg e
    exact gDB (e.trans hg.symm)
  · intro p hp
    rcases List.mem_append.1 hp with h | h
    · exact hD1.at' p h
    · simp at h; subst h; exact hk
end Go.Proofs.YtccnnfllgdplhaaDoor
