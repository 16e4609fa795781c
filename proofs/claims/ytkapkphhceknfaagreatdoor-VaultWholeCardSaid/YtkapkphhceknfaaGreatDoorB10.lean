/-
  Part of the proof of TreeBinds: the row above a row.
  Part of the proof of TreeBinds: the code's Root, Path and Verify are walked.
  Part of the proof: what tells of all, as cells; its digits; loads, stores and comparisons of it.
-/
import Derived.Test.YtkapkphhceknfaaGreatDoorB09
import Derived.Test.YtkapkphhceknfaaGreatDoorB06
import Derived.Laws.StructEq
import Derived.ChangeKeysEq
namespace Go.Proofs.YtkapkphhceknfaaGreatDoor.Tr
open Go.RowKit Go.Shelf
attribute [local go_sem] Oper.semAt_some
section
variable {P : Program} {l : List Oper} {Q : Exit → Act → World → Prop} {fuel : Nat} {listed : Array Bool} {a : Act} {w : World}
/-- The others come one behind the other. -/
theorem reg_seq (p : Nat) (hp : (l.drop p).length = fuel) (hB : Region.seqB .any l.toArray fuel p listed = true) (h : wpList P l.toArray Q (l.drop p) a w) : wpAny P .any l.toArray Q fuel listed a w := by
  subst hp
  exact wpAny_of_seq (md := .any) (Q' := Q) (l.drop p) p _ a w (fun j => by rw [List.getElem?_drop, List.getElem?_toArray]) hB h
end
theorem infoStr : (Tryz.prog.info? 9).map (fun i => (i.zero, i.size, i.bytes)) = some (some (.string ByteArray.empty), 1, 16) := by kernel_rfl
def zN (n : Nat) : Array Value := madeCells (Value.string ByteArray.empty).cells (n * 1)
theorem mkN (n : Nat) (hn : n ≤ 16) (w : World) : (Instr.makeSlice 23 (.int .i64 0) (.int .i64 (n : Int))).run Tryz.prog w = .ok (.slice (some ⟨w.heap.size, 0, none⟩) 0 n) (w.alloc (.cells (zN n) 9)) := by
  obtain ⟨i, hi, h1⟩ := Option.map_eq_some_iff.1 infoStr
  simp only [Prod.mk.injEq] at h1
  obtain ⟨h1, h2, h3⟩ := h1
  have := run_makeSlice (P := Tryz.prog) w 23 9 i _ Tryz.underlying23 hi h1 .i64 .i64 0 (n : Int) (by decide) (by omega) (by rw [h2]; simp; omega) (by rw [h3]; omega) (by omega)
  rw [this, h2]
  rfl
theorem zN_own (n : Nat) (hn : n ≤ 16) (w : World) : (w.alloc (.cells (zN n) 9)).ownsRow w.heap.size 9 1 (.slice (some ⟨w.heap.size, 0, none⟩) 0 n) 0 [] := by
  refine ⟨rfl, Or.inr ⟨w.heap.size, n, zN n, rfl, Nat.le_refl _, ?_, Nat.zero_le _, by unfold maxLen; omega, ?_, by simp⟩⟩
  · exact heap_alloc_new w (.cells (zN n) 9)
  · unfold zN madeCells; simp
theorem own_below {w w' : World} {B g n cap : Nat} {xs : List Value} (h : w.ownsRow B 9 1 (.slice (some ⟨g, 0, none⟩) n cap) n xs) {C : Nat} (hb : Below C w w') (hC : g < C) : w'.ownsRow B 9 1 (.slice (some ⟨g, 0, none⟩) n cap) n xs := by
  obtain ⟨h1, h2⟩ := h
  refine ⟨h1, ?_⟩
  rcases h2 with ⟨h2, _⟩ | ⟨g', cap', cur, hv, hgB, hh, r⟩
  · cases h2
  · have e : g = g' := by injection hv with a1; injection a1 with a2; injection a2
    subst e
    exact Or.inr ⟨g, cap', cur, hv, hgB, by rw [hb.block _ hC]; exact hh, r⟩
theorem own_cell {w : World} {B g n cap : Nat} {xs : List Value} (h : w.ownsRow B 9 1 (.slice (some ⟨g, 0, none⟩) n cap) n xs) (j : Nat) (u : Value) (hj : xs[j]? = some u) : w.cell? ⟨g, j, none⟩ = some u := by
  obtain ⟨h1, h2⟩ := h
  rcases h2 with ⟨h2, _⟩ | ⟨g', cap', cur, hv, hgB, hh, _, _, _, ht⟩
  · cases h2
  · have e : g = g' := by injection hv with a1; injection a1 with a2; injection a2
    subst e
    simp only [World.cell?, hh]
    rw [← ht, List.getElem?_take] at hj
    split at hj
    · simpa using hj
    · cases hj
theorem own_lt {w : World} {B g n cap : Nat} {xs : List Value} (h : w.ownsRow B 9 1 (.slice (some ⟨g, 0, none⟩) n cap) n xs) : g < w.heap.size := by
  obtain ⟨h1, h2⟩ := h
  rcases h2 with ⟨h2, _⟩ | ⟨g', cap', cur, hv, hgB, hh, _⟩
  · cases h2
  · have e : g = g' := by injection hv with a1; injection a1 with a2; injection a2
    subst e
    exact (Array.getElem?_eq_some_iff.1 hh).1
/-- A row of texts as values. -/
def strs (f : Nat → ByteArray) (n : Nat) : List Value := (List.range n).map fun j => .string (f j)
theorem strs_succ (f : Nat → ByteArray) (n : Nat) : strs f (n + 1) = strs f n ++ [.string (f n)] := by unfold strs; rw [List.range_succ, List.map_append]; rfl
theorem strs_get (f : Nat → ByteArray) (n j : Nat) (h : j < n) : (strs f n)[j]? = some (.string (f j)) := by unfold strs; simp [h]
theorem own_tx {w : World} {B g n cap : Nat} {f : Nat → ByteArray} (h : w.ownsRow B 9 1 (.slice (some ⟨g, 0, none⟩) n cap) n (strs f n)) : Tx w (some ⟨g, 0, none⟩) f n := fun i hi =>
  ⟨g, 0, rfl, own_lt h, by rw [Nat.zero_add]; exact own_cell h i _ (strs_get f n i hi)⟩
theorem own_set {w : World} {B g n cap : Nat} {xs : List Value} (h : w.ownsRow B 9 1 (.slice (some ⟨g, 0, none⟩) n cap) n xs) {p : Addr} {v : Value} (hp : p.block ≠ g) : (w.setCell p v).ownsRow B 9 1 (.slice (some ⟨g, 0, none⟩) n cap) n xs := by
  obtain ⟨h1, h2⟩ := h
  refine ⟨h1, ?_⟩
  rcases h2 with ⟨h2, _⟩ | ⟨g', cap', cur, hv, hgB, hh, r⟩
  · cases h2
  · have e : g = g' := by injection hv with a1; injection a1 with a2; injection a2
    subst e
    exact Or.inr ⟨g, cap', cur, hv, hgB, by rw [Below.heap_setCell _ _ _ _ (Ne.symm hp)]; exact hh, r⟩
theorem keeps_below {B : Nat} {W W' : World} (h : Below W.heap.size W W') : KeepsFrom B W W' :=
  ⟨h.size, fun k o _ hk _ => by rw [h.block k (Array.getElem?_eq_some_iff.1 hk).1]; exact hk⟩
theorem grown_blk {w w' : World} {b : Nat} {arr : Array Value} {T : TypeId} {row : Option Nat} (h : Blk w b arr T) (hg : w.grownBy w' row) (hne : some b ≠ row) : Blk w' b arr T := by
  have := h.lt
  unfold Blk at *
  rw [hg.block b this hne]; exact h
theorem Tx.grown {w w' : World} {a : Option Addr} {f : Nat → ByteArray} {n G : Nat} (h : Tx w a f n) (hg : w.grownBy w' (some G)) (hne : ∀ ad, a = some ad → ad.block ≠ G) : Tx w' a f n := fun i hi => by
  obtain ⟨g, o, h1, h2, h3⟩ := h i hi
  exact ⟨g, o, h1, Nat.lt_of_lt_of_le h2 hg.size, (World.cell?_of_block (hg.block g h2 (fun e => hne _ h1 (by injection e)))).trans h3⟩
/-- The row above. -/
def up (f : Nat → ByteArray) (j : Nat) : ByteArray := mk2 (f (2 * j)) (f (2 * j + 1))
set_option maxRecDepth 100000 in
set_option maxHeartbeats 1000000 in
theorem above_any (a : Option Addr) (M c N : Nat) (f : Nat → ByteArray) (w : World) (hN : N ≤ 16) (hM : Hid (M = 2 * N)) (hT : Tx w a f M) (hs : ∀ i, i < M → (f i).size = 16) (hK : Sm.KB w) :
    Calls Tryz.prog 91 #[.slice a M c] w fun e w' => (∃ g cap, e = .returned (.slice (some ⟨g, 0, none⟩) N cap) ∧ w.heap.size ≤ g ∧ Tx w' (some ⟨g, 0, none⟩) (up f) N) ∧ Below w.heap.size w w' := by
  have mk := mkN N hN
  have hK0 : ∀ W : World, Below w.heap.size w W → Sm.KB W.drew := fun W g => hK.below g.drew
  have hq : (M : Int).tdiv 2 = (N : Int) := by rw [Int.tdiv_eq_ediv_of_nonneg (by omega)]; have := hM.out; omega
  have hq' : (M : Int) / 2 = (N : Int) := by have := hM.out; omega
  have hM32 : M ≤ 32 := by have := hM.out; omega
  refine (callsIn_wide (n := 10)).1 ?_
  refine callsIn_of_wp_marks Tryz.func91 rfl trivial ?_ rfl
  refine wpIn_wide.2 ?_
  simp only [Tryz.ntmps91, List.size_toArray, List.length_cons, List.length_nil, Nat.reduceAdd, Nat.reduceSub, Array.replicate_succ, Array.replicate_zero, List.push_toArray, List.append_toArray, List.nil_append, List.cons_append]
  go_wp2_with (go_at_call 106; refine (pairs_any _ _ rfl).mono ?_; rintro e w' ⟨rfl, rfl⟩)
  obtain ⟨i0, hi0, hp⟩ := Option.map_eq_some_iff.1 infoStr
  simp only [Prod.mk.injEq] at hp
  obtain ⟨hp0, hp1, hp2⟩ := hp
  have j0 := own_below (own_below (zN_own N hN w) (below_alloc _ (.cells #[.slice (some ⟨w.heap.size, 0, none⟩) 0 N] 23)) (by simp)) (below_alloc _ (.cells #[.slice a M c] 23)) (by simp; omega)
  have j1 := (Blk.new' (w.alloc (.cells (zN N) 9)) #[.slice (some ⟨w.heap.size, 0, none⟩) 0 N] 23 (b := w.heap.size + 1) (by simp)).alloc (.cells #[.slice a M c] 23)
  have j2 := Blk.new' ((w.alloc (.cells (zN N) 9)).alloc (.cells #[.slice (some ⟨w.heap.size, 0, none⟩) 0 N] 23)) #[.slice a M c] 23 (b := w.heap.size + 1 + 1) (by simp)
  have g0 := (((Below.refl w.heap.size w).alloc (Nat.le_refl _) (.cells (zN N) 9)).alloc (by simp) (.cells #[.slice (some ⟨w.heap.size, 0, none⟩) 0 N] 23)).alloc (by simp; omega) (.cells #[.slice a M c] 23)
  have hsz : (((w.alloc (.cells (zN N) 9)).alloc (.cells #[.slice (some ⟨w.heap.size, 0, none⟩) 0 N] 23)).alloc (.cells #[.slice a M c] 23)).heap.size = w.heap.size + 3 := by simp
  obtain ⟨W0, hW0⟩ : ∃ W0, ((w.alloc (.cells (zN N) 9)).alloc (.cells #[.slice (some ⟨w.heap.size, 0, none⟩) 0 N] 23)).alloc (.cells #[.slice a M c] 23) = W0 := ⟨_, rfl⟩
  rw [hW0] at j0 j1 j2 g0 hsz ⊢
  clear hW0 mk hq hq'
  refine wpIn_wide.1 (range_clos (F := Fence.wide) (n := 10) rfl (by decide) 119 #[.pointer (some ⟨w.heap.size + 1 + 1, 0, none⟩)] rfl trivial (enters_of Tryz.func119 (by kernel_rfl) rfl) (fun i => #[.string (f (2 * i)), .string (f (2 * i + 1))]) N (fun _ => rfl)
    (fun i W => W.ownsRow w.heap.size 9 1 (.slice (some ⟨w.heap.size, 0, none⟩) i N) i (strs (up f) i) ∧ Blk W (w.heap.size + 1) #[.slice (some ⟨w.heap.size, 0, none⟩) i N] 23 ∧ Blk W (w.heap.size + 1 + 1) #[.slice a M c] 23 ∧ Below w.heap.size w W)
    (fun i X Y hb h => ⟨own_below h.1 hb (by omega), h.2.1.below hb (by omega), h.2.2.1.below hb (by omega), h.2.2.2.trans (hb.mono (by omega))⟩)
    ⟨j0, j1, j2, g0⟩ (pairs_gives 9 (w.heap.size + 1 + 1) (by decide) a M c N hM f hN _ (fun i W h => ⟨h.2.2.1.cell 0, hT.below h.2.2.2⟩))
    (fun i => { tmps := #[.slice a M c, undef, .slice none 0 0, .pointer (some ⟨w.heap.size + 1, 0, none⟩), .string (f (2 * i)), .string (f (2 * i + 1)), .slice a M c, .int .i64 (M : Int), .int .i64 (N : Int), .slice (some ⟨w.heap.size, 0, none⟩) 0 N, .slice a M c, .func (.func 119) #[] #[.pointer (some ⟨w.heap.size + 1 + 1, 0, none⟩)], .string (f (2 * i)), .string (f (2 * i + 1)), undef, undef, undef, undef, undef, undef, undef], defers := [] })
    ?assign ?body ?done)
  case assign =>
    rintro i W K hi _ hK
    gi_wp2
    exact hK
  case body =>
    rintro i W hi ⟨ow, b1, b2, gW⟩ hz
    have hMo := hM.out
    have s1 := hs (2 * i) (by omega)
    have s2 := hs (2 * i + 1) (by omega)
    clear hMo
    have c1 := b1.cell 0
    have hh1 : w.heap.size + 5 ≤ W.heap.size := by omega
    have fin : ∀ w1 w3 : World, Below W.heap.size W (w1.alloc (.cells #[.string (mk2 (f (2 * i)) (f (2 * i + 1)))] 9)) → w3.ownsRow w.heap.size 9 1 (.slice (some ⟨w.heap.size, 0, none⟩) (i + 1) N) (i + 1) (strs (up f) i ++ [.string (mk2 (f (2 * i)) (f (2 * i + 1)))]) → (w1.alloc (.cells #[.string (mk2 (f (2 * i)) (f (2 * i + 1)))] 9)).grownBy w3 (some w.heap.size) →
        Blk w3 (w.heap.size + 1) #[.slice (some ⟨w.heap.size, 0, none⟩) i N] 23 → Blk w3 (w.heap.size + 1 + 1) #[.slice a M c] 23 →
        roundPost W0.heap.size (fun W => W.ownsRow w.heap.size 9 1 (.slice (some ⟨w.heap.size, 0, none⟩) (i + 1) N) (i + 1) (strs (up f) (i + 1)) ∧ Blk W (w.heap.size + 1) #[.slice (some ⟨w.heap.size, 0, none⟩) (i + 1) N] 23 ∧ Blk W (w.heap.size + 1 + 1) #[.slice a M c] 23 ∧ Below w.heap.size w W) W .normal ⟨#[], []⟩ (w3.setCell ⟨w.heap.size + 1, 0, none⟩ (.slice (some ⟨w.heap.size, 0, none⟩) (i + 1) N)) := by
      intro w1 w3 G2 ow3 gr3 bb3 bp3
      have k1 : KeepsFrom W0.heap.size W (w1.alloc (.cells #[.string (mk2 (f (2 * i)) (f (2 * i + 1)))] 9)) := keeps_below G2
      have k2 : KeepsFrom W0.heap.size (w1.alloc (.cells #[.string (mk2 (f (2 * i)) (f (2 * i + 1)))] 9)) w3 := KeepsFrom.of_grownBy gr3 (fun j e => by injection e with e; omega)
      have B3 : Below w.heap.size w w3 := (gW.trans (G2.mono gW.size)).grown gr3 (by have := G2.size; omega) (fun k e => by injection e with e; omega)
      refine ⟨(k1.trans k2).trans ((KeepsOthers.setCell _ _ _).from _), ?_, bb3.set 0 _, bp3.setOther _ (by simp) _, B3.setCell (by simp) _⟩
      rw [strs_succ]
      exact own_set ow3 (by simp)
    gi_wp2
    refine regIn (wide_round _) mixed (by kernel_rfl) 7 rfl ?_
    refine reg_take 1 15 (.string (f (2 * i))) rfl rfl (by kernel_rfl) (fun _ _ _ h => h) rfl (fun w => by go_simp) ?_
    refine reg_take 2 16 (.string (f (2 * i + 1))) rfl rfl (by kernel_rfl) (fun _ _ _ h => h) rfl (fun w => by go_simp) ?_
    simp only [Act.put, List.setIfInBounds_toArray, List.set_cons_succ, List.set_cons_zero]
    refine reg_two 0 3 rfl rfl (by kernel_rfl) rfl rfl (fun K hK => ?_) (fun K hK => ?_)
    · go_wp2_with fail
      refine reg_one 3 rfl (by kernel_rfl) rfl (fun K hK => ?_)
      go_wp2_with (go_at_call 107; refine (bind_any _ _ _ (by omega) (by omega) (hK0 W gW)).mono ?_; rintro e w1 ⟨rfl, g1⟩)
      have G1 : Below W.heap.size W w1 := (Below.refl _ W).drew.trans g1
      clear g1
      refine reg_one 4 rfl (by kernel_rfl) rfl (fun K hK => ?_)
      go_wp2_with fail
      have g2 := below_alloc w1 (.cells #[.string (mk2 (f (2 * i)) (f (2 * i + 1)))] 9)
      have G2 := G1.trans (g2.mono G1.size)
      have ow2 := own_below ow G2 (by omega)
      have bb2 := b1.below G2 b1.lt
      have bp2 := b2.below G2 b2.lt
      clear g2
      refine reg_seq 5 rfl (by kernel_rfl) ?_
      simp only [List.drop_succ_cons, List.drop_zero]
      go_wp2_with (refine wpList_append_fits _ rfl _ _ _ rfl w.heap.size 9 i0 1 Tryz.underlying23 hi0 hp1 w.heap.size i N (strs (up f) i) rfl ow2 ⟨w1.heap.size, 0, none⟩ 1 1 [.string (mk2 (f (2 * i)) (f (2 * i + 1)))] rfl rfl (cell_one_new w1 _ 9) (fun u hu => by simp at hu; subst hu; rfl) (by omega) ?_; intro w3 ow3 gr3; have bb3 := grown_blk bb2 gr3 (by simp); have bp3 := grown_blk bp2 gr3 (by simp; omega); have c3 := bb3.cell 0; have f3 := bb3.frozen 0)
      exact fin w1 w3 G2 ow3 gr3 bb3 bp3
    · go_wp2_with (go_at_call 107; refine (bind_any _ _ _ (by omega) (by omega) (hK0 W gW)).mono ?_; rintro e w1 ⟨rfl, g1⟩)
      have G1 : Below W.heap.size W w1 := (Below.refl _ W).drew.trans g1
      clear g1
      have c2 := (b1.below G1 b1.lt).cell 0
      refine reg_two 0 4 rfl rfl (by kernel_rfl) rfl rfl (fun K hK => ?_) (fun K hK => ?_)
      · go_wp2_with fail
        refine reg_one 4 rfl (by kernel_rfl) rfl (fun K hK => ?_)
        go_wp2_with fail
        have g2 := below_alloc w1 (.cells #[.string (mk2 (f (2 * i)) (f (2 * i + 1)))] 9)
        have G2 := G1.trans (g2.mono G1.size)
        have ow2 := own_below ow G2 (by omega)
        have bb2 := b1.below G2 b1.lt
        have bp2 := b2.below G2 b2.lt
        clear g2
        refine reg_seq 5 rfl (by kernel_rfl) ?_
        simp only [List.drop_succ_cons, List.drop_zero]
        go_wp2_with (refine wpList_append_fits _ rfl _ _ _ rfl w.heap.size 9 i0 1 Tryz.underlying23 hi0 hp1 w.heap.size i N (strs (up f) i) rfl ow2 ⟨w1.heap.size, 0, none⟩ 1 1 [.string (mk2 (f (2 * i)) (f (2 * i + 1)))] rfl rfl (cell_one_new w1 _ 9) (fun u hu => by simp at hu; subst hu; rfl) (by omega) ?_; intro w3 ow3 gr3; have bb3 := grown_blk bb2 gr3 (by simp); have bp3 := grown_blk bp2 gr3 (by simp; omega); have c3 := bb3.cell 0; have f3 := bb3.frozen 0)
        exact fin w1 w3 G2 ow3 gr3 bb3 bp3
      · go_wp2_with fail
        have c4 := ((b1.below G1 b1.lt).alloc (.cells #[.string (mk2 (f (2 * i)) (f (2 * i + 1)))] 9)).cell 0
        refine reg_one 0 rfl (by kernel_rfl) rfl (fun K hK => ?_)
        go_wp2_with fail
        have g2 := below_alloc w1 (.cells #[.string (mk2 (f (2 * i)) (f (2 * i + 1)))] 9)
        have G2 := G1.trans (g2.mono G1.size)
        have ow2 := own_below ow G2 (by omega)
        have bb2 := b1.below G2 b1.lt
        have bp2 := b2.below G2 b2.lt
        clear g2
        refine reg_seq 5 rfl (by kernel_rfl) ?_
        simp only [List.drop_succ_cons, List.drop_zero]
        go_wp2_with (refine wpList_append_fits _ rfl _ _ _ rfl w.heap.size 9 i0 1 Tryz.underlying23 hi0 hp1 w.heap.size i N (strs (up f) i) rfl ow2 ⟨w1.heap.size, 0, none⟩ 1 1 [.string (mk2 (f (2 * i)) (f (2 * i + 1)))] rfl rfl (cell_one_new w1 _ 9) (fun u hu => by simp at hu; subst hu; rfl) (by omega) ?_; intro w3 ow3 gr3; have bb3 := grown_blk bb2 gr3 (by simp); have bp3 := grown_blk bp2 gr3 (by simp; omega); have c3 := bb3.cell 0; have f3 := bb3.frozen 0)
        exact fin w1 w3 G2 ow3 gr3 bb3 bp3
  case done =>
    rintro D W hD ⟨ow, b1, b2, gW⟩ hKD
    have c1 := b1.cell 0
    go_wp2_with fail
    refine ⟨by simp, .inl ⟨_, _, rfl, run_takeDeferred hKD, ?_⟩⟩
    refine ⟨_, results_tmp rfl _ _ _, ⟨w.heap.size, N, rfl, Nat.le_refl _, own_tx (own_below ow (C := w.heap.size + 1) (below_putObj W _ (by omega)) (by omega))⟩, gW.trans (below_putObj W _ (by omega))⟩
end Go.Proofs.YtkapkphhceknfaaGreatDoor.Tr
namespace Go.Proofs.YtkapkphhceknfaaGreatDoor.Tr
open Go.RowKit Go.Shelf
def errV (n : Int) : Value := if n = 0 then .nilIface else .iface 41 (.int .i64 n)
/-- There are 32 marks. -/
def okB (f : Nat → ByteArray) (n : Nat) : Bool := decide (n = 32) && marksB f n
theorem okB_spec {f : Nat → ByteArray} {n : Nat} (h : okB f n = true) : n = 32 ∧ ∀ i, i < 32 → (f i).size = 16 := by
  unfold okB at h
  simp only [Bool.and_eq_true, decide_eq_true_eq] at h
  obtain ⟨rfl, h2⟩ := h
  exact ⟨rfl, marksB_spec.1 h2⟩
def rootT (f : Nat → ByteArray) (n : Nat) : ByteArray := if okB f n then R f 5 0 else ⟨#[]⟩
def rootC (f : Nat → ByteArray) (n : Nat) : Int := if okB f n then 0 else 1
theorem pw_step : ∀ t : Fin 5, 32 / 2 ^ t.1 = 2 * (32 / 2 ^ (t.1 + 1)) ∧ 32 / 2 ^ (t.1 + 1) ≤ 16 ∧ 1 ≤ 32 / 2 ^ (t.1 + 1) := by decide
theorem R_up (f : Nat → ByteArray) (t : Nat) : R f (t + 1) = up (R f t) := rfl
/-- How many a slice has. -/
def lenOf : Value → Nat
  | .slice _ n _ => n
  | _ => 0
/-- A slice that is row t. -/
structure Rw (w : World) (v : Value) (f : Nat → ByteArray) (t M : Nat) : Prop where
  le : t ≤ 5
  len : Hid (M = 32 / 2 ^ t)
  form : ∃ a c, v = .slice a M c ∧ Tx w a (R f t) M
set_option maxRecDepth 100000 in
set_option maxHeartbeats 1000000 in
theorem root_any (a : Option Addr) (n c : Nat) (f : Nat → ByteArray) (w : World) (hT : Tx w a f n) (hn : n ≤ 40) (hs : ∀ i, i < n → (f i).size ≤ 60) (hK : Sm.KB w) :
    Calls Tryz.prog 71 #[.slice a n c] w fun e w' => e = .returned (.tuple #[.string (rootT f n), errV (rootC f n)]) ∧ Below w.heap.size w w' := by
  have ha := are_any a n c f 32 w hT hn hs (by decide)
  cases ho : okB f n with
  | false =>
    have ho' : (decide (n = 32) && marksB f n) = false := ho
    rw [ho'] at ha
    have e1 : rootT f n = ⟨#[]⟩ := by unfold rootT; rw [ho]; rfl
    have e2 : errV (rootC f n) = .iface 41 (.int .i64 1) := by unfold rootC errV; rw [ho]; rfl
    go_enter Tryz.func71, Tryz.ntmps71
    go_wp2_with (go_at_call 90; refine ha.mono ?_; rintro e w' ⟨rfl, rfl⟩)
    go_ret2
    exact ⟨by rw [e1, e2]; rfl, Below.refl _ _⟩
  | true =>
    have ho' : (decide (n = 32) && marksB f n) = true := ho
    rw [ho'] at ha
    have e1 : Hid (rootT f n = R f 5 0) := by unfold Hid rootT; rw [ho]; rfl
    have e2 : Hid (errV (rootC f n) = .nilIface) := by unfold Hid rootC errV; rw [ho]; rfl
    obtain ⟨rfl, hm⟩ := okB_spec ho
    clear ho ho' hs hn
    go_enter Tryz.func71, Tryz.ntmps71
    go_wp2_with (go_at_call 90; refine ha.mono ?_; rintro e w' ⟨rfl, rfl⟩)
    clear ha
    go_loopw [4] (fun v wr => ∃ t M, Rw wr v f t M ∧ Below w'.heap.size w' wr) (fun v _ => lenOf v)
    case atStart => exact ⟨0, 32, ⟨by decide, rfl, a, c, rfl, hT⟩, Below.refl _ _⟩
    case round =>
      obtain ⟨t, M, ⟨ht, hM, a', c', rfl, hT'⟩, gr⟩ := hrel
      by_cases h5 : t < 5
      · obtain ⟨p1, p2, p3⟩ := pw_step ⟨t, h5⟩
        obtain ⟨N, hN⟩ : ∃ N : Nat, Hid (N = 32 / 2 ^ (t + 1)) := ⟨_, rfl⟩
        have hMN : Hid (M = 2 * N) := by unfold Hid; rw [hM.out, hN.out]; exact p1
        have hN16 : N ≤ 16 := by rw [hN.out]; exact p2
        have hN1 : 1 ≤ N := by rw [hN.out]; exact p3
        have hM1 : (1 : Int) < (M : Int) := by have := hMN.out; omega
        have hM32 : M ≤ 32 := by have := hMN.out; omega
        clear p1 p2 p3
        go_wp2_with fail
        refine (above_any a' M c' N (R f t) wr hN16 hMN hT' (fun i hi => R_size f hm t i (by omega)) (hK.below gr)).mono ?_
        rintro e w1 ⟨⟨g, cap, rfl, _, hT1⟩, g1⟩
        go_wp2_with fail
        go_light
        refine ⟨⟨t + 1, N, ⟨by omega, hN, _, _, rfl, hT1⟩, gr.trans (g1.mono gr.size)⟩, ?_⟩
        have := hMN.out
        simp [lenOf]; omega
      · obtain rfl : t = 5 := by omega
        have hM1 : M = 1 := hM.out
        subst hM1
        obtain ⟨g, o, rfl, hg, hc⟩ := hT' 0 (by decide)
        rw [Nat.add_zero] at hc
        go_wp2_with fail
        go_ret2
        exact ⟨by rw [e1.out, e2.out]; rfl, gr⟩
/-- What Path tells. -/
def pathC (f : Nat → ByteArray) (n : Nat) (k : Int) : Int := if okB f n then (if 0 ≤ k ∧ k < 32 then 0 else 2) else 1
def pathN (f : Nat → ByteArray) (n : Nat) (k : Int) : Nat := if okB f n && decide (0 ≤ k ∧ k < 32) then 5 else 0
def pathF (f : Nat → ByteArray) (k : Nat) (t : Nat) : ByteArray := R f t (oth (k / 2 ^ t))
theorem xor_i64 : ∀ k : Fin 32, bits .xor .i64 ((k.1 : Nat) : Int) 1 = ((oth k.1 : Nat) : Int) := by decide +kernel
theorem path_lt : ∀ (k : Fin 32) (t : Fin 5), oth (k.1 / 2 ^ t.1) < 32 / 2 ^ t.1 := by decide +kernel
theorem div_pow (k t : Nat) : k / 2 ^ t / 2 = k / 2 ^ (t + 1) := by rw [Nat.div_div_eq_div_mul, Nat.pow_succ]
theorem div_le (k t : Nat) : k / 2 ^ t ≤ k := Nat.div_le_self _ _
theorem Tx.none (w : World) (a : Option Addr) (f : Nat → ByteArray) : Tx w a f 0 := fun _ hi => absurd hi (Nat.not_lt_zero _)
end Go.Proofs.YtkapkphhceknfaaGreatDoor.Tr
namespace Go.Proofs.YtkapkphhceknfaaGreatDoor.Su
open Go.RowKit
/-- A row of bools, by a function. -/
def bl (n : Nat) (f : Nat → Bool) : Array Value := ((List.range n).map fun j => Value.bool (f j)).toArray
theorem bl_size (n : Nat) (f : Nat → Bool) : (bl n f).size = n := by simp [bl]
theorem bl_get (n : Nat) (f : Nat → Bool) (j : Nat) (h : j < n) : (bl n f)[j]? = some (.bool (f j)) := by simp [bl, h]
theorem bl_congr (n : Nat) (f g : Nat → Bool) (h : ∀ j, j < n → f j = g j) : bl n f = bl n g := by
  unfold bl; congr 1; apply List.map_congr_left; intro j hj; rw [h j (by simpa using hj)]
theorem bl_one (n : Nat) (f : Nat → Bool) : ∀ v ∈ (bl n f).toList, v.oneCell' = true := by
  intro v hv; simp [bl] at hv; obtain ⟨j, _, rfl⟩ := hv; rfl
def putF (f : Nat → Bool) (k : Nat) (v : Bool) (j : Nat) : Bool := if j = k then v else f j
theorem bl_set (n : Nat) (f : Nat → Bool) (k : Nat) (v : Bool) : (bl n f).setIfInBounds k (.bool v) = bl n (putF f k v) := by
  apply Array.ext_getElem?; intro j
  rw [Array.getElem?_setIfInBounds]
  by_cases hj : j < n
  · rw [bl_get n (putF f k v) _ hj]
    by_cases e : k = j
    · subst e; simp [bl_size, hj, putF]
    · rw [if_neg e, bl_get _ _ _ hj]; simp [putF, Ne.symm e]
  · rw [Array.getElem?_eq_none (xs := bl n (putF f k v)) (by rw [bl_size]; omega)]
    by_cases e : k = j
    · subst e; simp [bl_size, hj]
    · rw [if_neg e, Array.getElem?_eq_none (by rw [bl_size]; omega)]
/-- What tells of all, as its cells. -/
def supA (c e : Int) (f : Nat → Bool) (r : ByteArray) : Array Value := #[.int .i64 c, .int .i64 e] ++ bl 32 f ++ #[.string r]
section
variable (c e : Int) (f : Nat → Bool) (r : ByteArray)
theorem supA_size : (supA c e f r).size = 35 := by simp [supA, bl_size]
theorem supA_0 : (supA c e f r)[0]? = some (.int .i64 c) := by kernel_rfl
theorem supA_1 : (supA c e f r)[1]? = some (.int .i64 e) := by kernel_rfl
theorem supA_34 : (supA c e f r)[34]? = some (.string r) := by
  unfold supA; rw [Array.getElem?_append_right (by simp [bl_size])]; simp [bl_size]
theorem supA_side (j : Nat) (h : j < 32) : (supA c e f r)[2 + j]? = some (.bool (f j)) := by
  unfold supA
  rw [Array.getElem?_append_left (by simp [bl_size]; omega), Array.getElem?_append_right (by simp)]
  simp [bl_get _ _ _ h]
theorem supA_sides : (supA c e f r).extract 2 (2 + 32) = bl 32 f := by
  apply Array.ext_getElem?; intro j
  by_cases hj : j < 32
  · rw [bl_get _ _ _ hj, Array.getElem?_extract, if_pos (by rw [supA_size]; omega), supA_side _ _ _ _ _ hj]
  · rw [Array.getElem?_eq_none (by rw [Array.size_extract, supA_size]; omega), Array.getElem?_eq_none (by rw [bl_size]; omega)]
theorem supA_all (m : Nat) (h : 0 + 35 = m) : (supA c e f r).extract 0 m = supA c e f r := by
  subst h; rw [Nat.zero_add]
  have := Array.extract_size (xs := supA c e f r)
  rw [supA_size] at this; exact this
theorem supA_put (k : Nat) (hk : k < 32) (v : Bool) : (supA c e f r).setIfInBounds (2 + k) (.bool v) = supA c e (putF f k v) r := by
  unfold supA
  rw [Array.setIfInBounds_append_left (by simp [bl_size]; omega), Array.setIfInBounds_append_right (by simp)]
  simp [bl_set]
theorem supA_one : ∀ v ∈ (supA c e f r).toList, v.oneCell' = true := by
  intro v hv
  simp only [supA, Array.toList_append, List.mem_append] at hv
  rcases hv with (hv | hv) | hv
  · simp at hv; rcases hv with rfl | rfl <;> rfl
  · exact bl_one _ _ v hv
  · simp at hv; subst hv; rfl
end
theorem supA_congr (c e : Int) (f g : Nat → Bool) (r : ByteArray) (h : ∀ j, j < 32 → f j = g j) : supA c e f r = supA c e g r := by
  unfold supA; rw [bl_congr 32 f g h]
/-- The digits of sides. -/
def dig (b : Bool) : UInt8 := if b then 49 else 48
def dg (f : Nat → Bool) : ByteArray := sb 32 (fun j => dig (f j))
theorem dg_size (f : Nat → Bool) : (dg f).size = 32 := sb_size _ _
theorem sb_succ (n : Nat) (f : Nat → UInt8) : sb n f ++ ⟨#[f n]⟩ = sb (n + 1) f := by
  apply ByteArray.ext
  simp [sb, List.range_succ]
theorem sb_zero (f : Nat → UInt8) : sb 0 f = ⟨#[]⟩ := rfl
section
variable {P : Program} {ops : Array Oper} {Q : Exit → Act → World → Prop} {a : Act} {w : World} {rest : List Oper} {o : Oper}
/-- Cells written, all of a block. -/
theorem storeVar_run (t : TypeId) (n : Nat) (hi0 : (P.info? t).map (·.size) = some n) (b : Nat) (arr vs : Array Value) (T : TypeId) (hone : ∀ v ∈ vs.toList, v.oneCell' = true) (hb : Blk w b arr T) (hn : arr.size = n) (hv : vs.size = n) :
    (storeVar t ⟨b, 0, none⟩ (.agg vs)).run P w = .ok () (putBlk w b (.cells vs T)) := by
  obtain ⟨i, hi, hsize⟩ := Option.map_eq_some_iff.1 hi0
  have hl := storeCells_run P w b hb.lt T vs.toList 0 arr (by simp [hv, hn]) hone
  rw [putBlk_self hb, foldset_all _ _ (by simp [hv, hn])] at hl
  simp only [storeVar, sizeOf, typeInfo, hi, hsize, Sem.run_bind, Sem.run_pure, run_program, Result.andThen_ok, Value.cells, hv, ne_eq, not_true, if_false, hl]
theorem wpl_storeV (hgd : o.guard = none) (hdn : o.dst = none) (t : TypeId) (x y : Operand) (ho : o.op = .store t x y) (n : Nat) (hi0 : (P.info? t).map (·.size) = some n)
    (b : Nat) (arr : Array Value) (T : TypeId) (vs : Array Value) (hone : ∀ v ∈ vs.toList, v.oneCell' = true) (hx : a.eval x = .pointer (some ⟨b, 0, none⟩)) (hy : a.eval y = .agg vs) (hb : Blk w b arr T) (hn : arr.size = n) (hv : vs.size = n)
    (h : ∀ w', Upd w w' b → Blk w' b vs T → wpList P ops Q rest a w') : wpList P ops Q (o :: rest) a w := by
  refine wpList_plain hgd fun K hK => ?_
  unfold Oper.wp execOp
  simp only [ho, hx, hy, Instr.storeAt, Instr.sureAddr, Sem.run_bind, Sem.run_pure, Result.andThen_ok, storeVar_run t n hi0 b arr vs T hone hb hn hv]
  simp only [Oper.upon_skip, hdn, Act.put]
  exact hK _ _ (h _ (putBlk_upd _ _ _) (putBlk_blk hb))
/-- A struct or an array read out of its block. -/
theorem loadV_run (w : World) (t : TypeId) (ha : ∀ w, (isAgg t).run P w = .ok true w) (n : Nat) (hi0 : (P.info? t).map (·.size) = some n) (b off : Nat) (arr : Array Value) (T : TypeId) (hb : Blk w b arr T) (hn : off + n ≤ arr.size) : (loadVar t ⟨b, off, none⟩).run P w = .ok (.agg (arr.extract off (off + n))) w := by
  obtain ⟨i, hi, hsize⟩ := Option.map_eq_some_iff.1 hi0
  have hl := loadCellsFrom_run P w b off arr T hb n 0 #[] (by omega)
  simp only [loadVar, ha, sizeOf, typeInfo, loadCells, hi, hsize, Sem.run_bind, Sem.run_pure, run_program, Result.andThen_ok, if_true, hl]
  simp only [Nat.add_zero, Array.empty_append]
theorem wpl_loadV (hgd : o.guard = none) (t : TypeId) (x : Operand) (ho : o.op = .load t x) (ha : ∀ w, (isAgg t).run P w = .ok true w) (n : Nat) (hi0 : (P.info? t).map (·.size) = some n)
    (b off : Nat) (arr : Array Value) (T : TypeId) (hx : a.eval x = .pointer (some ⟨b, off, none⟩)) (hb : Blk w b arr T) (hn : off + n ≤ arr.size)
    (h : wpList P ops Q rest (a.put o.dst (.agg (arr.extract off (off + n)))) w) : wpList P ops Q (o :: rest) a w := by
  refine wpList_plain hgd fun K hK => ?_
  unfold Oper.wp execOp
  simp only [ho, hx, Instr.loadAt, Instr.sureAddr, Sem.run_bind, Sem.run_pure, Result.andThen_ok, loadV_run w t ha n hi0 b off arr T hb hn]
  exact hK _ _ h
end
theorem sz93 : (Tryz.prog.info? 72).map (·.size) = some 35 := by kernel_rfl
theorem sz91 : (Tryz.prog.info? 70).map (·.size) = some 32 := by kernel_rfl
theorem sz165 : (Tryz.prog.info? 147).map (·.size) = some 32 := by kernel_rfl
theorem sz4 : (Tryz.prog.info? 4).map (·.size) = some 1 := by kernel_rfl
theorem sz5 : (Tryz.prog.info? 5).map (·.size) = some 1 := by kernel_rfl
/-- Nothing told. -/
def sup0 : Array Value := supA 0 0 (fun _ => false) ⟨#[]⟩
theorem zero93 : ∀ w, (zeroValue 72).run Tryz.prog w = .ok (.agg sup0) w := fun w => (Tryz.zeroValue72 w).trans (by kernel_rfl)
theorem zero91 : ∀ w, (zeroValue 70).run Tryz.prog w = .ok (.agg (bl 32 fun _ => false)) w := fun w => (Tryz.zeroValue70 w).trans (by kernel_rfl)
theorem zero165 : ∀ w, (zeroValue 147).run Tryz.prog w = .ok (.agg (tb 32 fun _ => 0)) w := fun w => (Tryz.zeroValue147 w).trans (by kernel_rfl)
theorem eq_items (d : Nat) (f : Nat → Bool) (w : World) : ∀ is : List Nat, (∀ i ∈ is, i < 32) → (Op.eqItems (d + 1) 4 1 (bl 32 f) (bl 32 f) is).run Tryz.prog w = .ok true w
  | [], _ => by simp [Op.eqItems]
  | i :: is, h => by
    have hi : i < 32 := h i (by simp)
    have hp : (part 4 (bl 32 f) i).run Tryz.prog w = .ok (.bool (f i)) w := by
      simp [part, Tryz.isAgg4, bl_get 32 f i hi]
    simp only [Op.eqItems, Nat.mul_one, Sem.run_bind, hp, Result.andThen_ok, run_equalIn_bool w d 4 _ _ Tryz.underlying4, beq_self_eq_true, Bool.not_true, Bool.false_eq_true, if_false]
    exact eq_items d f w is (fun j hj => h j (by simp [hj]))
theorem cells4 : Tryz.prog.cellsOf 4 = 1 := by kernel_rfl
theorem eq_sides (d : Nat) (f : Nat → Bool) (w : World) : (Op.equalIn (d + 2) 70 (.agg (bl 32 f)) (.agg (bl 32 f))).run Tryz.prog w = .ok true w := by
  obtain ⟨i, hi, _⟩ := Option.map_eq_some_iff.1 sz4
  rw [run_equalIn_array w (d + 1) _ _ Tryz.underlying70 hi, cells4]
  exact eq_items d f w _ (fun j hj => by simpa using hj)
theorem fields93 : Tryz.prog.underlying 72 = some (.struct (Tryz.prog.fieldsOf 72)) := by kernel_rfl
theorem held93 : Tryz.prog.stoodInHeld 72 = false := by kernel_rfl
theorem fl93 : (Tryz.prog.fieldsOf 72).toList.map (fun f => (f.name, f.type, f.offset)) = [("Count", 3, 0), ("Epoch", 3, 1), ("Sides", 70, 2), ("Root", 9, 34)] := by kernel_rfl
section
variable (c e : Int) (f : Nat → Bool) (r : ByteArray) (w : World)
theorem pt0 : (part 3 (supA c e f r) 0).run Tryz.prog w = .ok (.int .i64 c) w := by simp [part, Tryz.isAgg3, supA_0]
theorem pt1 : (part 3 (supA c e f r) 1).run Tryz.prog w = .ok (.int .i64 e) w := by simp [part, Tryz.isAgg3, supA_1]
theorem pt3 : (part 9 (supA c e f r) 34).run Tryz.prog w = .ok (.string r) w := by simp [part, Tryz.isAgg9, supA_34]
theorem pt2 : (part 70 (supA c e f r) 2).run Tryz.prog w = .ok (.agg (bl 32 f)) w := by
  have := supA_sides c e f r
  simp [part, Tryz.isAgg70, Tryz.sizeOf70, this]
end
theorem eq_superD (d : Nat) (c e : Int) (f : Nat → Bool) (r : ByteArray) (w : World) : (Op.equalIn (d + 3) 72 (.agg (supA c e f r)) (.agg (supA c e f r))).run Tryz.prog w = .ok true w := by
  rw [run_equalIn_struct w (d + 2) _ _ _ fields93 held93]
  have hm := fl93
  obtain ⟨n0, l0, e0, h0, hm⟩ := List.map_eq_cons_iff.1 hm
  obtain ⟨n1, l1, e1, h1, hm⟩ := List.map_eq_cons_iff.1 hm
  obtain ⟨n2, l2, e2, h2, hm⟩ := List.map_eq_cons_iff.1 hm
  obtain ⟨n3, l3, e3, h3, hm⟩ := List.map_eq_cons_iff.1 hm
  obtain rfl := List.map_eq_nil_iff.1 hm
  have hn := e0
  rw [e1, e2, e3] at hn
  simp only [Prod.mk.injEq] at h0 h1 h2 h3
  have i0 : ¬ n0.name = "_" := by rw [h0.1]; simp
  have i1 : ¬ n1.name = "_" := by rw [h1.1]; simp
  have i2 : ¬ n2.name = "_" := by rw [h2.1]; simp
  have i3 : ¬ n3.name = "_" := by rw [h3.1]; simp
  replace h0 := h0.2
  replace h1 := h1.2
  replace h2 := h2.2
  replace h3 := h3.2
  rw [hn]
  simp only [Op.eqFields, i0, i1, i2, i3, h0, h1, h2, h3, pt0, pt1, pt2, pt3, Sem.run_bind, Result.andThen_ok, run_equalIn_int w (d + 1) 3 _ _ _ _ Tryz.underlying3, eq_sides d f w, run_equalIn_string w (d + 1) 9 _ _ Tryz.underlying9, beq_self_eq_true, ne_eq, not_false_eq_true, if_true, Bool.not_true, Bool.false_eq_true, if_false, Sem.run_pure]
theorem eq_super (c e : Int) (f : Nat → Bool) (r : ByteArray) (w : World) : (Op.equalIn 10000 72 (.agg (supA c e f r)) (.agg (supA c e f r))).run Tryz.prog w = .ok true w := by
  rw [show (10000 : Nat) = 9997 + 3 from rfl]
  exact eq_superD 9997 c e f r w
theorem ne_super (c e : Int) (f : Nat → Bool) (r : ByteArray) (w : World) : (binOp .neq 72 (.agg (supA c e f r)) (.agg (supA c e f r))).run Tryz.prog w = .ok (.bool false) w := by
  rw [run_neq_struct, eq_super]
  rfl
end Go.Proofs.YtkapkphhceknfaaGreatDoor.Su
