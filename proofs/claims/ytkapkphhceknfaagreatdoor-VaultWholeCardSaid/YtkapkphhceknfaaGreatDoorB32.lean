/-
  Part of the proof: what is written, by closures, is walked: pages, Sync, what tells of all, Sync, the counter.
-/
import Derived.Test.YtkapkphhceknfaaGreatDoorB31
namespace Go.Proofs.YtkapkphhceknfaaGreatDoor.Vt
open Go.RowKit
theorem chg_then {w w' w'' : World} {O O' : Nat → Prop} (h : Dv.Chg w w' O) (u : Dv.Chg w' w'' O') (ho : ∀ k, k < w.heap.size → O' k → O k) : Dv.Chg w w'' O :=
  ⟨u.os.trans h.os, u.tape.trans h.tape, u.output.trans h.output, Nat.le_trans h.size u.size, fun k hk hne => (u.block k (Nat.lt_of_lt_of_le hk h.size) (fun e => hne (ho k hk e))).trans (h.block k hk hne)⟩
theorem burnt_none : Dv.burnt (-1) = -1 := by decide
set_option maxRecDepth 100000 in
set_option maxHeartbeats 400000 in
theorem w21_any (Bv Bb vb d : Nat) (O : Nat → Prop) (S : Nat → Nat → UInt8) (W : List (Nat × (Nat → UInt8))) (v : Value) (lf : Int) (k : Nat) (s : ByteArray) (w : World) (jv : Blk w Bv #[.pointer (some ⟨vb, 0, none⟩)] 29) (jb : Blk w Bb #[.int .i64 (k : Int), .string s] 97)
    (hc : w.cell? ⟨vb, 0, none⟩ = some (.pointer (some ⟨d, 0, none⟩))) (hD : Dv.Dev w O d S W (-1) v lf) (hk : k < 66) (hs : s.size ≤ 256) (hW : W.length < 1000) :
    Calls Tryz.prog 60 #[.pointer (some ⟨Bv, 0, none⟩), .pointer (some ⟨Bb, 0, none⟩)] w fun e w' => e = .returned .nilIface ∧ (∃ v' l', Dv.Dev w' (Dv.gro O w w') d S (W ++ [(k, Dv.bAt s)]) (-1) v' l') ∧ Dv.Chg w w' O := by
  have a0 := jv.cell 0
  have b0 := jb.cell 0
  have b1 := jb.cell 1
  go_enter Tryz.func60, Tryz.ntmps60
  go_wp2_with fail
  refine region_s [(0, false), (1, true), (2, true), (3, false), (4, true), (5, false), (6, true), (7, false)] [] [8, 9] (fun w' => w' = w.drew) Tr.mixed (by kernel_rfl) (fun _ _ _ _ _ h => h) rfl ?_
  have a0' : w.drew.cell? ⟨Bv, 0, none⟩ = some (.pointer (some ⟨vb, 0, none⟩)) := a0
  have hc' : w.drew.cell? ⟨vb, 0, none⟩ = some (.pointer (some ⟨d, 0, none⟩)) := hc
  have b0' : w.drew.cell? ⟨Bb, 0, none⟩ = some (.int .i64 (k : Int)) := b0
  have b1' : w.drew.cell? ⟨Bb, 1, none⟩ = some (.string s) := b1
  refine lead_read _ rfl _ rfl rfl (.pointer (some ⟨vb, 0, none⟩)) (fun w' hS => by subst hS; go_simp) ?_
  refine lead_pure _ rfl _ rfl rfl (.pointer (some ⟨vb, 0, none⟩)) (fun w' => by go_simp) ?_
  refine lead_pure _ rfl _ rfl rfl (.pointer (some ⟨vb, 0, none⟩)) (fun w' => by go_simp) ?_
  refine lead_read _ rfl _ rfl rfl (.pointer (some ⟨d, 0, none⟩)) (fun w' hS => by subst hS; go_simp) ?_
  refine lead_pure _ rfl _ rfl rfl (.pointer (some ⟨Bb, 0, none⟩)) (fun w' => by go_simp) ?_
  refine lead_read _ rfl _ rfl rfl (.int .i64 (k : Int)) (fun w' hS => by subst hS; go_simp) ?_
  refine lead_pure _ rfl _ rfl rfl (.pointer (some ⟨Bb, 1, none⟩)) (fun w' => by go_simp) ?_
  refine lead_read _ rfl _ rfl rfl (.string s) (fun w' hS => by subst hS; go_simp) ?_
  simp only [lead_nil_eq]
  simp only [Act.put, List.setIfInBounds_toArray, List.set_cons_succ, List.set_cons_zero]
  simp only [mid_nil_eq]
  simp only [List.filterMap_cons, List.getElem?_toArray, List.getElem?_cons_succ, List.getElem?_cons_zero, List.filterMap_nil]
  go_wp2_with fail
  refine (Dv.write_ok d O S W (-1) v lf k s _ (hD.drewN 1) (by decide) hk hs hW).mono ?_
  rintro e w4 ⟨rfl, ⟨v4, l4, hD4⟩, C4⟩
  rw [burnt_none] at hD4
  go_wp2_with fail
  go_ret
  exact ⟨rfl, ⟨v4, l4, hD4⟩, ⟨C4.os, C4.tape, C4.output, C4.size, C4.block⟩⟩
set_option maxRecDepth 100000 in
set_option maxHeartbeats 400000 in
theorem w3_any (Bv Bn vb c : Nat) (n m : Int) (w : World) (jv : Blk w Bv #[.pointer (some ⟨vb, 0, none⟩)] 29) (jn : Blk w Bn #[.int .i64 m] 3)
    (hc : w.cell? ⟨vb, 1, none⟩ = some (.pointer (some ⟨c, 0, none⟩))) (hC : Dv.Cnt w c n) (hm : n < m) :
    Calls Tryz.prog 63 #[.pointer (some ⟨Bv, 0, none⟩), .pointer (some ⟨Bn, 0, none⟩)] w fun e w' => e = .returned .nilIface ∧ Dv.Cnt w' c m ∧ Upd w w' c := by
  have a0 := jv.cell 0
  have b0 := jn.cell 0
  go_enter Tryz.func63, Tryz.ntmps63
  go_wp2_with fail
  refine region_s [(0, false), (1, true), (2, true), (3, false), (4, false)] [] [5, 6] (fun w' => w' = w.drew) Tr.mixed (by kernel_rfl) (fun _ _ _ _ _ h => h) rfl ?_
  have a0' : w.drew.cell? ⟨Bv, 0, none⟩ = some (.pointer (some ⟨vb, 0, none⟩)) := a0
  have hc' : w.drew.cell? ⟨vb, 1, none⟩ = some (.pointer (some ⟨c, 0, none⟩)) := hc
  have b0' : w.drew.cell? ⟨Bn, 0, none⟩ = some (.int .i64 m) := b0
  refine lead_read _ rfl _ rfl rfl (.pointer (some ⟨vb, 0, none⟩)) (fun w' hS => by subst hS; go_simp) ?_
  refine lead_pure _ rfl _ rfl rfl (.pointer (some ⟨vb, 0, none⟩)) (fun w' => by go_simp) ?_
  refine lead_pure _ rfl _ rfl rfl (.pointer (some ⟨vb, 1, none⟩)) (fun w' => by go_simp) ?_
  refine lead_read _ rfl _ rfl rfl (.pointer (some ⟨c, 0, none⟩)) (fun w' hS => by subst hS; go_simp) ?_
  refine lead_read _ rfl _ rfl rfl (.int .i64 m) (fun w' hS => by subst hS; go_simp) ?_
  simp only [lead_nil_eq]
  simp only [Act.put, List.setIfInBounds_toArray, List.set_cons_succ, List.set_cons_zero]
  simp only [mid_nil_eq]
  simp only [List.filterMap_cons, List.getElem?_toArray, List.getElem?_cons_succ, List.getElem?_cons_zero, List.filterMap_nil]
  go_wp2_with fail
  refine (Dv.raise_yes c n m _ (hC.drewN 1) hm).mono ?_
  rintro e w4 ⟨rfl, C4, hu4⟩
  go_wp2_with fail
  go_ret
  exact ⟨rfl, C4, ⟨hu4.os, hu4.tape, hu4.output, hu4.size, hu4.block⟩⟩
/-- What a closure leaves behind beside the device: the error's cell. -/
theorem dev_put {w w1 w2 : World} {O : Nat → Prop} {d Bf : Nat} {S : Nat → Nat → UInt8} {W : List (Nat × (Nat → UInt8))} {F : Int} {v : Value} {lf : Int} (h : Dv.Dev w1 (Dv.gro O w w1) d S W F v lf) (hu : Upd w1 w2 Bf) (nf : ¬ O Bf) (hl : Bf < w.heap.size) : Dv.Dev w2 (Dv.gro O w w2) d S W F v lf := by
  have C : Dv.Chg w1 w2 (fun k => k = Bf) := (Dv.Chg.refl w1 _).upd hu (Or.inl rfl)
  refine (h.chg C (fun k hk e => ?_)).mono (fun k hk => ?_)
  · subst e
    rcases hk with hk | hk
    · exact nf hk
    · omega
  · rcases hk with hk | ⟨h1, h2⟩
    · exact Or.inl hk
    · exact Or.inr ⟨h1, by rw [hu.size]; exact h2⟩
theorem dev_put' {w1 w2 : World} {O : Nat → Prop} {d Bf : Nat} {S : Nat → Nat → UInt8} {W : List (Nat × (Nat → UInt8))} {F : Int} {v : Value} {lf : Int} (h : Dv.Dev w1 O d S W F v lf) (hu : Upd w1 w2 Bf) (nf : ¬ O Bf) : Dv.Dev w2 O d S W F v lf :=
  h.chg ((Dv.Chg.refl w1 (fun k => k = Bf)).upd hu (Or.inl rfl)) (fun k hk e => by subst e; exact nf hk)
set_option maxRecDepth 100000 in
set_option maxHeartbeats 400000 in
theorem do_write (Bf Bv Bb vb d : Nat) (O : Nat → Prop) (S : Nat → Nat → UInt8) (W : List (Nat × (Nat → UInt8))) (v : Value) (lf : Int) (k : Nat) (s : ByteArray) (w : World) (jf : Blk w Bf #[.nilIface] 36) (jv : Blk w Bv #[.pointer (some ⟨vb, 0, none⟩)] 29) (jb : Blk w Bb #[.int .i64 (k : Int), .string s] 97)
    (hc : w.cell? ⟨vb, 0, none⟩ = some (.pointer (some ⟨d, 0, none⟩))) (hD : Dv.Dev w O d S W (-1) v lf) (hk : k < 66) (hs : s.size ≤ 256) (hW : W.length < 1000) (nf : ¬ O Bf) :
    Calls Tryz.prog 58 #[.func (.func 60) #[] #[.pointer (some ⟨Bv, 0, none⟩), .pointer (some ⟨Bb, 0, none⟩)], .pointer (some ⟨Bf, 0, none⟩)] w fun e w' => e = .returned (.tuple #[]) ∧ Blk w' Bf #[.nilIface] 36 ∧ (∃ v' l', Dv.Dev w' (Dv.gro O w w') d S (W ++ [(k, Dv.bAt s)]) (-1) v' l') ∧ Dv.Chg w w' (fun k => O k ∨ k = Bf) := by
  have f0 := jf.cell 0
  go_enter Tryz.func58, Tryz.ntmps58
  go_wp2_with fail
  refine (w21_any Bv Bb vb d O S W v lf k s w jv jb hc hD hk hs hW).mono ?_
  rintro e w4 ⟨rfl, ⟨v4, l4, hD4⟩, C4⟩
  have jf4 := jf.chg C4 nf
  have f4 := jf4.cell 0
  have z4 := jf4.frozen 0
  go_wp2_with fail
  go_end0
  exact ⟨rfl, jf4.set 0 .nilIface, ⟨v4, l4, dev_put hD4 (setCell_upd _ _ _ _) nf jf.lt⟩, (C4.mono fun k _ h => Or.inl h).upd (setCell_upd _ _ _ _) (Or.inl (Or.inr rfl))⟩
set_option maxRecDepth 100000 in
set_option maxHeartbeats 400000 in
theorem do_sync (Bf d : Nat) (O : Nat → Prop) (S : Nat → Nat → UInt8) (W : List (Nat × (Nat → UInt8))) (v : Value) (lf : Int) (w : World) (jf : Blk w Bf #[.nilIface] 36) (hD : Dv.Dev w O d S W (-1) v lf) (nf : ¬ O Bf) :
    Calls Tryz.prog 58 #[.func (.func 62) #[.pointer (some ⟨d, 0, none⟩)] #[], .pointer (some ⟨Bf, 0, none⟩)] w fun e w' => e = .returned (.tuple #[]) ∧ Blk w' Bf #[.nilIface] 36 ∧ (∃ l', Dv.Dev w' O d (Dv.loseS S W (fun _ => true) W.length) [] (-1) (.slice none 0 0) l') ∧ Dv.Chg w w' (fun k => O k ∨ k = Bf) := by
  have f0 := jf.cell 0
  go_enter Tryz.func58, Tryz.ntmps58
  go_wp2_with fail
  refine (Dv.sync_ok d O S W (-1) v lf w hD (by decide)).mono ?_
  rintro e w4 ⟨rfl, ⟨l4, hD4⟩, C4⟩
  rw [burnt_none] at hD4
  have jf4 := jf.chg C4 nf
  have f4 := jf4.cell 0
  have z4 := jf4.frozen 0
  go_wp2_with fail
  go_end0
  exact ⟨rfl, jf4.set 0 .nilIface, ⟨l4, dev_put' hD4 (setCell_upd _ _ _ _) nf⟩, (C4.mono fun k _ h => Or.inl h).upd (setCell_upd _ _ _ _) (Or.inl (Or.inr rfl))⟩
set_option maxRecDepth 100000 in
set_option maxHeartbeats 400000 in
theorem do_raise (Bf Bv Bn vb c : Nat) (n m : Int) (w : World) (jf : Blk w Bf #[.nilIface] 36) (jv : Blk w Bv #[.pointer (some ⟨vb, 0, none⟩)] 29) (jn : Blk w Bn #[.int .i64 m] 3)
    (hc : w.cell? ⟨vb, 1, none⟩ = some (.pointer (some ⟨c, 0, none⟩))) (hC : Dv.Cnt w c n) (hm : n < m) (nf : c ≠ Bf) :
    Calls Tryz.prog 58 #[.func (.func 63) #[] #[.pointer (some ⟨Bv, 0, none⟩), .pointer (some ⟨Bn, 0, none⟩)], .pointer (some ⟨Bf, 0, none⟩)] w fun e w' => e = .returned (.tuple #[]) ∧ Blk w' Bf #[.nilIface] 36 ∧ Dv.Cnt w' c m ∧ Dv.Chg w w' (fun k => k = c ∨ k = Bf) := by
  have f0 := jf.cell 0
  go_enter Tryz.func58, Tryz.ntmps58
  go_wp2_with fail
  refine (w3_any Bv Bn vb c n m w jv jn hc hC hm).mono ?_
  rintro e w4 ⟨rfl, C4, hu4⟩
  have jf4 := jf.upd hu4 (Ne.symm nf)
  have f4 := jf4.cell 0
  have z4 := jf4.frozen 0
  go_wp2_with fail
  go_end0
  exact ⟨rfl, jf4.set 0 .nilIface, C4.upd (setCell_upd _ _ _ _) nf, ((Dv.Chg.refl w _).upd hu4 (Or.inl (Or.inl rfl))).upd (setCell_upd _ _ _ _) (Or.inl (Or.inr rfl))⟩
abbrev doV (Bf : Nat) : Value := .func (.func 58) #[] #[.pointer (some ⟨Bf, 0, none⟩)]
set_option maxRecDepth 100000 in
set_option maxHeartbeats 400000 in
theorem put_any (Bd Bf Bv vb d : Nat) (VA : Array Value) (O : Nat → Prop) (S : Nat → Nat → UInt8) (W : List (Nat × (Nat → UInt8))) (v : Value) (lf : Int) (k : Nat) (s : ByteArray) (w : World) (jd : Blk w Bd #[doV Bf] 121) (jf : Blk w Bf #[.nilIface] 36) (jv : Blk w Bv #[.pointer (some ⟨vb, 0, none⟩)] 29)
    (jV : Blk w vb VA 76) (hc : VA[0]? = some (.pointer (some ⟨d, 0, none⟩))) (hD : Dv.Dev w O d S W (-1) v lf) (hk : k < 66) (hs : s.size ≤ 256) (hW : W.length < 1000) (nf : ¬ O Bf) :
    Calls Tryz.prog 59 #[.agg #[.int .i64 (k : Int), .string s], .pointer (some ⟨Bd, 0, none⟩), .pointer (some ⟨Bv, 0, none⟩)] w fun e w' => e = .returned (.tuple #[]) ∧ Blk w' Bf #[.nilIface] 36 ∧ (∃ v' l', Dv.Dev w' (Dv.gro O w w') d S (W ++ [(k, Dv.bAt s)]) (-1) v' l') ∧ Dv.Chg w w' (fun k => O k ∨ k = Bf) := by
  have g0 := Pg.below_alloc w (.cells #[.int .i64 (k : Int), .string s] 97)
  have c0 := (jd.below g0 jd.lt).cell 0
  go_enter Tryz.func59, Tryz.ntmps59
  go_wp2_with fail
  refine (do_write Bf Bv w.heap.size vb d O S W v lf k s _ (jf.below g0 jf.lt) (jv.below g0 jv.lt) (Blk.new w _ _) (by rw [(jV.below g0 jV.lt).cell, hc]) (hD.below g0) hk hs hW nf).mono ?_
  rintro e w4 ⟨rfl, j4, ⟨v4, l4, hD4⟩, C4⟩
  go_wp2_with fail
  go_end0
  refine ⟨rfl, j4, ⟨v4, l4, hD4.mono fun q hq => ?_⟩, chg_then ((Dv.Chg.refl w _).below g0) C4 fun q _ h => h⟩
  rcases hq with hq | ⟨h1, h2⟩
  · exact Or.inl hq
  · exact Or.inr ⟨by simp at h1; omega, h2⟩
/-- What lies in memory while it is written. -/
structure Wr (W : World) (w : World) (O : Nat → Prop) (B vb d c : Nat) (VA : Array Value) (at' : Int) (top : ByteArray) (n m : Int) : Prop where
  jv : Blk W B #[.pointer (some ⟨vb, 0, none⟩)] 29
  jt : Blk W (B + 1) #[.int .i64 at', .string top] 97
  jn : Blk W (B + 2) #[.int .i64 m] 3
  jf : Blk W (B + 3) #[.nilIface] 36
  jd : Blk W (B + 4) #[doV (B + 3)] 121
  jV : Blk W vb VA 76
  jc : Dv.Cnt W c n
  lo : Dv.Chg w W O
  h1 : w.heap.size = B
  h2 : vb < B
  h3 : c < B
  o2 : ¬ O vb
  o3 : ¬ O c
  o4 : vb ≠ c
theorem Wr.step {W W' w : World} {O P : Nat → Prop} {B vb d c : Nat} {VA : Array Value} {at' : Int} {top : ByteArray} {n m : Int} (h : Wr W w O B vb d c VA at' top n m) (C : Dv.Chg W W' (fun k => P k ∨ k = B + 3)) (hP : ∀ k, P k → O k ∨ (B + 5 ≤ k)) (jf : Blk W' (B + 3) #[.nilIface] 36) (hO : ∀ k, O k → k < B) : Wr W' w O B vb d c VA at' top n m := by
  have no : ∀ k, k < B + 5 → ¬ O k → k ≠ B + 3 → ¬ (P k ∨ k = B + 3) := fun k h1 h2 h3 h4 => by
    rcases h4 with h4 | h4
    · rcases hP k h4 with h5 | h5
      · exact h2 h5
      · omega
    · exact h3 h4
  have nB : ∀ k, B ≤ k → ¬ O k := fun k h1 h2 => absurd (hO k h2) (by omega)
  exact ⟨h.jv.chg C (no _ (by omega) (nB _ (by omega)) (by omega)), h.jt.chg C (no _ (by omega) (nB _ (by omega)) (by omega)), h.jn.chg C (no _ (by omega) (nB _ (by omega)) (by omega)), jf, h.jd.chg C (no _ (by omega) (nB _ (by omega)) (by omega)),
    h.jV.chg C (no _ (by have := h.h2; omega) h.o2 (by have := h.h2; omega)), h.jc.chg C (no _ (by have := h.h3; omega) h.o3 (by have := h.h3; omega)), chg_then h.lo C (fun k hk e => by
      have hB := h.h1
      rcases e with e | e
      · rcases hP k e with e | e
        · exact e
        · omega
      · omega), h.h1, h.h2, h.h3, h.o2, h.o3, h.o4⟩
end Go.Proofs.YtkapkphhceknfaaGreatDoor.Vt
