/-
  Part of the proof: what is written, by closures, with a fuse: each step is done, or fails and stops all that follow.
  Part of the proof: what is written, by closures, with a fuse: a block put, the counter raised, and what lies in memory meanwhile.
  Part of the proof: what is written, by closures, with a fuse: pages, Sync, what tells of all, Sync, the counter.
-/
import Derived.Test.YtkapkphhceknfaaGreatDoorB20
namespace Go.Proofs.YtkapkphhceknfaaGreatDoor.Vt
open Go.RowKit
/-- The device's blocks, what is pending, the fuse, and whether a step has failed. -/
structure Fz where
  S : Nat → Nat → UInt8
  W : List (Nat × (Nat → UInt8))
  F : Int
  b : Bool
def Fz.wr (x : Fz) (k : Nat) (s : ByteArray) : Fz := if x.b = true then x else if x.F = 0 then ⟨x.S, x.W, x.F, true⟩ else ⟨x.S, x.W ++ [(k, Dv.bAt s)], Dv.burnt x.F, false⟩
def Fz.sy (x : Fz) : Fz := if x.b = true then x else if x.F = 0 then ⟨x.S, x.W, x.F, true⟩ else ⟨Dv.loseS x.S x.W (fun _ => true) x.W.length, [], Dv.burnt x.F, false⟩
def errF (b : Bool) : Value := if b then Dv.errI 14 else .nilIface
/-- The device is so. -/
def Fz.At (x : Fz) (w : World) (O : Nat → Prop) (d : Nat) : Prop := ∃ v lf, Dv.Dev w O d x.S x.W x.F v lf
theorem Fz.At.mono {x : Fz} {w : World} {O P : Nat → Prop} {d : Nat} (h : x.At w O d) (hp : ∀ k, O k → P k) : x.At w P d := by
  obtain ⟨v, lf, h⟩ := h; exact ⟨v, lf, h.mono hp⟩
set_option maxRecDepth 100000 in
set_option maxHeartbeats 400000 in
theorem w21F (Bv Bb vb d : Nat) (O : Nat → Prop) (x : Fz) (k : Nat) (s : ByteArray) (w : World) (hb : x.b = false) (jv : Blk w Bv #[.pointer (some ⟨vb, 0, none⟩)] 29) (jb : Blk w Bb #[.int .i64 (k : Int), .string s] 97)
    (hc : w.cell? ⟨vb, 0, none⟩ = some (.pointer (some ⟨d, 0, none⟩))) (hD : x.At w O d) (hk : k < 66) (hs : s.size ≤ 256) (hW : x.W.length < 1000) :
    Calls Tryz.prog 60 #[.pointer (some ⟨Bv, 0, none⟩), .pointer (some ⟨Bb, 0, none⟩)] w fun e w' => e = .returned (errF (x.wr k s).b) ∧ (x.wr k s).At w' (Dv.gro O w w') d ∧ Dv.Chg w w' O := by
  have hmain : Calls Tryz.prog 61 #[.pointer (some ⟨d, 0, none⟩), .int .i64 (k : Int), .string s] w.drew fun e w' => e = .returned (errF (x.wr k s).b) ∧ (x.wr k s).At w' (Dv.gro O w w') d ∧ Dv.Chg w w' O := by
    obtain ⟨v, lf, hD⟩ := hD
    by_cases h0 : x.F = 0
    · have e : x.wr k s = ⟨x.S, x.W, x.F, true⟩ := by unfold Fz.wr; rw [hb, h0]; simp
      rw [e]
      have hD0 : Dv.Dev w O d x.S x.W 0 v lf := by rw [← h0]; exact hD
      refine (Dv.write_spent d O x.S x.W v lf (k : Int) s w.drew (hD0.drewN 1) (by omega) hs).mono ?_
      rintro e w4 ⟨rfl, ⟨l4, hD4⟩, hu4⟩
      refine ⟨rfl, ⟨v, l4, by rw [h0]; exact hD4.mono fun k h => Or.inl h⟩, ⟨hu4.os, hu4.tape, hu4.output, Nat.le_of_eq hu4.size.symm, fun q hq hne => hu4.block q fun e => hne (e ▸ hD.own)⟩⟩
    · have e : x.wr k s = ⟨x.S, x.W ++ [(k, Dv.bAt s)], Dv.burnt x.F, false⟩ := by unfold Fz.wr; rw [hb]; simp [h0]
      rw [e]
      refine (Dv.write_ok d O x.S x.W x.F v lf k s _ (hD.drewN 1) h0 hk hs hW).mono ?_
      rintro e w4 ⟨rfl, ⟨v4, l4, hD4⟩, C4⟩
      exact ⟨rfl, ⟨v4, l4, hD4⟩, ⟨C4.os, C4.tape, C4.output, C4.size, C4.block⟩⟩
  have HM : Hid _ := hmain
  have a0 := jv.cell 0
  have b0 := jb.cell 0
  have b1 := jb.cell 1
  clear hmain hD
  generalize x.wr k s = y at *
  go_enter Tryz.func60, Tryz.ntmps60
  go_wp2_with fail
  refine region_s [(0, false), (1, true), (2, true), (3, false), (4, true), (5, false), (6, true), (7, false)] [] [8, 9] (fun w' => w' = w.drew) Tr.mixed (by kernel_rfl) (fun _ _ _ _ _ h => h) rfl ?_
  have a0' : w.drew.cell? ⟨Bv, 0, none⟩ = some (.pointer (some ⟨vb, 0, none⟩)) := a0
  have hc' : w.drew.cell? ⟨vb, 0, none⟩ = some (.pointer (some ⟨d, 0, none⟩)) := hc
  have b0' : w.drew.cell? ⟨Bb, 0, none⟩ = some (.int .i64 (k : Int)) := b0
  have b1' : w.drew.cell? ⟨Bb, 1, none⟩ = some (.string s) := b1
  refine lead_read _ rfl _ rfl rfl (.pointer (some ⟨vb, 0, none⟩)) (fun w' hS => by subst hS; go_simp) ?_
  refine lead_pure _ rfl _ rfl rfl (.pointer (some ⟨vb, 0, none⟩)) (fun w' => by go_simp) ?_
  refine lead_pure _ rfl _ rfl rfl (.pointer (some ⟨vb, 0, none⟩)) (fun w' => by go_simp) ?_
  refine lead_read _ rfl _ rfl rfl (.pointer (some ⟨d, 0, none⟩)) (fun w' hS => by subst hS; go_simp) ?_
  refine lead_pure _ rfl _ rfl rfl (.pointer (some ⟨Bb, 0, none⟩)) (fun w' => by go_simp) ?_
  refine lead_read _ rfl _ rfl rfl (.int .i64 (k : Int)) (fun w' hS => by subst hS; go_simp) ?_
  refine lead_pure _ rfl _ rfl rfl (.pointer (some ⟨Bb, 1, none⟩)) (fun w' => by go_simp) ?_
  refine lead_read _ rfl _ rfl rfl (.string s) (fun w' hS => by subst hS; go_simp) ?_
  simp only [lead_nil_eq]
  simp only [Act.put, List.setIfInBounds_toArray, List.set_cons_succ, List.set_cons_zero]
  simp only [mid_nil_eq]
  simp only [List.filterMap_cons, List.getElem?_toArray, List.getElem?_cons_succ, List.getElem?_cons_zero, List.filterMap_nil]
  go_wp2_with fail
  refine Calls.mono HM.out ?_
  rintro e w4 ⟨rfl, hD4, C4⟩
  go_wp2_with fail
  go_ret
  exact ⟨rfl, hD4, C4⟩
/-- What a closure leaves behind beside the device: the error's cell. -/
theorem Fz.put {x : Fz} {w w1 w2 : World} {O : Nat → Prop} {d Bf : Nat} (h : x.At w1 (Dv.gro O w w1) d) (hu : Upd w1 w2 Bf) (nf : ¬ O Bf) (hl : Bf < w.heap.size) : x.At w2 (Dv.gro O w w2) d := by
  obtain ⟨v, lf, h⟩ := h; exact ⟨v, lf, dev_put h hu nf hl⟩
theorem err_nil : (Value.nilIface) = errF false := rfl
set_option maxRecDepth 100000 in
set_option maxHeartbeats 400000 in
theorem do_writeF (Bf Bv Bb vb d : Nat) (O : Nat → Prop) (x : Fz) (k : Nat) (s : ByteArray) (w : World) (jf : Blk w Bf #[errF x.b] 36) (jv : Blk w Bv #[.pointer (some ⟨vb, 0, none⟩)] 29) (jb : Blk w Bb #[.int .i64 (k : Int), .string s] 97)
    (hc : w.cell? ⟨vb, 0, none⟩ = some (.pointer (some ⟨d, 0, none⟩))) (hD : x.At w O d) (hk : k < 66) (hs : s.size ≤ 256) (hW : x.W.length < 1000) (nf : ¬ O Bf) :
    Calls Tryz.prog 58 #[.func (.func 60) #[] #[.pointer (some ⟨Bv, 0, none⟩), .pointer (some ⟨Bb, 0, none⟩)], .pointer (some ⟨Bf, 0, none⟩)] w fun e w' => e = .returned (.tuple #[]) ∧ Blk w' Bf #[errF (x.wr k s).b] 36 ∧ (x.wr k s).At w' (Dv.gro O w w') d ∧ Dv.Chg w w' (fun k => O k ∨ k = Bf) := by
  cases hb : x.b with
  | true =>
    rw [hb] at jf
    have f0 : w.cell? ⟨Bf, 0, none⟩ = some (.iface 41 (.int .i64 14)) := jf.cell 0
    have e : x.wr k s = x := by unfold Fz.wr; rw [if_pos hb]
    rw [e, hb]
    have HD : Hid _ := hD
    clear hD
    go_enter Tryz.func58, Tryz.ntmps58
    go_wp2_with fail
    go_end0
    exact ⟨rfl, jf, Fz.At.mono HD.out fun k h => Or.inl h, Dv.Chg.refl _ _⟩
  | false =>
    rw [hb] at jf
    have f0 : w.cell? ⟨Bf, 0, none⟩ = some .nilIface := jf.cell 0
    have HW := w21F Bv Bb vb d O x k s w hb jv jb hc hD hk hs hW
    clear hD
    generalize x.wr k s = y at *
    go_enter Tryz.func58, Tryz.ntmps58
    go_wp2_with fail
    refine HW.mono ?_
    rintro e w4 ⟨rfl, hD4, C4⟩
    have jf4 := jf.chg C4 nf
    have f4 := jf4.cell 0
    have z4 := jf4.frozen 0
    cases hy : y.b with
    | true =>
      rw [show errF true = .iface 41 (.int .i64 14) from rfl]
      go_wp2_with fail
      go_end0
      rw [hy, show errF true = .iface 41 (.int .i64 14) from rfl]
      exact ⟨rfl, jf4.set 0 (.iface 41 (.int .i64 14)), Fz.put hD4 (setCell_upd _ _ _ _) nf jf.lt, (C4.mono fun k _ h => Or.inl h).upd (setCell_upd _ _ _ _) (Or.inl (Or.inr rfl))⟩
    | false =>
      rw [show errF false = .nilIface from rfl]
      go_wp2_with fail
      go_end0
      rw [hy, show errF false = .nilIface from rfl]
      exact ⟨rfl, jf4.set 0 (.nilIface), Fz.put hD4 (setCell_upd _ _ _ _) nf jf.lt, (C4.mono fun k _ h => Or.inl h).upd (setCell_upd _ _ _ _) (Or.inl (Or.inr rfl))⟩
set_option maxRecDepth 100000 in
set_option maxHeartbeats 400000 in
theorem do_syncF (Bf d : Nat) (O : Nat → Prop) (x : Fz) (w : World) (jf : Blk w Bf #[errF x.b] 36) (hD : x.At w O d) (nf : ¬ O Bf) :
    Calls Tryz.prog 58 #[.func (.func 62) #[.pointer (some ⟨d, 0, none⟩)] #[], .pointer (some ⟨Bf, 0, none⟩)] w fun e w' => e = .returned (.tuple #[]) ∧ Blk w' Bf #[errF x.sy.b] 36 ∧ x.sy.At w' O d ∧ Dv.Chg w w' (fun k => O k ∨ k = Bf) := by
  cases hb : x.b with
  | true =>
    rw [hb] at jf
    have f0 : w.cell? ⟨Bf, 0, none⟩ = some (.iface 41 (.int .i64 14)) := jf.cell 0
    have e : x.sy = x := by unfold Fz.sy; rw [if_pos hb]
    rw [e, hb]
    have HD : Hid _ := hD
    clear hD
    go_enter Tryz.func58, Tryz.ntmps58
    go_wp2_with fail
    go_end0
    exact ⟨rfl, jf, HD.out, Dv.Chg.refl _ _⟩
  | false =>
    rw [hb] at jf
    have f0 : w.cell? ⟨Bf, 0, none⟩ = some .nilIface := jf.cell 0
    have HW : Calls Tryz.prog 62 #[.pointer (some ⟨d, 0, none⟩)] w fun e w' => e = .returned (errF x.sy.b) ∧ x.sy.At w' O d ∧ Dv.Chg w w' O := by
      obtain ⟨v, lf, hD⟩ := hD
      by_cases h0 : x.F = 0
      · have e : x.sy = ⟨x.S, x.W, x.F, true⟩ := by unfold Fz.sy; rw [hb, h0]; simp
        rw [e]
        have hD0 : Dv.Dev w O d x.S x.W 0 v lf := by rw [← h0]; exact hD
        refine (Dv.sync_spent d O x.S x.W v lf w hD0).mono ?_
        rintro e w4 ⟨rfl, ⟨l4, hD4⟩, hu4⟩
        exact ⟨rfl, ⟨v, l4, by rw [h0]; exact hD4⟩, (Dv.Chg.refl w O).upd hu4 (Or.inl hD.own)⟩
      · have e : x.sy = ⟨Dv.loseS x.S x.W (fun _ => true) x.W.length, [], Dv.burnt x.F, false⟩ := by unfold Fz.sy; rw [hb]; simp [h0]
        rw [e]
        refine (Dv.sync_ok d O x.S x.W x.F v lf w hD h0).mono ?_
        rintro e w4 ⟨rfl, ⟨l4, hD4⟩, C4⟩
        exact ⟨rfl, ⟨_, l4, hD4⟩, C4⟩
    clear hD
    generalize x.sy = y at *
    go_enter Tryz.func58, Tryz.ntmps58
    go_wp2_with fail
    refine HW.mono ?_
    rintro e w4 ⟨rfl, hD4, C4⟩
    have jf4 := jf.chg C4 nf
    have f4 := jf4.cell 0
    have z4 := jf4.frozen 0
    obtain ⟨v4, l4, hD4⟩ := hD4
    cases hy : y.b with
    | true =>
      rw [show errF true = .iface 41 (.int .i64 14) from rfl]
      go_wp2_with fail
      go_end0
      rw [hy, show errF true = .iface 41 (.int .i64 14) from rfl]
      exact ⟨rfl, jf4.set 0 (.iface 41 (.int .i64 14)), ⟨v4, l4, dev_put' hD4 (setCell_upd _ _ _ _) nf⟩, (C4.mono fun k _ h => Or.inl h).upd (setCell_upd _ _ _ _) (Or.inl (Or.inr rfl))⟩
    | false =>
      rw [show errF false = .nilIface from rfl]
      go_wp2_with fail
      go_end0
      rw [hy, show errF false = .nilIface from rfl]
      exact ⟨rfl, jf4.set 0 (.nilIface), ⟨v4, l4, dev_put' hD4 (setCell_upd _ _ _ _) nf⟩, (C4.mono fun k _ h => Or.inl h).upd (setCell_upd _ _ _ _) (Or.inl (Or.inr rfl))⟩
end Go.Proofs.YtkapkphhceknfaaGreatDoor.Vt
namespace Go.Proofs.YtkapkphhceknfaaGreatDoor.Vt
open Go.RowKit
set_option maxRecDepth 100000 in
set_option maxHeartbeats 400000 in
theorem do_raiseF (Bf Bv Bn vb c : Nat) (n m : Int) (b : Bool) (w : World) (jf : Blk w Bf #[errF b] 36) (jv : Blk w Bv #[.pointer (some ⟨vb, 0, none⟩)] 29) (jn : Blk w Bn #[.int .i64 m] 3)
    (hc : w.cell? ⟨vb, 1, none⟩ = some (.pointer (some ⟨c, 0, none⟩))) (hC : Dv.Cnt w c n) (hm : n < m) (nf : c ≠ Bf) :
    Calls Tryz.prog 58 #[.func (.func 63) #[] #[.pointer (some ⟨Bv, 0, none⟩), .pointer (some ⟨Bn, 0, none⟩)], .pointer (some ⟨Bf, 0, none⟩)] w fun e w' => e = .returned (.tuple #[]) ∧ Blk w' Bf #[errF b] 36 ∧ Dv.Cnt w' c (if b then n else m) ∧ Dv.Chg w w' (fun k => k = c ∨ k = Bf) := by
  cases b with
  | true =>
    have f0 : w.cell? ⟨Bf, 0, none⟩ = some (.iface 41 (.int .i64 14)) := jf.cell 0
    go_enter Tryz.func58, Tryz.ntmps58
    go_wp2_with fail
    go_end0
    exact ⟨rfl, jf, hC, Dv.Chg.refl _ _⟩
  | false => exact do_raise Bf Bv Bn vb c n m w jf jv jn hc hC hm nf
set_option maxRecDepth 100000 in
set_option maxHeartbeats 400000 in
theorem putF_any (Bd Bf Bv vb d : Nat) (VA : Array Value) (O : Nat → Prop) (x : Fz) (k : Nat) (s : ByteArray) (w : World) (jd : Blk w Bd #[doV Bf] 121) (jf : Blk w Bf #[errF x.b] 36) (jv : Blk w Bv #[.pointer (some ⟨vb, 0, none⟩)] 29)
    (jV : Blk w vb VA 76) (hc : VA[0]? = some (.pointer (some ⟨d, 0, none⟩))) (hD : x.At w O d) (hk : k < 66) (hs : s.size ≤ 256) (hW : x.W.length < 1000) (nf : ¬ O Bf) :
    Calls Tryz.prog 59 #[.agg #[.int .i64 (k : Int), .string s], .pointer (some ⟨Bd, 0, none⟩), .pointer (some ⟨Bv, 0, none⟩)] w fun e w' => e = .returned (.tuple #[]) ∧ Blk w' Bf #[errF (x.wr k s).b] 36 ∧ (x.wr k s).At w' (Dv.gro O w w') d ∧ Dv.Chg w w' (fun k => O k ∨ k = Bf) := by
  have g0 := Pg.below_alloc w (.cells #[.int .i64 (k : Int), .string s] 97)
  have c0 := (jd.below g0 jd.lt).cell 0
  have HW := do_writeF Bf Bv w.heap.size vb d O x k s _ (jf.below g0 jf.lt) (jv.below g0 jv.lt) (Blk.new w _ _) (by rw [(jV.below g0 jV.lt).cell, hc]) (by obtain ⟨v, lf, h⟩ := hD; exact ⟨v, lf, h.below g0⟩) hk hs hW nf
  have HH : Hid _ := HW
  clear HW hD
  generalize x.wr k s = y at *
  go_enter Tryz.func59, Tryz.ntmps59
  go_wp2_with fail
  refine Calls.mono HH.out ?_
  rintro e w4 ⟨rfl, j4, hD4, C4⟩
  go_wp2_with fail
  go_end0
  refine ⟨rfl, j4, Fz.At.mono hD4 fun q hq => ?_, chg_then ((Dv.Chg.refl w _).below g0) C4 fun q _ h => h⟩
  rcases hq with hq | ⟨h1, h2⟩
  · exact Or.inl hq
  · exact Or.inr ⟨by simp at h1; omega, h2⟩
/-- What lies in memory while it is written. -/
structure WrF (W : World) (w : World) (O : Nat → Prop) (B vb d c : Nat) (VA : Array Value) (at' : Int) (top : ByteArray) (n m : Int) (b : Bool) : Prop where
  jv : Blk W B #[.pointer (some ⟨vb, 0, none⟩)] 29
  jt : Blk W (B + 1) #[.int .i64 at', .string top] 97
  jn : Blk W (B + 2) #[.int .i64 m] 3
  jf : Blk W (B + 3) #[errF b] 36
  jd : Blk W (B + 4) #[doV (B + 3)] 121
  jV : Blk W vb VA 76
  jc : Dv.Cnt W c n
  lo : Dv.Chg w W O
  h1 : w.heap.size = B
  h2 : vb < B
  h3 : c < B
  o2 : ¬ O vb
  o3 : ¬ O c
  o4 : vb ≠ c
theorem WrF.step {W W' w : World} {O P : Nat → Prop} {B vb d c : Nat} {VA : Array Value} {at' : Int} {top : ByteArray} {n m : Int} {b b' : Bool} (h : WrF W w O B vb d c VA at' top n m b) (C : Dv.Chg W W' (fun k => P k ∨ k = B + 3)) (hP : ∀ k, P k → O k ∨ (B + 5 ≤ k)) (jf : Blk W' (B + 3) #[errF b'] 36) (hO : ∀ k, O k → k < B) : WrF W' w O B vb d c VA at' top n m b' := by
  have no : ∀ k, k < B + 5 → ¬ O k → k ≠ B + 3 → ¬ (P k ∨ k = B + 3) := fun k h1 h2 h3 h4 => by
    rcases h4 with h4 | h4
    · rcases hP k h4 with h5 | h5
      · exact h2 h5
      · omega
    · exact h3 h4
  have nB : ∀ k, B ≤ k → ¬ O k := fun k h1 h2 => absurd (hO k h2) (by omega)
  exact ⟨h.jv.chg C (no _ (by omega) (nB _ (by omega)) (by omega)), h.jt.chg C (no _ (by omega) (nB _ (by omega)) (by omega)), h.jn.chg C (no _ (by omega) (nB _ (by omega)) (by omega)), jf, h.jd.chg C (no _ (by omega) (nB _ (by omega)) (by omega)),
    h.jV.chg C (no _ (by have := h.h2; omega) h.o2 (by have := h.h2; omega)), h.jc.chg C (no _ (by have := h.h3; omega) h.o3 (by have := h.h3; omega)), chg_then h.lo C (fun k hk e => by
      have hB := h.h1
      rcases e with e | e
      · rcases hP k e with e | e
        · exact e
        · omega
      · omega), h.h1, h.h2, h.h3, h.o2, h.o3, h.o4⟩
/-- The pages put, one behind the other. -/
def Fz.wrs (x : Fz) : List (Nat × ByteArray) → Fz
  | [] => x
  | y :: l => (x.wr y.1 y.2).wrs l
theorem Fz.wrs_snoc (x : Fz) (l : List (Nat × ByteArray)) (y : Nat × ByteArray) : x.wrs (l ++ [y]) = (x.wrs l).wr y.1 y.2 := by
  induction l generalizing x with
  | nil => rfl
  | cons z l ih => exact ih _
theorem Fz.wr_len (x : Fz) (k : Nat) (s : ByteArray) : (x.wr k s).W.length ≤ x.W.length + 1 := by
  unfold Fz.wr; split
  · omega
  · split
    · exact Nat.le_succ _
    · simp
theorem Fz.wrs_len (x : Fz) : ∀ l : List (Nat × ByteArray), (x.wrs l).W.length ≤ x.W.length + l.length := by
  intro l
  induction l generalizing x with
  | nil => exact Nat.le_refl _
  | cons z l ih =>
    have h1 := ih (x.wr z.1 z.2)
    have h2 := x.wr_len z.1 z.2
    show ((x.wr z.1 z.2).wrs l).W.length ≤ _
    rw [List.length_cons]
    omega
theorem Fz.sy_len (x : Fz) : x.sy.W.length ≤ x.W.length := by
  unfold Fz.sy; split
  · exact Nat.le_refl _
  · split
    · exact Nat.le_refl _
    · exact Nat.zero_le _
/-- All steps ahead of the counter. -/
def Fz.all (x : Fz) (l : List (Nat × ByteArray)) (at' : Nat) (top : ByteArray) : Fz := ((x.wrs l).sy.wr at' top).sy
end Go.Proofs.YtkapkphhceknfaaGreatDoor.Vt
namespace Go.Proofs.YtkapkphhceknfaaGreatDoor.Vt
open Go.RowKit
set_option maxRecDepth 100000 in
set_option maxHeartbeats 1000000 in
theorem vwriteF_any (vb d c : Nat) (VA : Array Value) (O : Nat → Prop) (x0 : Fz) (pgs : Value) (base : Nat) (l : List (Nat × ByteArray)) (at' : Nat) (top : ByteArray) (n m : Int) (w : World)
    (jV : Blk w vb VA 76) (hv0 : VA[0]? = some (.pointer (some ⟨d, 0, none⟩))) (hv1 : VA[1]? = some (.pointer (some ⟨c, 0, none⟩))) (hx0 : x0.b = false) (hD : x0.At w O d) (hC : Dv.Cnt w c n) (hm : n < m)
    (hp : w.ownsRow base 97 2 pgs l.length (slC l)) (hpo : ∀ g, pgs.ownBlock = some g → ¬ O g) (hl : ∀ x ∈ l, x.1 < 66 ∧ x.2.size ≤ 256) (hll : l.length ≤ 32) (hW : x0.W.length ≤ 100)
    (hat : at' < 66) (htop : top.size ≤ 256) (hO : ∀ k, O k → k < w.heap.size) (o2 : ¬ O vb) (o3 : ¬ O c) (o4 : vb ≠ c) (y : Fz) (hy : y = x0.all l at' top) (ev : Value) (he : ev = errF y.b) (cm : Int) (hcm : cm = if y.b then n else m) :
    Calls Tryz.prog 40 #[.pointer (some ⟨vb, 0, none⟩), pgs, .agg #[.int .i64 (at' : Int), .string top], .int .i64 m] w fun e w' => e = .returned ev ∧
      (∃ O', y.At w' O' d ∧ ∀ k, O' k → Dv.gro O w w' k) ∧ Dv.Cnt w' c cm ∧ Dv.Chg w w' (fun k => O k ∨ k = c) := by
  have HY : Hid (y = x0.all l at' top) := hy
  have HE : Hid (ev = errF y.b) := he
  have HCM : Hid (cm = if y.b then n else m) := hcm
  clear hy he hcm
  have HL : Hid (∀ x ∈ l, x.1 < 66 ∧ x.2.size ≤ 256) := hl
  clear hl
  obtain ⟨a, cap, rfl, hrd⟩ := pg_form hp
  have HR : Hid (∀ (i : Nat) (x : Nat × ByteArray), l[i]? = some x → ∃ g, a = some ⟨g, 0, none⟩ ∧ g < w.heap.size ∧ ¬ O g ∧ w.cell? ⟨g, i * 2, none⟩ = some (.int .i64 (x.1 : Int)) ∧ w.cell? ⟨g, i * 2 + 1, none⟩ = some (.string x.2)) := fun i x hx => by
    obtain ⟨g, h1, h2, h3, h4⟩ := hrd i x hx
    exact ⟨g, h1, h2, hpo g (by rw [h1]; rfl), h3, h4⟩
  clear hrd hp hpo
  go_enter Tryz.func40, Tryz.ntmps40
  go_wp2_with (first
    | (refine wpl_put1 rfl rfl 121 _ _ rfl szF (w.heap.size + 1 + 1 + 1 + 1) 0 #[.nilFunc] 121 (doV (w.heap.size + 3)) rfl rfl rfl rfl (Blk.new' _ _ _ (by simp)) (by decide) ?_; intro w1 hu1 j1)
    | fail)
  have k0 := ((((Blk.new w #[.pointer (some ⟨vb, 0, none⟩)] 29).alloc (.cells #[.int .i64 (at' : Int), .string top] 97)).alloc (.cells #[.int .i64 m] 3)).alloc (.cells #[.nilIface] 36)).alloc (.cells #[.nilFunc] 121)
  have k1 := (((Blk.new' (w.alloc (.cells #[.pointer (some ⟨vb, 0, none⟩)] 29)) #[.int .i64 (at' : Int), .string top] 97 (b := w.heap.size + 1) (by simp)).alloc (.cells #[.int .i64 m] 3)).alloc (.cells #[.nilIface] 36)).alloc (.cells #[.nilFunc] 121)
  have k2 := ((Blk.new' ((w.alloc (.cells #[.pointer (some ⟨vb, 0, none⟩)] 29)).alloc (.cells #[.int .i64 (at' : Int), .string top] 97)) #[.int .i64 m] 3 (b := w.heap.size + 2) (by simp)).alloc (.cells #[.nilIface] 36)).alloc (.cells #[.nilFunc] 121)
  have k3 := (Blk.new' (((w.alloc (.cells #[.pointer (some ⟨vb, 0, none⟩)] 29)).alloc (.cells #[.int .i64 (at' : Int), .string top] 97)).alloc (.cells #[.int .i64 m] 3)) #[.nilIface] 36 (b := w.heap.size + 3) (by simp)).alloc (.cells #[.nilFunc] 121)
  have gg : Below w.heap.size w (((((w.alloc (.cells #[.pointer (some ⟨vb, 0, none⟩)] 29)).alloc (.cells #[.int .i64 (at' : Int), .string top] 97)).alloc (.cells #[.int .i64 m] 3)).alloc (.cells #[.nilIface] 36)).alloc (.cells #[.nilFunc] 121)) := (((((Below.refl _ _).alloc (Nat.le_refl _) _).alloc (by simp) _).alloc (by simp; omega) _).alloc (by simp; omega) _).alloc (by simp; omega) _
  have g1 := below_upd gg hu1 (show w.heap.size ≤ w.heap.size + 1 + 1 + 1 + 1 by omega)
  have z1 : w1.heap.size = w.heap.size + 5 := by rw [hu1.size]; simp
  have k0' := k0.upd hu1 (by omega)
  have k1' := k1.upd hu1 (by omega)
  have k2' := k2.upd hu1 (by omega)
  have k3' := k3.upd hu1 (by omega)
  have hD1 : x0.At w1 O d := by obtain ⟨v, lf, h⟩ := hD; exact ⟨v, lf, h.below g1⟩
  have hW1 : WrF w1 w O w.heap.size vb d c VA at' top n m x0.b := ⟨k0', k1', k2', by rw [hx0]; exact k3', j1, jV.below g1 jV.lt, hC.below g1 hC.lt, (Dv.Chg.refl w O).below g1, rfl, jV.lt, hC.lt, o2, o3, o4⟩
  obtain ⟨B, hB⟩ : ∃ B, w.heap.size = B := ⟨_, rfl⟩
  rw [hB] at hW1 z1 hO
  rw [hB]
  simp only [Nat.add_assoc, Nat.reduceAdd]
  have HO : Hid (∀ k, O k → k < B) := hO
  clear k0 k1 k2 k3 k0' k1' k2' k3' gg hu1 j1 hO jV hC hD g1
  go_loopw [18] (fun i wr => ∃ (k : Nat) (O' : Nat → Prop), k ≤ l.length ∧ i = .int .i64 k ∧ WrF wr w O B vb d c VA at' top n m (x0.wrs (l.take k)).b ∧ (x0.wrs (l.take k)).At wr O' d ∧ Hid (∀ k, O' k → O k ∨ (B + 5 ≤ k ∧ k < wr.heap.size)) ∧ B + 5 ≤ wr.heap.size) (fun i _ => l.length - (intOf i).toNat)
  case atStart => exact ⟨0, O, by omega, rfl, hW1, hD1, fun k h => Or.inl h, by omega⟩
  case round =>
    clear hW1 hD1 z1
    obtain ⟨k, O', hk, rfl, hWr, hDr, hOr, hzr⟩ := hrel
    by_cases hlt : k < l.length
    · obtain ⟨x, hx⟩ : ∃ x, l[k]? = some x := ⟨_, List.getElem?_eq_getElem hlt⟩
      obtain ⟨g, rfl, hg, ng, ca, cb⟩ := HR.out k x hx
      have hxo := HL.out x (List.mem_of_getElem? hx)
      have ca' : wr.cell? ⟨g, k * 2, none⟩ = some (.int .i64 (x.1 : Int)) := (World.cell?_of_block (hWr.lo.block g hg ng)).trans ca
      have cb' : wr.cell? ⟨g, k * 2 + 1, none⟩ = some (.string x.2) := (World.cell?_of_block (hWr.lo.block g hg ng)).trans cb
      have hlt' : (k : Int) < (l.length : Int) := by omega
      have hX : Hid (l[k]? = some x) := hx
      clear ca cb hx
      have e1 : ∀ u ∈ (#[Value.int .i64 (x.1 : Int), .string x.2] : Array Value).toList, u.oneCell' = true := by intro u hu; simp at hu; rcases hu with rfl | rfl <;> rfl
      go_wp2_with (first
        | (refine Su.wpl_storeV rfl rfl 97 _ _ rfl 2 szVB wr.heap.size _ 97 #[.int .i64 (x.1 : Int), .string x.2] e1 rfl rfl (Blk.new wr _ _) rfl rfl ?_; intro w2 hu2 j2; have d0 := j2.cell 0; have d1 := j2.cell 1)
        | fail)
      have s2 : Below wr.heap.size wr w2 := below_upd (Pg.below_alloc wr _) hu2 (Nat.le_refl _)
      have hD2 : (x0.wrs (l.take k)).At w2 O' d := by obtain ⟨v, lf, h⟩ := hDr; exact ⟨v, lf, h.below s2⟩
      have hW2 : WrF w2 w O B vb d c VA at' top n m (x0.wrs (l.take k)).b := ⟨hWr.jv.below s2 hWr.jv.lt, hWr.jt.below s2 hWr.jt.lt, hWr.jn.below s2 hWr.jn.lt, hWr.jf.below s2 hWr.jf.lt, hWr.jd.below s2 hWr.jd.lt, hWr.jV.below s2 hWr.jV.lt, hWr.jc.below s2 hWr.jc.lt, hWr.lo.below s2, hWr.h1, hWr.h2, hWr.h3, hWr.o2, hWr.o3, hWr.o4⟩
      have z2 : w2.heap.size = wr.heap.size + 1 := by rw [hu2.size]; simp
      have hlen : (x0.wrs (l.take k)).W.length < 1000 := by have h := x0.wrs_len (l.take k); rw [List.length_take] at h; omega
      have nf : ¬ O' (B + 3) := fun h => by
        rcases hOr.out _ h with h | h
        · have := HO.out _ h; omega
        · omega
      refine (putF_any (B + 4) (B + 3) B vb d VA O' _ x.1 x.2 w2 hW2.jd hW2.jf hW2.jv hW2.jV hv0 hD2 hxo.1 hxo.2 hlen nf).mono ?_
      rintro e w3 ⟨rfl, j3, hD3, C3⟩
      rw [← Fz.wrs_snoc, show l.take k ++ [x] = l.take (k + 1) from by rw [List.take_add_one, hX.out]; rfl] at hD3 j3
      have hz3 := C3.size
      have hW3 := hW2.step C3 (fun q hq => (hOr.out q hq).imp id fun h => h.1) j3 HO.out
      clear d0 d1 hu2 j2 s2 hD2 hW2 hWr hDr ca' cb' C3 j3
      go_wp2_with fail
      refine ⟨⟨k + 1, _, by omega, by go_num, hW3, hD3, fun q hq => ?_, by omega⟩, by simp [intOf]; omega⟩
      rcases hq with hq | hq
      · exact (hOr.out q hq).imp id fun h => ⟨h.1, by omega⟩
      · exact Or.inr ⟨by omega, hq.2⟩
    · have hkl : k = l.length := by omega
      have hDr' : (x0.wrs l).At wr O' d := by rw [hkl, List.take_length] at hDr; exact hDr
      have hWr' : WrF wr w O B vb d c VA at' top n m (x0.wrs l).b := by rw [hkl, List.take_length] at hWr; exact hWr
      have hl1 : (x0.wrs l).W.length ≤ 132 := by have h := x0.wrs_len l; omega
      have hAll : Hid (y = (((x0.wrs l).sy.wr at' top).sy)) := HY.out
      have hl2 : (x0.wrs l).sy.W.length < 1000 := by have h := (x0.wrs l).sy_len; omega
      clear HY
      generalize x0.wrs l = y1 at *
      have hlt' : ¬ ((k : Int) < (l.length : Int)) := by omega
      have nf : ¬ O' (B + 3) := fun h => by
        rcases hOr.out _ h with h | h
        · have := HO.out _ h; omega
        · omega
      clear hDr hkl
      have hWwr := hWr'
      clear hWr hWr'
      go_wp2_with fail
      have a0 : wr.drew.cell? ⟨B, 0, none⟩ = some (.pointer (some ⟨vb, 0, none⟩)) := hWwr.jv.cell 0
      have a1 : wr.drew.cell? ⟨vb, 0, none⟩ = some (.pointer (some ⟨d, 0, none⟩)) := by rw [show wr.drew.cell? ⟨vb, 0, none⟩ = wr.cell? ⟨vb, 0, none⟩ from rfl, hWwr.jV.cell, hv0]
      have a2 : wr.drew.cell? ⟨B + 4, 0, none⟩ = some (doV (B + 3)) := hWwr.jd.cell 0
      refine region_s [(0, false), (1, false), (2, true), (3, true), (4, false), (5, true)] [] [6] (fun w' => w' = wr.drew) Tr.mixed (by kernel_rfl) (fun _ _ _ _ _ h => h) rfl ?_
      refine lead_read _ rfl _ rfl rfl (doV (B + 3)) (fun w' hS => by subst hS; go_simp) ?_
      refine lead_read _ rfl _ rfl rfl (.pointer (some ⟨vb, 0, none⟩)) (fun w' hS => by subst hS; go_simp) ?_
      refine lead_pure _ rfl _ rfl rfl (.pointer (some ⟨vb, 0, none⟩)) (fun w' => by go_simp) ?_
      refine lead_pure _ rfl _ rfl rfl (.pointer (some ⟨vb, 0, none⟩)) (fun w' => by go_simp) ?_
      refine lead_read _ rfl _ rfl rfl (.pointer (some ⟨d, 0, none⟩)) (fun w' hS => by subst hS; go_simp) ?_
      refine lead_pure _ rfl _ rfl rfl (.func (.func 62) #[.pointer (some ⟨d, 0, none⟩)] #[]) (fun w' => by go_simp) ?_
      simp only [lead_nil_eq]
      simp only [Act.put, List.setIfInBounds_toArray, List.set_cons_succ, List.set_cons_zero]
      simp only [mid_nil_eq]
      simp only [List.filterMap_cons, List.getElem?_toArray, List.getElem?_cons_succ, List.getElem?_cons_zero, List.filterMap_nil]
      clear a0 a1 a2
      go_wp2_with fail
      refine (do_syncF (B + 3) d O' y1 _ (hWwr.jf.drewN 1) (by obtain ⟨v, lf, h⟩ := hDr'; exact ⟨v, lf, h.drewN 1⟩) nf).mono ?_
      rintro e w2 ⟨rfl, j2, hD2, C2'⟩
      have C2 : Dv.Chg wr w2 (fun k => O' k ∨ k = B + 3) := ⟨C2'.os, C2'.tape, C2'.output, C2'.size, C2'.block⟩
      have hz2 := C2.size
      have hW2 := hWwr.step C2 (fun q hq => (hOr.out q hq).imp id fun h => h.1) j2 HO.out
      have t0 := hW2.jt.cell 0
      have t1 := hW2.jt.cell 1
      clear hWwr hDr' C2' C2 j2
      go_wp2_with fail
      generalize y1.sy = y2 at *
      refine (putF_any (B + 4) (B + 3) B vb d VA O' y2 at' top w2 hW2.jd hW2.jf hW2.jv hW2.jV hv0 hD2 hat htop hl2 nf).mono ?_
      rintro e w3 ⟨rfl, j3, hD3, C3⟩
      generalize y2.wr at' top = y3 at *
      have hz3 := C3.size
      have hWw3 := hW2.step C3 (fun q hq => (hOr.out q hq).imp id fun h => h.1) j3 HO.out
      have nf3 : ¬ Dv.gro O' w2 w3 (B + 3) := fun h => by
        rcases h with h | h
        · exact nf h
        · omega
      clear hW2 hD2 C3 j3 t0 t1
      go_wp2_with fail
      have a0 : w3.drew.cell? ⟨B, 0, none⟩ = some (.pointer (some ⟨vb, 0, none⟩)) := hWw3.jv.cell 0
      have a1 : w3.drew.cell? ⟨vb, 0, none⟩ = some (.pointer (some ⟨d, 0, none⟩)) := by rw [show w3.drew.cell? ⟨vb, 0, none⟩ = w3.cell? ⟨vb, 0, none⟩ from rfl, hWw3.jV.cell, hv0]
      have a2 : w3.drew.cell? ⟨B + 4, 0, none⟩ = some (doV (B + 3)) := hWw3.jd.cell 0
      refine region_s [(0, false), (1, false), (2, true), (3, true), (4, false), (5, true)] [] [6] (fun w' => w' = w3.drew) Tr.mixed (by kernel_rfl) (fun _ _ _ _ _ h => h) rfl ?_
      refine lead_read _ rfl _ rfl rfl (doV (B + 3)) (fun w' hS => by subst hS; go_simp) ?_
      refine lead_read _ rfl _ rfl rfl (.pointer (some ⟨vb, 0, none⟩)) (fun w' hS => by subst hS; go_simp) ?_
      refine lead_pure _ rfl _ rfl rfl (.pointer (some ⟨vb, 0, none⟩)) (fun w' => by go_simp) ?_
      refine lead_pure _ rfl _ rfl rfl (.pointer (some ⟨vb, 0, none⟩)) (fun w' => by go_simp) ?_
      refine lead_read _ rfl _ rfl rfl (.pointer (some ⟨d, 0, none⟩)) (fun w' hS => by subst hS; go_simp) ?_
      refine lead_pure _ rfl _ rfl rfl (.func (.func 62) #[.pointer (some ⟨d, 0, none⟩)] #[]) (fun w' => by go_simp) ?_
      simp only [lead_nil_eq]
      simp only [Act.put, List.setIfInBounds_toArray, List.set_cons_succ, List.set_cons_zero]
      simp only [mid_nil_eq]
      simp only [List.filterMap_cons, List.getElem?_toArray, List.getElem?_cons_succ, List.getElem?_cons_zero, List.filterMap_nil]
      clear a0 a1 a2
      go_wp2_with fail
      refine (do_syncF (B + 3) d _ y3 _ (hWw3.jf.drewN 1) (by obtain ⟨v, lf, h⟩ := hD3; exact ⟨v, lf, h.drewN 1⟩) nf3).mono ?_
      rintro e w4 ⟨rfl, j4, hD4, C4'⟩
      generalize y3.sy = y4 at *
      obtain ⟨v4, l4, hD4⟩ := hD4
      have C4 : Dv.Chg w3 w4 (fun k => Dv.gro O' w2 w3 k ∨ k = B + 3) := ⟨C4'.os, C4'.tape, C4'.output, C4'.size, C4'.block⟩
      have hz4 := C4.size
      have hG : ∀ q, Dv.gro O' w2 w3 q → O q ∨ (B + 5 ≤ q ∧ q < w3.heap.size) := fun q hq => by
        rcases hq with hq | hq
        · exact (hOr.out q hq).imp id fun h => ⟨h.1, by omega⟩
        · exact Or.inr ⟨by omega, hq.2⟩
      have HG : Hid (∀ q, Dv.gro O' w2 w3 q → O q ∨ (B + 5 ≤ q ∧ q < w3.heap.size)) := hG
      have hW4 := hWw3.step C4 (fun q hq => (hG q hq).imp id fun h => h.1) j4 HO.out
      have q0 := hW4.jd.cell 0
      clear hWw3 hD3 C4' C4 j4 hG nf3
      go_wp2_with fail
      refine (do_raiseF (B + 3) B (B + 2) vb c n m y4.b w4 hW4.jf hW4.jv hW4.jn (by rw [hW4.jV.cell, hv1]) hW4.jc hm (by have := hW4.h3; omega)).mono ?_
      rintro e w5 ⟨rfl, j5, c5, C5⟩
      have r0 := j5.cell 0
      have hz5 := C5.size
      clear q0
      go_wp2_with fail
      go_ret
      obtain rfl := hAll.out
      rw [HE.out, HCM.out]
      refine ⟨rfl, ⟨_, ⟨v4, l4, hD4.chg C5 (fun q hq e => ?_)⟩, fun q hq => ?_⟩, c5, chg_then (hW4.lo.mono fun q _ h => Or.inl h) C5 (fun q hq e => ?_)⟩
      · rcases e with e | e
        · subst e
          rcases HG.out _ hq with h | h
          · exact hW4.o3 h
          · have := hW4.h3; omega
        · subst e
          rcases HG.out _ hq with h | h
          · have := HO.out _ h; omega
          · omega
      · rcases HG.out q hq with h | h
        · exact Or.inl h
        · exact Or.inr ⟨by have := hW4.h1; omega, by omega⟩
      · rcases e with e | e
        · exact Or.inr e
        · have := hW4.h1; omega
end Go.Proofs.YtkapkphhceknfaaGreatDoor.Vt
