/-
  Part of the proof: Turn is walked.
  Part of the proof: Turn is walked, with a fuse.
-/
import Derived.Test.YtkapkphhceknfaaGreatDoorB24
namespace Go.Proofs.YtkapkphhceknfaaGreatDoor.Vt
open Go.RowKit
/-- All pages, told anew. -/
def trn (p : Int → Option (Int × ByteArray)) (c : Int) (k : Nat) (i : Int) : Option (Int × ByteArray) := if 0 ≤ i ∧ i < (k : Int) then some (c, (rd p i).2) else none
theorem trn_step (p : Int → Option (Int × ByteArray)) (c : Int) (k : Nat) : (fun j => if j = (k : Int) then some (ent (c, (rd p (k : Int)).2)) else pv (trn p c k) j) = pv (trn p c (k + 1)) := by
  funext j
  unfold pv trn
  by_cases e : j = (k : Int)
  · subst e; rw [if_pos rfl, if_pos (by omega)]; rfl
  · rw [if_neg e]
    by_cases e2 : 0 ≤ j ∧ j < (k : Int)
    · rw [if_pos e2, if_pos (by omega)]
    · rw [if_neg e2, if_neg (by omega)]
theorem buildE' (a : Int) (x : ByteArray) (w : World) : (Instr.build 69 #[(0, .int .i64 a), (1, .string x)]).run Tryz.prog w = .ok (.agg #[.int .i64 a, .string x]) w := run_build w 69 _ _ (by kernel_rfl)
set_option maxRecDepth 100000 in
set_option maxHeartbeats 1000000 in
theorem turn_ok (vb d c : Nat) (sec : ByteArray) (cn en : Int) (f : Nat → Bool) (r : ByteArray) (mb n : Nat) (p : Int → Option (Int × ByteArray)) (O : Nat → Prop) (S : Nat → Nat → UInt8) (W : List (Nat × (Nat → UInt8))) (v : Value) (lf : Int) (n0 : Int) (w : World)
    (hV : Vlt w vb d c sec cn en f r mb n p false) (hD : Dv.Dev w O d S W (-1) v lf) (hC : Dv.Cnt w c n0) (hm : n0 < cn + 1)
    (hn : n + 32 ≤ 100000) (hc0 : 0 ≤ cn) (hc1 : cn < 1099511627776) (he0 : 0 ≤ en) (he1 : en < 1099511627776) (hp : ∀ j : Nat, j < 32 → (rd p j).2.size ≤ 200)
    (hsec : sec.size ≤ 300) (hW : W.length ≤ 100) (hO : ∀ k, O k → k < w.heap.size) (o2 : ¬ O vb) (o3 : ¬ O c) (o4 : vb ≠ c) (hK : Sm.KB w) :
    Calls Tryz.prog 10 #[.pointer (some ⟨vb, 0, none⟩)] w fun e w' => e = .returned .nilIface ∧
      (∃ CB n', Vlt w' vb d c sec (cn + 1) (en + 1) (nxF f (trn p (cn + 1) 32)) (rootP (nxP p (trn p (cn + 1) 32))) CB n' (nxP p (trn p (cn + 1) 32)) false ∧ w.heap.size ≤ CB ∧ n' ≤ n + 32) ∧
      (∃ O' v' l', Dv.Dev w' O' d (sureS (sureS S (W ++ wl (sl (epoK sec (en + 1)) (nxF f (trn p (cn + 1) 32)) (trn p (cn + 1) 32) 32))) [((cn + 1).toNat % 2, Dv.bAt (Su.allT (supK sec) (cn + 1) (en + 1) (nxF f (trn p (cn + 1) 32)) (rootP (nxP p (trn p (cn + 1) 32)))))]) [] (-1) v' l' ∧ ∀ k, O' k → Dv.gro O w w' k) ∧ Dv.Cnt w' c (cn + 1) ∧ Dv.Chg w w' (fun k => O k ∨ k = c ∨ k = vb) := by
  have HP : Hid (∀ j : Nat, j < 32 → (rd p j).2.size ≤ 200) := hp
  have HC : Hid (0 ≤ cn ∧ cn < 1099511627776 ∧ 0 ≤ en ∧ en < 1099511627776 ∧ n0 < cn + 1) := ⟨hc0, hc1, he0, he1, hm⟩
  have HO : Hid (∀ k, O k → k < w.heap.size) := hO
  clear hp hm hO
  have hmk := mkMap w
  have g3 := Pg.below_alloc w (.map #[] 0)
  have t3 : MapF Tryz.prog (w.alloc (.map #[] 0)) w.heap.size 0 (pv (trn p (cn + 1) 0)) := (mapF_made Tryz.prog w).congr fun i _ => by unfold pv trn; rw [if_neg (by omega)]; rfl
  have hV3 := hV.below g3 hV.blk.lt hV.map.lt
  have hvw : Hid (vb < w.heap.size ∧ mb < w.heap.size) := ⟨hV.blk.lt, hV.map.lt⟩
  go_enter Tryz.func10, Tryz.ntmps10
  go_wp2_with fail
  refine (ready_any w vb d c sec cn en f r mb n p false hV).mono ?_
  rintro e w1 ⟨rfl, hw1⟩
  obtain rfl : w = w1 := hw1.symm
  clear hw1
  simp only [Bool.not_false]
  go_wp2_with fail
  generalize w.alloc (.map #[] 0) = w3 at *
  obtain ⟨tm, htm⟩ : ∃ tm, Hid (w.heap.size = tm) := ⟨_, rfl⟩
  rw [htm.out] at t3
  rw [htm.out]
  clear hmk hV
  go_loopw [10] (fun i wr => ∃ k : Nat, k ≤ 32 ∧ i = .int .i64 k ∧ MapF Tryz.prog wr tm k (pv (trn p (cn + 1) k)) ∧ Vlt wr vb d c sec cn en f r mb n p false ∧ Below w.heap.size w wr) (fun i _ => 32 - (intOf i).toNat)
  case atStart => exact ⟨0, by omega, rfl, t3, hV3, g3⟩
  case round =>
    clear t3 hV3 g3
    obtain ⟨k, hk, rfl, hTr, hVr, hbr⟩ := hrel
    by_cases hlt : k < 32
    · have hlt' : (k : Int) < 32 := by omega
      have hlk := run_lookV (w := wr.drew) (t := 67) und3 undE _ zeroE (Or.inr ⟨mb, rfl, hVr.map.drew⟩) (kOk_small (i := (k : Int)) (by omega) hlt')
      rw [pv_get] at hlk
      unfold ent at hlk
      have c38 : wr.drew.cell? ⟨vb, 38, none⟩ = some (.map (some mb)) := hVr.c38
      have hfe := fldE
      have hst := trn_step p (cn + 1) k
      have HST : Hid _ := hst
      clear hst
      have hbE := buildE' (cn + 1) (rd p (k : Int)).2
      generalize rd p (k : Int) = x at *
      go_wp2_with fail
      refine region_s [(0, true), (1, true), (2, true), (5, true), (6, true), (7, true), (8, true), (9, false), (10, true), (11, false), (12, true)] [3, 4, 13] [14] (fun w' => w' = wr.drew) Tr.mixed (by kernel_rfl) (fun _ _ _ _ _ h => h) rfl ?_
      refine lead_pure _ rfl _ rfl rfl (.map (some tm)) (fun w' => by go_simp) ?_
      refine lead_pure _ rfl _ rfl rfl (.int .i64 (k : Int)) (fun w' => by go_simp) ?_
      refine lead_pure _ rfl _ rfl rfl (.pointer (some ⟨vb, 0, none⟩)) (fun w' => by go_simp) ?_
      refine lead_pure _ rfl _ rfl rfl (.pointer (some ⟨vb, 0, none⟩)) (fun w' => by go_simp) ?_
      refine lead_pure _ rfl _ rfl rfl (.pointer (some ⟨vb, 0, none⟩)) (fun w' => by go_simp) ?_
      refine lead_pure _ rfl _ rfl rfl (.pointer (some ⟨vb, 3, none⟩)) (fun w' => by go_simp) ?_
      refine lead_pure _ rfl _ rfl rfl (.pointer (some ⟨vb, 38, none⟩)) (fun w' => by go_simp) ?_
      refine lead_read _ rfl _ rfl rfl (.map (some mb)) (fun w' hS => by subst hS; go_simp) ?_
      refine lead_pure _ rfl _ rfl rfl (.int .i64 (k : Int)) (fun w' => by go_simp) ?_
      refine lead_read _ rfl _ rfl rfl (.agg #[.int .i64 x.1, .string x.2]) (fun w' hS => by subst hS; go_simp) ?_
      refine lead_pure _ rfl _ rfl rfl (.string x.2) (fun w' => by go_simp) ?_
      simp only [lead_nil_eq]
      simp only [Act.put, List.setIfInBounds_toArray, List.set_cons_succ, List.set_cons_zero]
      refine mid_cons _ rfl rfl fun K hK => ?_
      go_wp2_with fail
      refine (count_any wr.drew vb d c sec cn en f r mb n p false (hVr.same rfl rfl)).mono ?_
      rintro e w5 ⟨rfl, hw5⟩
      obtain rfl := hw5
      refine hK _ _ rfl ?_
      clear hK K
      refine mid_cons _ rfl rfl fun K hK => ?_
      go_wp2_with fail
      refine hK _ _ rfl ?_
      clear hK K
      refine mid_cons _ rfl rfl fun K hK => ?_
      go_wp2_with fail
      refine hK _ _ rfl ?_
      clear hK K
      simp only [mid_nil_eq]
      simp only [List.filterMap_cons, List.getElem?_toArray, List.getElem?_cons_succ, List.getElem?_cons_zero, List.filterMap_nil]
      refine wpl_putF rfl rfl 67 _ _ _ rfl und3 69 undE tm k (pv (trn p (cn + 1) k)) (k : Int) (ent (cn + 1, x.2)) rfl rfl rfl hTr.drew (by omega) (kOk_small (by omega) hlt') ?_
      intro w7 m7 hu7'
      go_wp2_with fail
      have hu7 : Upd wr w7 tm := ⟨hu7'.os, hu7'.tape, hu7'.output, hu7'.size, hu7'.block⟩
      rw [HST.out] at m7
      have hvw' := hvw.out
      have htm' := htm.out
      exact ⟨⟨k + 1, by omega, by go_num, m7, hVr.upd hu7 (by omega) (by omega), below_upd hbr hu7 (by omega)⟩, by simp [intOf]; omega⟩
    · have hk2 : k = 32 := by omega
      subst hk2
      have hcc := HC.out
      clear hc0 hc1 he0 he1
      have he0 := hcc.2.2.1
      have he1 := hcc.2.2.2.1
      go_wp2_with fail
      refine (epoch_any wr vb d c sec cn en f r mb n p false hVr).mono ?_
      rintro e w5 ⟨rfl, hw5⟩
      obtain rfl : wr = w5 := hw5.symm
      clear hw5
      go_wp2_with fail
      refine (become_any vb d c sec cn en f r mb n p (en + 1) tm 32 (trn p (cn + 1) 32) O S W v lf n0 wr hVr hTr (hD.below hbr) (hC.below hbr hC.lt) hcc.2.2.2.2 ?_ (by omega) hcc.1 hcc.2.1 (by omega) (by omega) ?_ ?_ hsec hW (fun k hk => Nat.lt_of_lt_of_le (HO.out k hk) hbr.size) o2 o3 o4 (hK.below hbr)).mono ?_
      · intro i hi hs'
        unfold trn at hs'
        by_cases e : 0 ≤ i ∧ i < ((32 : Nat) : Int)
        · omega
        · rw [if_neg e] at hs'; cases hs'
      · intro j hj
        have e : nxP p (trn p (cn + 1) 32) (j : Int) = some (cn + 1, (rd p (j : Int)).2) := by unfold nxP trn; rw [if_pos (by omega)]; rfl
        have := HP.out j hj
        unfold rd at this ⊢
        rw [e]
        simp only [Option.getD_some]
        unfold rd
        omega
      · intro k hk x hx
        have e : trn p (cn + 1) 32 (k : Int) = some (cn + 1, (rd p (k : Int)).2) := by unfold trn; rw [if_pos (by omega)]
        rw [e] at hx
        injection hx with hx
        subst hx
        exact ⟨by show 1 ≤ cn + 1; omega, by show cn + 1 ≤ _; omega, HP.out k hk⟩
      · rintro e w6 ⟨rfl, ⟨CB, hV6, hCB⟩, ⟨O6, v6, l6, hD6, hO6⟩, hC6, C6⟩
        have hz := hbr.size
        go_wp2_with fail
        go_ret
        refine ⟨rfl, ⟨CB, _, hV6, by omega, Nat.le_refl _⟩, ⟨O6, v6, l6, hD6, fun k hk => ?_⟩, hC6, chg_then (Dv.Chg.of hbr _) C6 fun k _ h => h⟩
        rcases hO6 k hk with h | h
        · exact Or.inl h
        · exact Or.inr ⟨by omega, h.2⟩
end Go.Proofs.YtkapkphhceknfaaGreatDoor.Vt
namespace Go.Proofs.YtkapkphhceknfaaGreatDoor.Vt
open Go.RowKit
set_option maxRecDepth 100000 in
set_option maxHeartbeats 1000000 in
theorem turnF_bad (vb d c : Nat) (sec : ByteArray) (cn en : Int) (f : Nat → Bool) (r : ByteArray) (mb n : Nat) (p : Int → Option (Int × ByteArray)) (O : Nat → Prop) (x0 y : Fz) (n0 : Int) (w : World)
    (hV : Vlt w vb d c sec cn en f r mb n p false) (hx0 : x0.b = false) (hD : x0.At w O d) (hC : Dv.Cnt w c n0) (hm : n0 < cn + 1)
    (hn : n + 32 ≤ 100000) (hc0 : 0 ≤ cn) (hc1 : cn < 1099511627776) (he0 : 0 ≤ en) (he1 : en < 1099511627776) (hp : ∀ j : Nat, j < 32 → (rd p j).2.size ≤ 200)
    (hsec : sec.size ≤ 300) (hW : x0.W.length ≤ 100) (hy : y = x0.all (sl (epoK sec (en + 1)) (nxF f (trn p (cn + 1) 32)) (trn p (cn + 1) 32) 32) ((cn + 1).toNat % 2) (Su.allT (supK sec) (cn + 1) (en + 1) (nxF f (trn p (cn + 1) 32)) (rootP (nxP p (trn p (cn + 1) 32))))) (hyb : y.b = true) (hO : ∀ k, O k → k < w.heap.size) (o2 : ¬ O vb) (o3 : ¬ O c) (o4 : vb ≠ c) (hK : Sm.KB w) :
    Calls Tryz.prog 10 #[.pointer (some ⟨vb, 0, none⟩)] w fun e w' => e = .returned (Dv.errI 14) ∧ Blk w' vb (vaA d c sec (stA cn en f r (.map (some mb))) true) 76 ∧ (∃ O', y.At w' O' d ∧ ∀ k, O' k → Dv.gro O w w' k) ∧ Dv.Cnt w' c n0 ∧ Dv.Chg w w' (fun k => O k ∨ k = c ∨ k = vb) := by
  have HY : Hid _ := hy
  have HYB : Hid _ := hyb
  have HDD : Hid (x0.At w O d) := hD
  clear hy hyb hD
  have HP : Hid (∀ j : Nat, j < 32 → (rd p j).2.size ≤ 200) := hp
  have HC : Hid (0 ≤ cn ∧ cn < 1099511627776 ∧ 0 ≤ en ∧ en < 1099511627776 ∧ n0 < cn + 1) := ⟨hc0, hc1, he0, he1, hm⟩
  have HO : Hid (∀ k, O k → k < w.heap.size) := hO
  clear hp hm hO
  have hmk := mkMap w
  have g3 := Pg.below_alloc w (.map #[] 0)
  have t3 : MapF Tryz.prog (w.alloc (.map #[] 0)) w.heap.size 0 (pv (trn p (cn + 1) 0)) := (mapF_made Tryz.prog w).congr fun i _ => by unfold pv trn; rw [if_neg (by omega)]; rfl
  have hV3 := hV.below g3 hV.blk.lt hV.map.lt
  have hvw : Hid (vb < w.heap.size ∧ mb < w.heap.size) := ⟨hV.blk.lt, hV.map.lt⟩
  go_enter Tryz.func10, Tryz.ntmps10
  go_wp2_with fail
  refine (ready_any w vb d c sec cn en f r mb n p false hV).mono ?_
  rintro e w1 ⟨rfl, hw1⟩
  obtain rfl : w = w1 := hw1.symm
  clear hw1
  simp only [Bool.not_false]
  go_wp2_with fail
  generalize w.alloc (.map #[] 0) = w3 at *
  obtain ⟨tm, htm⟩ : ∃ tm, Hid (w.heap.size = tm) := ⟨_, rfl⟩
  rw [htm.out] at t3
  rw [htm.out]
  clear hmk hV
  go_loopw [10] (fun i wr => ∃ k : Nat, k ≤ 32 ∧ i = .int .i64 k ∧ MapF Tryz.prog wr tm k (pv (trn p (cn + 1) k)) ∧ Vlt wr vb d c sec cn en f r mb n p false ∧ Below w.heap.size w wr) (fun i _ => 32 - (intOf i).toNat)
  case atStart => exact ⟨0, by omega, rfl, t3, hV3, g3⟩
  case round =>
    clear t3 hV3 g3
    obtain ⟨k, hk, rfl, hTr, hVr, hbr⟩ := hrel
    by_cases hlt : k < 32
    · have hlt' : (k : Int) < 32 := by omega
      have hlk := run_lookV (w := wr.drew) (t := 67) und3 undE _ zeroE (Or.inr ⟨mb, rfl, hVr.map.drew⟩) (kOk_small (i := (k : Int)) (by omega) hlt')
      rw [pv_get] at hlk
      unfold ent at hlk
      have c38 : wr.drew.cell? ⟨vb, 38, none⟩ = some (.map (some mb)) := hVr.c38
      have hfe := fldE
      have hst := trn_step p (cn + 1) k
      have HST : Hid _ := hst
      clear hst
      have hbE := buildE' (cn + 1) (rd p (k : Int)).2
      generalize rd p (k : Int) = x at *
      go_wp2_with fail
      refine region_s [(0, true), (1, true), (2, true), (5, true), (6, true), (7, true), (8, true), (9, false), (10, true), (11, false), (12, true)] [3, 4, 13] [14] (fun w' => w' = wr.drew) Tr.mixed (by kernel_rfl) (fun _ _ _ _ _ h => h) rfl ?_
      refine lead_pure _ rfl _ rfl rfl (.map (some tm)) (fun w' => by go_simp) ?_
      refine lead_pure _ rfl _ rfl rfl (.int .i64 (k : Int)) (fun w' => by go_simp) ?_
      refine lead_pure _ rfl _ rfl rfl (.pointer (some ⟨vb, 0, none⟩)) (fun w' => by go_simp) ?_
      refine lead_pure _ rfl _ rfl rfl (.pointer (some ⟨vb, 0, none⟩)) (fun w' => by go_simp) ?_
      refine lead_pure _ rfl _ rfl rfl (.pointer (some ⟨vb, 0, none⟩)) (fun w' => by go_simp) ?_
      refine lead_pure _ rfl _ rfl rfl (.pointer (some ⟨vb, 3, none⟩)) (fun w' => by go_simp) ?_
      refine lead_pure _ rfl _ rfl rfl (.pointer (some ⟨vb, 38, none⟩)) (fun w' => by go_simp) ?_
      refine lead_read _ rfl _ rfl rfl (.map (some mb)) (fun w' hS => by subst hS; go_simp) ?_
      refine lead_pure _ rfl _ rfl rfl (.int .i64 (k : Int)) (fun w' => by go_simp) ?_
      refine lead_read _ rfl _ rfl rfl (.agg #[.int .i64 x.1, .string x.2]) (fun w' hS => by subst hS; go_simp) ?_
      refine lead_pure _ rfl _ rfl rfl (.string x.2) (fun w' => by go_simp) ?_
      simp only [lead_nil_eq]
      simp only [Act.put, List.setIfInBounds_toArray, List.set_cons_succ, List.set_cons_zero]
      refine mid_cons _ rfl rfl fun K hK => ?_
      go_wp2_with fail
      refine (count_any wr.drew vb d c sec cn en f r mb n p false (hVr.same rfl rfl)).mono ?_
      rintro e w5 ⟨rfl, hw5⟩
      obtain rfl := hw5
      refine hK _ _ rfl ?_
      clear hK K
      refine mid_cons _ rfl rfl fun K hK => ?_
      go_wp2_with fail
      refine hK _ _ rfl ?_
      clear hK K
      refine mid_cons _ rfl rfl fun K hK => ?_
      go_wp2_with fail
      refine hK _ _ rfl ?_
      clear hK K
      simp only [mid_nil_eq]
      simp only [List.filterMap_cons, List.getElem?_toArray, List.getElem?_cons_succ, List.getElem?_cons_zero, List.filterMap_nil]
      refine wpl_putF rfl rfl 67 _ _ _ rfl und3 69 undE tm k (pv (trn p (cn + 1) k)) (k : Int) (ent (cn + 1, x.2)) rfl rfl rfl hTr.drew (by omega) (kOk_small (by omega) hlt') ?_
      intro w7 m7 hu7'
      go_wp2_with fail
      have hu7 : Upd wr w7 tm := ⟨hu7'.os, hu7'.tape, hu7'.output, hu7'.size, hu7'.block⟩
      rw [HST.out] at m7
      have hvw' := hvw.out
      have htm' := htm.out
      exact ⟨⟨k + 1, by omega, by go_num, m7, hVr.upd hu7 (by omega) (by omega), below_upd hbr hu7 (by omega)⟩, by simp [intOf]; omega⟩
    · have hk2 : k = 32 := by omega
      subst hk2
      have hcc := HC.out
      clear hc0 hc1 he0 he1
      have he0 := hcc.2.2.1
      have he1 := hcc.2.2.2.1
      go_wp2_with fail
      refine (epoch_any wr vb d c sec cn en f r mb n p false hVr).mono ?_
      rintro e w5 ⟨rfl, hw5⟩
      obtain rfl : wr = w5 := hw5.symm
      clear hw5
      go_wp2_with fail
      refine (become_bad vb d c sec cn en f r mb n p (en + 1) tm 32 (trn p (cn + 1) 32) O x0 y n0 wr hVr hTr hx0 (by obtain ⟨v, lf, h⟩ := HDD.out; exact ⟨v, lf, h.below hbr⟩) (hC.below hbr hC.lt) hcc.2.2.2.2 ?_ (by omega) hcc.1 hcc.2.1 (by omega) (by omega) ?_ ?_ hsec hW HY.out HYB.out (fun k hk => Nat.lt_of_lt_of_le (HO.out k hk) hbr.size) o2 o3 o4 (hK.below hbr)).mono ?_
      · intro i hi hs'
        unfold trn at hs'
        by_cases e : 0 ≤ i ∧ i < ((32 : Nat) : Int)
        · omega
        · rw [if_neg e] at hs'; cases hs'
      · intro j hj
        have e : nxP p (trn p (cn + 1) 32) (j : Int) = some (cn + 1, (rd p (j : Int)).2) := by unfold nxP trn; rw [if_pos (by omega)]; rfl
        have := HP.out j hj
        unfold rd at this ⊢
        rw [e]
        simp only [Option.getD_some]
        unfold rd
        omega
      · intro k hk x hx
        have e : trn p (cn + 1) 32 (k : Int) = some (cn + 1, (rd p (k : Int)).2) := by unfold trn; rw [if_pos (by omega)]
        rw [e] at hx
        injection hx with hx
        subst hx
        exact ⟨by show 1 ≤ cn + 1; omega, by show cn + 1 ≤ _; omega, HP.out k hk⟩
      · rintro e w6 ⟨rfl, hV6, ⟨O6, hD6, hO6⟩, hC6, C6⟩
        have hz := hbr.size
        go_wp2_with fail
        go_ret
        refine ⟨rfl, hV6, ⟨O6, hD6, fun k hk => ?_⟩, hC6, chg_then (Dv.Chg.of hbr _) C6 fun k _ h => h⟩
        rcases hO6 k hk with h | h
        · exact Or.inl h
        · exact Or.inr ⟨by omega, h.2⟩
set_option maxRecDepth 100000 in
set_option maxHeartbeats 1000000 in
theorem turnF_good (vb d c : Nat) (sec : ByteArray) (cn en : Int) (f : Nat → Bool) (r : ByteArray) (mb n : Nat) (p : Int → Option (Int × ByteArray)) (O : Nat → Prop) (x0 y : Fz) (n0 : Int) (w : World)
    (hV : Vlt w vb d c sec cn en f r mb n p false) (hx0 : x0.b = false) (hD : x0.At w O d) (hC : Dv.Cnt w c n0) (hm : n0 < cn + 1)
    (hn : n + 32 ≤ 100000) (hc0 : 0 ≤ cn) (hc1 : cn < 1099511627776) (he0 : 0 ≤ en) (he1 : en < 1099511627776) (hp : ∀ j : Nat, j < 32 → (rd p j).2.size ≤ 200)
    (hsec : sec.size ≤ 300) (hW : x0.W.length ≤ 100) (hy : y = x0.all (sl (epoK sec (en + 1)) (nxF f (trn p (cn + 1) 32)) (trn p (cn + 1) 32) 32) ((cn + 1).toNat % 2) (Su.allT (supK sec) (cn + 1) (en + 1) (nxF f (trn p (cn + 1) 32)) (rootP (nxP p (trn p (cn + 1) 32))))) (hyb : y.b = false) (hO : ∀ k, O k → k < w.heap.size) (o2 : ¬ O vb) (o3 : ¬ O c) (o4 : vb ≠ c) (hK : Sm.KB w) :
    Calls Tryz.prog 10 #[.pointer (some ⟨vb, 0, none⟩)] w fun e w' => e = .returned .nilIface ∧
      (∃ CB n', Vlt w' vb d c sec (cn + 1) (en + 1) (nxF f (trn p (cn + 1) 32)) (rootP (nxP p (trn p (cn + 1) 32))) CB n' (nxP p (trn p (cn + 1) 32)) false ∧ w.heap.size ≤ CB ∧ n' ≤ n + 32) ∧
      (∃ O', y.At w' O' d ∧ ∀ k, O' k → Dv.gro O w w' k) ∧ Dv.Cnt w' c (cn + 1) ∧ Dv.Chg w w' (fun k => O k ∨ k = c ∨ k = vb) := by
  have HY : Hid _ := hy
  have HYB : Hid _ := hyb
  have HDD : Hid (x0.At w O d) := hD
  clear hy hyb hD
  have HP : Hid (∀ j : Nat, j < 32 → (rd p j).2.size ≤ 200) := hp
  have HC : Hid (0 ≤ cn ∧ cn < 1099511627776 ∧ 0 ≤ en ∧ en < 1099511627776 ∧ n0 < cn + 1) := ⟨hc0, hc1, he0, he1, hm⟩
  have HO : Hid (∀ k, O k → k < w.heap.size) := hO
  clear hp hm hO
  have hmk := mkMap w
  have g3 := Pg.below_alloc w (.map #[] 0)
  have t3 : MapF Tryz.prog (w.alloc (.map #[] 0)) w.heap.size 0 (pv (trn p (cn + 1) 0)) := (mapF_made Tryz.prog w).congr fun i _ => by unfold pv trn; rw [if_neg (by omega)]; rfl
  have hV3 := hV.below g3 hV.blk.lt hV.map.lt
  have hvw : Hid (vb < w.heap.size ∧ mb < w.heap.size) := ⟨hV.blk.lt, hV.map.lt⟩
  go_enter Tryz.func10, Tryz.ntmps10
  go_wp2_with fail
  refine (ready_any w vb d c sec cn en f r mb n p false hV).mono ?_
  rintro e w1 ⟨rfl, hw1⟩
  obtain rfl : w = w1 := hw1.symm
  clear hw1
  simp only [Bool.not_false]
  go_wp2_with fail
  generalize w.alloc (.map #[] 0) = w3 at *
  obtain ⟨tm, htm⟩ : ∃ tm, Hid (w.heap.size = tm) := ⟨_, rfl⟩
  rw [htm.out] at t3
  rw [htm.out]
  clear hmk hV
  go_loopw [10] (fun i wr => ∃ k : Nat, k ≤ 32 ∧ i = .int .i64 k ∧ MapF Tryz.prog wr tm k (pv (trn p (cn + 1) k)) ∧ Vlt wr vb d c sec cn en f r mb n p false ∧ Below w.heap.size w wr) (fun i _ => 32 - (intOf i).toNat)
  case atStart => exact ⟨0, by omega, rfl, t3, hV3, g3⟩
  case round =>
    clear t3 hV3 g3
    obtain ⟨k, hk, rfl, hTr, hVr, hbr⟩ := hrel
    by_cases hlt : k < 32
    · have hlt' : (k : Int) < 32 := by omega
      have hlk := run_lookV (w := wr.drew) (t := 67) und3 undE _ zeroE (Or.inr ⟨mb, rfl, hVr.map.drew⟩) (kOk_small (i := (k : Int)) (by omega) hlt')
      rw [pv_get] at hlk
      unfold ent at hlk
      have c38 : wr.drew.cell? ⟨vb, 38, none⟩ = some (.map (some mb)) := hVr.c38
      have hfe := fldE
      have hst := trn_step p (cn + 1) k
      have HST : Hid _ := hst
      clear hst
      have hbE := buildE' (cn + 1) (rd p (k : Int)).2
      generalize rd p (k : Int) = x at *
      go_wp2_with fail
      refine region_s [(0, true), (1, true), (2, true), (5, true), (6, true), (7, true), (8, true), (9, false), (10, true), (11, false), (12, true)] [3, 4, 13] [14] (fun w' => w' = wr.drew) Tr.mixed (by kernel_rfl) (fun _ _ _ _ _ h => h) rfl ?_
      refine lead_pure _ rfl _ rfl rfl (.map (some tm)) (fun w' => by go_simp) ?_
      refine lead_pure _ rfl _ rfl rfl (.int .i64 (k : Int)) (fun w' => by go_simp) ?_
      refine lead_pure _ rfl _ rfl rfl (.pointer (some ⟨vb, 0, none⟩)) (fun w' => by go_simp) ?_
      refine lead_pure _ rfl _ rfl rfl (.pointer (some ⟨vb, 0, none⟩)) (fun w' => by go_simp) ?_
      refine lead_pure _ rfl _ rfl rfl (.pointer (some ⟨vb, 0, none⟩)) (fun w' => by go_simp) ?_
      refine lead_pure _ rfl _ rfl rfl (.pointer (some ⟨vb, 3, none⟩)) (fun w' => by go_simp) ?_
      refine lead_pure _ rfl _ rfl rfl (.pointer (some ⟨vb, 38, none⟩)) (fun w' => by go_simp) ?_
      refine lead_read _ rfl _ rfl rfl (.map (some mb)) (fun w' hS => by subst hS; go_simp) ?_
      refine lead_pure _ rfl _ rfl rfl (.int .i64 (k : Int)) (fun w' => by go_simp) ?_
      refine lead_read _ rfl _ rfl rfl (.agg #[.int .i64 x.1, .string x.2]) (fun w' hS => by subst hS; go_simp) ?_
      refine lead_pure _ rfl _ rfl rfl (.string x.2) (fun w' => by go_simp) ?_
      simp only [lead_nil_eq]
      simp only [Act.put, List.setIfInBounds_toArray, List.set_cons_succ, List.set_cons_zero]
      refine mid_cons _ rfl rfl fun K hK => ?_
      go_wp2_with fail
      refine (count_any wr.drew vb d c sec cn en f r mb n p false (hVr.same rfl rfl)).mono ?_
      rintro e w5 ⟨rfl, hw5⟩
      obtain rfl := hw5
      refine hK _ _ rfl ?_
      clear hK K
      refine mid_cons _ rfl rfl fun K hK => ?_
      go_wp2_with fail
      refine hK _ _ rfl ?_
      clear hK K
      refine mid_cons _ rfl rfl fun K hK => ?_
      go_wp2_with fail
      refine hK _ _ rfl ?_
      clear hK K
      simp only [mid_nil_eq]
      simp only [List.filterMap_cons, List.getElem?_toArray, List.getElem?_cons_succ, List.getElem?_cons_zero, List.filterMap_nil]
      refine wpl_putF rfl rfl 67 _ _ _ rfl und3 69 undE tm k (pv (trn p (cn + 1) k)) (k : Int) (ent (cn + 1, x.2)) rfl rfl rfl hTr.drew (by omega) (kOk_small (by omega) hlt') ?_
      intro w7 m7 hu7'
      go_wp2_with fail
      have hu7 : Upd wr w7 tm := ⟨hu7'.os, hu7'.tape, hu7'.output, hu7'.size, hu7'.block⟩
      rw [HST.out] at m7
      have hvw' := hvw.out
      have htm' := htm.out
      exact ⟨⟨k + 1, by omega, by go_num, m7, hVr.upd hu7 (by omega) (by omega), below_upd hbr hu7 (by omega)⟩, by simp [intOf]; omega⟩
    · have hk2 : k = 32 := by omega
      subst hk2
      have hcc := HC.out
      clear hc0 hc1 he0 he1
      have he0 := hcc.2.2.1
      have he1 := hcc.2.2.2.1
      go_wp2_with fail
      refine (epoch_any wr vb d c sec cn en f r mb n p false hVr).mono ?_
      rintro e w5 ⟨rfl, hw5⟩
      obtain rfl : wr = w5 := hw5.symm
      clear hw5
      go_wp2_with fail
      refine (become_good vb d c sec cn en f r mb n p (en + 1) tm 32 (trn p (cn + 1) 32) O x0 y n0 wr hVr hTr hx0 (by obtain ⟨v, lf, h⟩ := HDD.out; exact ⟨v, lf, h.below hbr⟩) (hC.below hbr hC.lt) hcc.2.2.2.2 ?_ (by omega) hcc.1 hcc.2.1 (by omega) (by omega) ?_ ?_ hsec hW HY.out HYB.out (fun k hk => Nat.lt_of_lt_of_le (HO.out k hk) hbr.size) o2 o3 o4 (hK.below hbr)).mono ?_
      · intro i hi hs'
        unfold trn at hs'
        by_cases e : 0 ≤ i ∧ i < ((32 : Nat) : Int)
        · omega
        · rw [if_neg e] at hs'; cases hs'
      · intro j hj
        have e : nxP p (trn p (cn + 1) 32) (j : Int) = some (cn + 1, (rd p (j : Int)).2) := by unfold nxP trn; rw [if_pos (by omega)]; rfl
        have := HP.out j hj
        unfold rd at this ⊢
        rw [e]
        simp only [Option.getD_some]
        unfold rd
        omega
      · intro k hk x hx
        have e : trn p (cn + 1) 32 (k : Int) = some (cn + 1, (rd p (k : Int)).2) := by unfold trn; rw [if_pos (by omega)]
        rw [e] at hx
        injection hx with hx
        subst hx
        exact ⟨by show 1 ≤ cn + 1; omega, by show cn + 1 ≤ _; omega, HP.out k hk⟩
      · rintro e w6 ⟨rfl, ⟨CB, hV6, hCB⟩, ⟨O6, hD6, hO6⟩, hC6, C6⟩
        have hz := hbr.size
        go_wp2_with fail
        go_ret
        refine ⟨rfl, ⟨CB, _, hV6, by omega, Nat.le_refl _⟩, ⟨O6, hD6, fun k hk => ?_⟩, hC6, chg_then (Dv.Chg.of hbr _) C6 fun k _ h => h⟩
        rcases hO6 k hk with h | h
        · exact Or.inl h
        · exact Or.inr ⟨by omega, h.2⟩
end Go.Proofs.YtkapkphhceknfaaGreatDoor.Vt
