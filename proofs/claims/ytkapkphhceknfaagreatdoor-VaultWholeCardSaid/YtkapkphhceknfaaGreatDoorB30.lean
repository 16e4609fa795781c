/-
  Part of the proof: maps.Clone, and the state of one Count more, are walked.
  Part of the proof: the state of one Count more is walked.
-/
import Derived.Test.YtkapkphhceknfaaGreatDoorB29
import Derived.Test.YtkapkphhceknfaaGreatDoorB18
import Derived.Shelf.SlMaps.Clone
namespace Go.Proofs.YtkapkphhceknfaaGreatDoor.Vt
open Go.RowKit
set_option maxRecDepth 100000 in
set_option maxHeartbeats 2000000 in
theorem clone_any (b n : Nat) (g : Int → Option Value) (w : World) (hM : MapF Tryz.prog w b n g) :
    Calls Tryz.prog 48 #[.map (some b)] w fun e w' => e = .returned (.map (some w.heap.size)) ∧ MapF Tryz.prog w' w.heap.size n g ∧ Below w.heap.size w w' ∧ w'.heap.size = w.heap.size + 1 := by
  obtain ⟨D, ⟨es, clock, hb, F, hs, hD⟩, hT⟩ := hM
  have hq := fun w => run_eql_map_nil_sl (P := Tryz.prog) w 67 3 69 (some b) undE
  go_enter Tryz.func48, Tryz.ntmps48
  go_wp2
  rw [run_callFunc_extern Tryz.func69 (by kernel_rfl) (by kernel_rfl) (by kernel_rfl) (e := Extern.MapsClone.clone) (by kernel_rfl), run_maps_clone_sl w 67 hb]
  simp only [Result.andThen]
  rw [Oper.upon_value]
  go_wp2
  rw [run_typeAssert_map_sl _ 67 20 _ _ _ undE]
  simp only [Result.andThen]
  rw [Oper.upon_value]
  go_wp2
  go_ret
  refine ⟨rfl, ⟨D, ⟨es, clock, (MapKept.heap_alloc w _).1, F, hs, hD⟩, hT⟩, Pg.below_alloc w _, by simp⟩
section
variable {P : Program} {ops : Array Oper} {Q : Exit → Act → World → Prop} {a : Act} {w : World} {rest : List Oper} {o : Oper}
/-- One cell written into its block. -/
theorem wpl_put1 (hgd : o.guard = none) (hdn : o.dst = none) (t : TypeId) (x y : Operand) (ho : o.op = .store t x y) (hi0 : (P.info? t).map (·.size) = some 1)
    (b j : Nat) (arr : Array Value) (T : TypeId) (z : Value) (hz : z.oneCell' = true) (hzc : z.cells = #[z]) (hx : a.eval x = .pointer (some ⟨b, j, none⟩)) (hy : a.eval y = z) (hb : Blk w b arr T) (hj : j < arr.size)
    (h : ∀ w', Upd w w' b → Blk w' b (arr.setIfInBounds j z) T → wpList P ops Q rest a w') : wpList P ops Q (o :: rest) a w := by
  refine wpList_plain hgd fun K hK => ?_
  obtain ⟨i, hi, hsize⟩ := Option.map_eq_some_iff.1 hi0
  unfold Oper.wp execOp
  have ha : (⟨b, j, none⟩ : Addr).add 0 = ⟨b, j, none⟩ := by unfold Addr.add; simp
  have hl : (storeCells ⟨b, j, none⟩ [z] 0).run P w = .ok () (w.setCell ⟨b, j, none⟩ z) := by
    simp only [storeCells, Sem.run_bind, ha]
    rw [run_store _ _ _ _ _ hz, hb.cell, Array.getElem?_eq_getElem hj]
    simp only [hb.frozen, Bool.false_eq_true, if_false, Result.andThen_ok]
    rfl
  simp only [ho, hx, hy, Instr.storeAt, Instr.sureAddr, storeVar, sizeOf, typeInfo, hi, hsize, Sem.run_bind, Sem.run_pure, run_program, Result.andThen_ok, hzc, List.size_toArray, List.length_cons, List.length_nil, Nat.zero_add, ne_eq, not_true, if_false, hl]
  simp only [Oper.upon_skip, hdn, Act.put]
  exact hK _ _ (h _ (setCell_upd _ _ _ _) (hb.set j _))
variable {l : List Oper} {S : World → Prop} {fuel : Nat} {listed : Array Bool}
/-- What follows a region, told once for all its orders. -/
theorem wpS_fork (Facts : Nat → Nat → World → Prop) (vals : Nat → Nat → List (Nat × Value)) (hfin : ∀ x y W, Facts x y W → Q .normal ((vals x y).foldl (fun a z => a.put (some z.1) z.2) a) W)
    (h : (∀ x y W, Facts x y W → Q .normal ((vals x y).foldl (fun a z => a.put (some z.1) z.2) a) W) → wpS P l Q S fuel listed a w) : wpS P l Q S fuel listed a w := h hfin
end
/-- The pages of one Count more. -/
def nxP (p t : Int → Option (Int × ByteArray)) (i : Int) : Option (Int × ByteArray) := (t i).or (p i)
def nxF (f : Nat → Bool) (t : Int → Option (Int × ByteArray)) (j : Nat) : Bool := if (t (j : Int)).isSome then !f j else f j
def cutP (t : Int → Option (Int × ByteArray)) (left : Int → Bool) (i : Int) : Option (Int × ByteArray) := if left i then none else t i
theorem stA_congr (c e : Int) (f g : Nat → Bool) (r : ByteArray) (m : Value) (h : ∀ j, j < 32 → f j = g j) : stA c e f r m = stA c e g r m := by
  unfold stA; rw [Su.supA_congr c e f g r h]
theorem buildSt (c e : Int) (f : Nat → Bool) (r : ByteArray) (m : Option Nat) (w : World) : (Instr.build 74 #[(0, .agg (Su.supA c e f r)), (1, .map m)]).run Tryz.prog w = .ok (.agg (stA c e f r (.map m))) w := run_build w 74 _ _ (by kernel_rfl)
def st0 : Array Value := stA 0 0 (fun _ => false) ⟨#[]⟩ (.map none)
theorem zeroSt : ∀ w, (zeroValue 74).run Tryz.prog w = .ok (.agg st0) w := fun w => (Tryz.zeroValue74 w).trans (by kernel_rfl)
theorem buildSt0 (w : World) : (Instr.build 74 #[]).run Tryz.prog w = .ok (.agg st0) w := run_build w 74 _ _ (by kernel_rfl)
/-- What lies in memory while the next state is made. -/
structure Bh (W : World) (w : World) (B NB CB tm : Nat) (V Z X : Array Value) (n nt : Nat) (g : Int → Option Value) (t : Int → Option (Int × ByteArray)) : Prop where
  nb : Blk W NB X 74
  cb : MapF Tryz.prog W CB n g
  b0 : Blk W B V 74
  b1 : Blk W (B + 1) Z 74
  tt : MapF Tryz.prog W tm nt (pv t)
  lo : Below w.heap.size w W
  h1 : w.heap.size = B
  h2 : B + 2 ≤ NB
  h3 : B + 2 ≤ CB
  h4 : NB ≠ CB
  h5 : tm < B
section
variable {W W' w : World} {B NB CB tm : Nat} {V Z X : Array Value} {n nt : Nat} {g : Int → Option Value} {t : Int → Option (Int × ByteArray)}
theorem Bh.upd {x : Nat} (h : Bh W w B NB CB tm V Z X n nt g t) (hu : Upd W W' x) (h1 : NB ≠ x) (h2 : CB ≠ x) (h3 : B + 2 ≤ x) : Bh W' w B NB CB tm V Z X n nt g t :=
  ⟨h.nb.upd hu h1, h.cb.upd hu h2, h.b0.upd hu (by omega), h.b1.upd hu (by omega), h.tt.upd hu (by have := h.h5; omega), below_upd h.lo hu (by have := h.h1; omega), h.h1, h.h2, h.h3, h.h4, h.h5⟩
theorem Bh.below (h : Bh W w B NB CB tm V Z X n nt g t) (hb : Below W.heap.size W W') : Bh W' w B NB CB tm V Z X n nt g t :=
  ⟨h.nb.below hb h.nb.lt, h.cb.below hb h.cb.lt, h.b0.below hb h.b0.lt, h.b1.below hb h.b1.lt, h.tt.below hb h.tt.lt, h.lo.trans (hb.mono h.lo.size), h.h1, h.h2, h.h3, h.h4, h.h5⟩
theorem Bh.setN {X' : Array Value} (h : Bh W w B NB CB tm V Z X n nt g t) (hu : Upd W W' NB) (j : Blk W' NB X' 74) : Bh W' w B NB CB tm V Z X' n nt g t :=
  ⟨j, h.cb.upd hu h.h4.symm, h.b0.upd hu (by have := h.h2; omega), h.b1.upd hu (by have := h.h2; omega), h.tt.upd hu (by have := h.h5; have := h.h2; omega), below_upd h.lo hu (by have := h.h1; have := h.h2; omega), h.h1, h.h2, h.h3, h.h4, h.h5⟩
theorem Bh.setC {n' : Nat} {g' : Int → Option Value} (h : Bh W w B NB CB tm V Z X n nt g t) (hu : Upd W W' CB) (m : MapF Tryz.prog W' CB n' g') : Bh W' w B NB CB tm V Z X n' nt g' t :=
  ⟨h.nb.upd hu h.h4, m, h.b0.upd hu (by have := h.h3; omega), h.b1.upd hu (by have := h.h3; omega), h.tt.upd hu (by have := h.h5; have := h.h3; omega), below_upd h.lo hu (by have := h.h1; have := h.h3; omega), h.h1, h.h2, h.h3, h.h4, h.h5⟩
theorem Bh.to {X' : Array Value} {g' : Int → Option Value} (h : Bh W w B NB CB tm V Z X n nt g t) (e : X = X') (hg : ∀ i, kOk i → g' i = g i) : Bh W w B NB CB tm V Z X' n nt g' t :=
  ⟨e ▸ h.nb, h.cb.congr hg, h.b0, h.b1, h.tt, h.lo, h.h1, h.h2, h.h3, h.h4, h.h5⟩
end
end Go.Proofs.YtkapkphhceknfaaGreatDoor.Vt
namespace Go.Proofs.YtkapkphhceknfaaGreatDoor.Vt
open Go.RowKit
theorem st0_size : st0.size = 36 := stA_size _ _ _ _ _
theorem st0_one : ∀ v ∈ st0.toList, v.oneCell' = true := stA_one _ _ _ _ _ rfl
theorem cut_all (t : Int → Option (Int × ByteArray)) : cutP t (fun i => (pv t i).isSome) = fun _ => none := by
  funext i; unfold cutP pv; cases h : t i <;> simp [h]
theorem nxP_none (p : Int → Option (Int × ByteArray)) : nxP p (fun _ => none) = p := by funext i; rfl
theorem nxF_none (f : Nat → Bool) : nxF f (fun _ => none) = f := by funext i; rfl
theorem cut_step {t : Int → Option (Int × ByteArray)} {left : Int → Bool} {i : Int} {x : Int × ByteArray} (h : t i = some x) (hl : left i = true) (j : Int) : cutP t (fun j => left j && !decide (j = i)) j = if j = i then some x else cutP t left j := by
  unfold cutP
  by_cases e : j = i
  · subst e; simp [h]
  · simp [e]
theorem pv_nx_step {p t : Int → Option (Int × ByteArray)} {left : Int → Bool} {i : Int} {x : Int × ByteArray} (h : t i = some x) (hl : left i = true) : (fun j => if j = i then some (ent x) else pv (nxP p (cutP t left)) j) = pv (nxP p (cutP t fun j => left j && !decide (j = i))) := by
  funext j
  unfold pv nxP
  rw [cut_step h hl]
  by_cases e : j = i
  · rw [if_pos e, if_pos e]; rfl
  · rw [if_neg e, if_neg e]
theorem nxF_step {f : Nat → Bool} {t : Int → Option (Int × ByteArray)} {left : Int → Bool} {k : Nat} {x : Int × ByteArray} (h : t (k : Int) = some x) (hl : left (k : Int) = true) (j : Nat) : Su.putF (nxF f (cutP t left)) k (!f k) j = nxF f (cutP t fun i => left i && !decide (i = (k : Int))) j := by
  unfold Su.putF nxF
  rw [cut_step h hl]
  by_cases e : j = k
  · subst e; simp
  · have e' : ¬ ((j : Int) = (k : Int)) := by omega
    rw [if_neg e, if_neg e']
theorem pv_inv {t : Int → Option (Int × ByteArray)} {i : Int} {u : Value} (h : pv t i = some u) : ∃ x, t i = some x ∧ u = ent x := by
  unfold pv at h
  cases hg : t i with
  | none => rw [hg] at h; cases h
  | some s => rw [hg] at h; injection h with h; exact ⟨s, rfl, h.symm⟩
theorem szB : (Tryz.prog.info? 4).map (·.size) = some 1 := by kernel_rfl
theorem szI : (Tryz.prog.info? 3).map (·.size) = some 1 := by kernel_rfl
theorem szT : (Tryz.prog.info? 9).map (·.size) = some 1 := by kernel_rfl
set_option maxRecDepth 100000 in
set_option maxHeartbeats 2000000 in
theorem behind_any (cn en : Int) (f : Nat → Bool) (r : ByteArray) (mb n : Nat) (p : Int → Option (Int × ByteArray)) (ep : Int) (tm nt : Nat) (t : Int → Option (Int × ByteArray)) (w : World) (hM : MapF Tryz.prog w mb n (pv p)) (hT : MapF Tryz.prog w tm nt (pv t))
    (hk : ∀ i, kOk i → (t i).isSome = true → 0 ≤ i ∧ i < 32) (hn : n + nt ≤ 100000) (hc0 : 0 ≤ cn) (hc1 : cn ≤ 1099511627776) (hs : ∀ j : Nat, j < 32 → (rd (nxP p t) j).2.size ≤ 300) (hK : Sm.KB w) :
    Calls Tryz.prog 36 #[.agg (stA cn en f r (.map (some mb))), .int .i64 ep, .map (some tm)] w fun e w' =>
      (∃ CB, e = .returned (.tuple #[.agg (stA (cn + 1) ep (nxF f t) (rootP (nxP p t)) (.map (some CB))), .nilIface]) ∧ MapF Tryz.prog w' CB (n + nt) (pv (nxP p t)) ∧ w.heap.size ≤ CB) ∧ Below w.heap.size w w' := by
  have HK : Hid (∀ i, kOk i → (t i).isSome = true → 0 ≤ i ∧ i < 32) := hk
  have HS : Hid (∀ j : Nat, j < 32 → (rd (nxP p t) j).2.size ≤ 300) := hs
  clear hk hs
  have zV := stA_size cn en f r (.map (some mb))
  have hsup := stA_sup cn en f r (.map (some mb)) 35 rfl
  have h35 := stA_35 cn en f r (.map (some mb))
  have HV : Hid (∀ j, j < 32 → (stA cn en f r (.map (some mb)))[2 + j]? = some (.bool (f j))) := fun j hj => stA_side cn en f r _ j hj
  obtain ⟨V, hV⟩ : ∃ V, Hid (stA cn en f r (.map (some mb)) = V) := ⟨_, rfl⟩
  rw [hV.out] at zV hsup h35 HV
  rw [hV.out]
  clear hV
  have zs := zeroSt
  have zZ := st0_size
  have oZ := st0_one
  obtain ⟨Z, hZ⟩ : ∃ Z, Hid (st0 = Z) := ⟨_, rfl⟩
  rw [hZ.out] at zZ oZ
  simp only [hZ.out] at zs
  clear hZ
  go_enter Tryz.func36, Tryz.ntmps36
  go_wp2_with fail
  have j0 := (Blk.new w V 74).alloc (.cells Z 74)
  have j1 : Blk ((w.alloc (.cells V 74)).alloc (.cells Z 74)) (w.heap.size + 1) Z 74 := Blk.new' _ _ _ (by simp)
  have g0 : Below w.heap.size w ((w.alloc (.cells V 74)).alloc (.cells Z 74)) := ((Below.refl _ _).alloc (Nat.le_refl _) _).alloc (by simp) _
  have z0 : ((w.alloc (.cells V 74)).alloc (.cells Z 74)).heap.size = w.heap.size + 2 := by simp
  have m0 := hM.below g0 hM.lt
  have t0 := hT.below g0 hT.lt
  obtain ⟨B, hB⟩ : ∃ B, Hid (w.heap.size = B) := ⟨_, rfl⟩
  have hmB : Hid (mb < B) := by unfold Hid; rw [← hB.out]; exact hM.lt
  have htB : Hid (tm < B) := by unfold Hid; rw [← hB.out]; exact hT.lt
  generalize (w.alloc (.cells V 74)).alloc (.cells Z 74) = w1 at *
  rw [hB.out] at j0 j1 z0
  rw [hB.out]
  clear hM hT
  have HW : Hid (∀ W', Below w1.heap.size w1 W' → Blk W' B V 74 ∧ Blk W' (B + 1) Z 74 ∧ MapF Tryz.prog W' mb n (pv p) ∧ MapF Tryz.prog W' tm nt (pv t) ∧ Below w.heap.size w W') := fun W' hb =>
    ⟨j0.below hb j0.lt, j1.below hb j1.lt, m0.below hb m0.lt, t0.below hb t0.lt, g0.trans (hb.mono g0.size)⟩
  refine regS_in 8 (fun W' => Below w1.heap.size w1 W') Tr.mixed rfl ?_
  have s0 : Below w1.heap.size w1 w1.drew := below_drewN (Below.refl _ _) 1
  refine regS_take 0 13 (.pointer (some ⟨B, 0, none⟩)) rfl rfl (by kernel_rfl) (fun _ _ _ h => h) rfl (fun w _ => by go_simp) s0 ?_
  refine regS_take 1 14 (.agg (Su.supA cn en f r)) rfl rfl (by kernel_rfl) (fun _ _ _ h => h) rfl (fun W' hs => Su.exec_load 72 _ rfl ⟨B, 0, none⟩ rfl _ (by rw [Su.loadV_run W' _ Tryz.isAgg72 35 Su.sz93 B 0 V _ (HW.out W' hs).1 (by omega), Nat.zero_add, hsup])) s0 ?_
  refine regS_take 2 15 (.pointer (some ⟨B, 35, none⟩)) rfl rfl (by kernel_rfl) (fun _ _ _ h => h) rfl (fun w _ => by go_simp) s0 ?_
  refine regS_take 3 16 (.map (some mb)) rfl rfl (by kernel_rfl) (fun _ _ _ h => h) rfl (fun W' hs => by have c0 : W'.cell? ⟨B, 35, none⟩ = some (.map (some mb)) := (by rw [(HW.out W' hs).1.cell, h35]); go_simp) s0 ?_
  simp only [Act.put, List.setIfInBounds_toArray, List.set_cons_succ, List.set_cons_zero]
  refine wpS_fork (fun NB CB W => Bh W w B NB CB tm V Z (stA cn en f r (.map (some CB))) n nt (pv p) t) (fun NB CB => [(17, .map (some CB)), (18, .agg (stA cn en f r (.map (some CB)))), (8, .pointer (some ⟨NB, 0, none⟩))]) ?_ ?_
  · intro NB CB W hBh
    clear HW s0 j0 j1 m0 t0 g0 z0
    simp only [List.foldl, Act.put, List.setIfInBounds_toArray, List.set_cons_succ, List.set_cons_zero]
    generalize Value.agg (stA cn en f r (.map (some CB))) = X18
    generalize Value.agg (Su.supA cn en f r) = X14
    have hX0 := stA_size cn en f r (.map (some CB))
    have hX1 := stA_set0 cn en f r (.map (some CB)) (cn + 1)
    have hX2 := stA_set1 (cn + 1) en f r (.map (some CB)) ep
    have cc : W.cell? ⟨NB, 0, none⟩ = some (.int .i64 cn) := by rw [hBh.nb.cell, stA_0]
    have h2 := hBh.h2
    have h3 := hBh.h3
    have h5 := hBh.h5
    go_wp2_with (first
      | (refine wpl_put1 rfl rfl 3 _ _ rfl szI NB 0 _ 74 (.int .i64 (cn + 1)) rfl rfl rfl rfl hBh.nb (by omega) ?_; intro w2 hu2 j2; rw [hX1] at j2; have H2 := hBh.setN hu2 j2; have y2 := stA_size (cn + 1) en f r (.map (some CB)))
      | (refine wpl_put1 rfl rfl 3 _ _ rfl szI NB 1 _ 74 (.int .i64 ep) rfl rfl rfl rfl H2.nb (by omega) ?_; intro w3 hu3 j3; rw [hX2] at j3; have H3 := H2.setN hu3 j3)
      | (refine wpl_rangeV rfl 67 _ rfl und3 69 undE (.map (some tm)) nt (pv t) rfl (Or.inr ⟨tm, rfl, H3.tt⟩) ?_; intro w4 cnt4 hR4 hc4 hb4 hz4; have H4 := H3.below hb4)
      | fail)
    have hNR : Hid (NB < w3.heap.size) := H3.nb.lt
    have hCR : Hid (CB < w3.heap.size) := H3.cb.lt
    have hBR : Hid (B + 2 ≤ w3.heap.size) := by have := H3.nb.lt; unfold Hid; omega
    have H4' : Bh w4 w B NB CB tm V Z (stA (cn + 1) ep (nxF f (cutP t fun i => (pv t i).isSome)) r (.map (some CB))) n nt (pv (nxP p (cutP t fun i => (pv t i).isSome))) t := by
      rw [cut_all, nxF_none, nxP_none]; exact H4
    obtain ⟨R, hR⟩ : ∃ R, Hid (R = w3.heap.size) := ⟨_, rfl⟩
    rw [← hR.out] at hR4 hNR hCR hBR
    rw [← hR.out]
    simp only [Act.put, List.setIfInBounds_toArray, List.set_cons_succ, List.set_cons_zero]
    clear hR H3 H2 H4 hu2 hu3 j2 j3 hb4 hz4 hX1 hX2 y2 hX0 cc hBh
    go_loopw [] (fun wr => ∃ left cnt n', RngV Tryz.prog wr (.map (some tm)) R nt (pv t) left cnt ∧ n' + cnt ≤ n + nt ∧ Bh wr w B NB CB tm V Z (stA (cn + 1) ep (nxF f (cutP t left)) r (.map (some CB))) n' nt (pv (nxP p (cutP t left))) t) (fun wr => rleft wr R)
    case atStart => exact ⟨_, _, _, hR4, by omega, H4'⟩
    case round =>
      clear H4' hR4 hc4
      obtain ⟨left, cnt, n', hRr, hnn, hBr⟩ := hrel
      have hm0 := hRr.left_eq
      have hRlt := hRr.lt
      rcases hRr.next und3 0 with ⟨hd, hrun⟩ | ⟨i, u, w2, cnt2, hi, hl, hf, hrun, hR2, hlt, hu, hen⟩
      · have HF : stA (cn + 1) ep (nxF f (cutP t left)) r (.map (some CB)) = stA (cn + 1) ep (nxF f t) r (.map (some CB)) := stA_congr _ _ _ _ _ _ fun j hj => by
          unfold nxF cutP; rw [hd (j : Int) (kOk_small (by omega) (by omega))]; rfl
        have H1 := hBr.to (g' := pv (nxP p t)) HF fun i hi => by unfold pv nxP cutP; rw [hd i hi]; rfl
        have y1 := stA_size (cn + 1) ep (nxF f t) r (.map (some CB))
        have y2 := stA_size (cn + 1) ep (nxF f t) (rootP (nxP p t)) (.map (some CB))
        have o2 := stA_one (cn + 1) ep (nxF f t) (rootP (nxP p t)) (.map (some CB)) rfl
        have hX3 := stA_set34 (cn + 1) ep (nxF f t) r (.map (some CB)) (rootP (nxP p t))
        clear HF hBr hd hRr hm0
        go_wp2_with (first
          | (refine Su.wpl_loadV rfl 74 _ rfl Tryz.isAgg74 36 szSt NB 0 _ 74 rfl H1.nb (by omega) ?_; rw [Su.ext_all y1])
          | fail)
        refine (root_any _ _ _ _ _ n' (nxP p t) wr (Or.inr ⟨CB, rfl, H1.cb⟩) HS.out (hK.below H1.lo)).mono ?_
        rintro e' w2 ⟨rfl, g2⟩
        have H2 := H1.below g2
        generalize hq : stA (cn + 1) ep (nxF f t) (rootP (nxP p t)) (.map (some CB)) = Y at *
        go_wp2_with (first
          | (refine wpl_put1 rfl rfl 9 _ _ rfl szT NB 34 _ 74 (.string (rootP (nxP p t))) rfl rfl rfl rfl H2.nb (by omega) ?_; intro w3 hu3 j3; rw [hX3] at j3; have H3 := H2.setN hu3 j3)
          | (refine Su.wpl_loadV rfl 74 _ rfl Tryz.isAgg74 36 szSt NB 0 _ 74 rfl H3.nb (by omega) ?_; rw [Su.ext_all y2])
          | (refine Su.wpl_storeV rfl rfl 74 _ _ rfl 36 szSt (B + 1) Z 74 Y o2 rfl rfl H3.b1 zZ y2 ?_; intro w5 hu5 j5)
          | fail)
        have hCB5 := H3.cb.upd hu5 (by omega)
        have lo5 := below_upd H3.lo hu5 (by have := H3.h1; omega)
        refine Su.ret_cellV2 6 7 74 rfl Tryz.isAgg74 36 szSt (B + 1) Y 74 y2 _ rfl rfl j5 rfl ⟨⟨CB, by rw [hq]; rfl, hCB5.mono (by omega), by have := H3.h1; omega⟩, lo5⟩
      · obtain ⟨x, hti, rfl⟩ := pv_inv hf
        have hik := HK.out i hi (by rw [hti]; rfl)
        obtain ⟨k, rfl⟩ : ∃ k : Nat, i = (k : Int) := ⟨i.toNat, by omega⟩
        have hk32 : k < 32 := by omega
        have hk32' : (k : Int) < 32 := by omega
        have hm2 := hR2.left_eq
        have H2 := hBr.upd hu (Nat.ne_of_lt hNR.out) (Nat.ne_of_lt hCR.out) hBR.out
        have e1 := entC_one x
        have y1 : Hid ((stA (cn + 1) ep (nxF f (cutP t left)) r (.map (some CB))).size = 36) := stA_size (cn + 1) ep (nxF f (cutP t left)) r (.map (some CB))
        have y35 : Hid _ := stA_35 (cn + 1) ep (nxF f (cutP t left)) r (.map (some CB))
        have yput : Hid _ := stA_put (cn + 1) ep (nxF f (cutP t left)) r (.map (some CB)) k hk32 (!f k)
        have vS : Hid _ := HV.out k hk32
        have hm0' : Hid _ := hm0
        have hm2' : Hid _ := hm2
        have hti' : Hid _ := hti
        have hl' : Hid _ := hl
        clear hm0 hm2 hti hl hf
        unfold ent at hrun hen
        clear hc0 hc1 zs zV hsup h35 zZ oZ hik hRlt
        repeat (first | (go_big_may; refine Su.wpl_storeV rfl rfl 69 _ _ rfl 2 szE w2.heap.size _ 69 #[.int .i64 x.1, .string x.2] e1 rfl rfl (Blk.new w2 _ _) rfl rfl ?_; intro w3 hu3 j3) | go_values | go_skip | go_guarded | go_step | go_upon | go_back)
        have s3 : Below w2.heap.size w2 w3 := below_upd (Pg.below_alloc w2 _) hu3 (Nat.le_refl _)
        have H3 := H2.below s3
        have R3 := hR2.below s3
        have c35 : w3.cell? ⟨NB, 35, none⟩ = some (.map (some CB)) := by rw [H3.nb.cell, y35.out]
        have d0 := j3.cell 0
        have d1 := j3.cell 1
        clear hu3 s3 j3 hR2 hRr hBr H2
        go_simp
        repeat (first | (go_big_may; refine wpl_putF rfl rfl 67 _ _ _ rfl und3 69 undE CB n' (pv (nxP p (cutP t left))) (k : Int) (ent x) rfl rfl rfl H3.cb (by omega) hi ?_; intro w4 m4 hu4) | go_values | go_skip | go_guarded | go_step | go_upon | go_back)
        have H4 := H3.setC hu4 m4
        have R4 := R3.same (w' := w4) (fun b hb => by cases hb; exact hu4.block tm (by omega)) (hu4.block R (Nat.ne_of_gt hCR.out))
        have cS : w4.cell? ⟨B, 2 + k, none⟩ = some (.bool (f k)) := by rw [H4.b0.cell, vS.out]
        clear hu4 m4 c35 d0 d1 R3 H3
        go_simp
        repeat (first | (go_big_may; refine Su.wpl_putB rfl rfl 4 _ _ rfl szB NB (2 + k) _ 74 (!f k) rfl rfl H4.nb (by rw [y1.out]; omega) ?_; intro w5 hu5 j5) | go_values | go_skip | go_guarded | go_step | go_upon | go_back)
        rw [yput.out] at j5
        have H5 := H4.setN hu5 j5
        have R5 := R4.same (w' := w5) (fun b hb => by cases hb; exact hu5.block tm (by omega)) (hu5.block R (Nat.ne_of_gt hNR.out))
        have H5' := H5.to (X' := stA (cn + 1) ep (nxF f (cutP t fun j => left j && !decide (j = (k : Int)))) r (.map (some CB))) (g' := pv (nxP p (cutP t fun j => left j && !decide (j = (k : Int))))) (stA_congr _ _ _ _ _ _ fun j _ => nxF_step hti'.out hl'.out j) (fun i _ => (congrFun (pv_nx_step (p := p) hti'.out hl'.out) i).symm)
        refine ⟨⟨_, _, _, R5, by omega, H5'⟩, ?_⟩
        rw [R5.left_eq, hm0'.out]; exact hlt
  · intro hfin
    simp only [List.foldl, Act.put, List.setIfInBounds_toArray, List.set_cons_succ, List.set_cons_zero] at hfin
    refine regS_two 4 6 rfl rfl (by kernel_rfl) rfl rfl (fun K hK' => ?_) (fun K hK' => ?_)
    · go_wp2_with fail
      refine (clone_any mb n (pv p) _ (HW.out _ s0).2.2.1).mono ?_
      rintro e' w2 ⟨rfl, m2, g2, z2⟩
      have s2 : Below w1.heap.size w1 w2 := s0.trans g2
      refine hK' _ _ s2 ?_
      clear hK' K
      have z2' : w2.heap.size = B + 3 := by have : w2.heap.size = w1.heap.size + 1 := z2; omega
      have m2' : MapF Tryz.prog w2 (B + 2) n (pv p) := by rw [← z0]; exact m2
      have hb2 := fun w => buildSt cn en f r (some (B + 2)) w
      have hf2 := hfin (B + 3) (B + 2)
      have zX := stA_size cn en f r (.map (some (B + 2)))
      have oX := stA_one cn en f r (.map (some (B + 2))) rfl
      rw [show w1.drew.heap.size = B + 2 from z0]
      clear m2 z2 hfin
      generalize stA cn en f r (.map (some (B + 2))) = X at *
      generalize Su.supA cn en f r = Y at *
      refine regS_take 5 18 (.agg X) rfl rfl (by kernel_rfl) (fun _ _ _ h => h) rfl (fun w _ => Su.exec_build 74 #[(0, .tmp 14), (1, .tmp 17)] rfl _ #[(0, .agg Y), (1, .map (some (B + 2)))] (by kernel_rfl) (hb2 w)) s2 ?_
      simp only [Act.put, List.setIfInBounds_toArray, List.set_cons_succ, List.set_cons_zero]
      refine regS_one 6 rfl (by kernel_rfl) rfl (fun K hK' => ?_)
      go_wp2_with fail
      have s3 := s2.trans ((Pg.below_alloc w2 (.cells Z 74)).mono s2.size)
      refine hK' _ _ s3 ?_
      clear hK' K
      refine regS_last 7 rfl (by kernel_rfl) rfl (fun K hK' => ?_)
      refine Su.op_storeV rfl 74 (.tmp 8) (.tmp 18) rfl 36 szSt (B + 3) Z 74 X oX rfl rfl (Blk.new' w2 Z 74 z2'.symm) zZ zX ?_
      intro w4 hu4 j4
      have s4 := below_upd s3 hu4 (by omega)
      refine hK' _ _ s4 ?_
      clear hK' K
      obtain ⟨q0, q1, _, q3, q4⟩ := HW.out w4 s4
      exact hf2 w4 ⟨j4, (m2'.alloc _).upd hu4 (by omega), q0, q1, q3, q4, hB.out, by omega, by omega, by omega, htB.out⟩
    · go_wp2_with fail
      have s2 : Below w1.heap.size w1 (w1.alloc (.cells Z 74)).drew := s0.trans (Pg.below_alloc w1.drew (.cells Z 74))
      refine hK' _ _ s2 ?_
      clear hK' K
      have jz : Blk (w1.alloc (.cells Z 74)).drew (B + 2) Z 74 := by rw [← z0]; exact Blk.new w1.drew Z 74
      have z2 : (w1.alloc (.cells Z 74)).drew.heap.size = B + 3 := by show (w1.alloc (.cells Z 74)).heap.size = B + 3; simp; omega
      generalize (w1.alloc (.cells Z 74)).drew = w2 at *
      refine regS_one 4 rfl (by kernel_rfl) rfl (fun K hK' => ?_)
      go_wp2_with fail
      refine (clone_any mb n (pv p) w2 (HW.out _ s2).2.2.1).mono ?_
      rintro e' w3 ⟨rfl, m3, g3, z3⟩
      have s3 := s2.trans (g3.mono s2.size)
      refine hK' _ _ s3 ?_
      clear hK' K
      have jz3 := jz.below g3 jz.lt
      rw [z2] at m3
      rw [z2]
      have hb2 := fun w => buildSt cn en f r (some (B + 3)) w
      have hf2 := hfin (B + 2) (B + 3)
      have zX := stA_size cn en f r (.map (some (B + 3)))
      have oX := stA_one cn en f r (.map (some (B + 3))) rfl
      clear hfin jz
      generalize stA cn en f r (.map (some (B + 3))) = X at *
      generalize Su.supA cn en f r = Y at *
      refine regS_take 5 18 (.agg X) rfl rfl (by kernel_rfl) (fun _ _ _ h => h) rfl (fun w _ => Su.exec_build 74 #[(0, .tmp 14), (1, .tmp 17)] rfl _ #[(0, .agg Y), (1, .map (some (B + 3)))] (by kernel_rfl) (hb2 w)) s3 ?_
      simp only [Act.put, List.setIfInBounds_toArray, List.set_cons_succ, List.set_cons_zero]
      refine regS_last 7 rfl (by kernel_rfl) rfl (fun K hK' => ?_)
      refine Su.op_storeV rfl 74 (.tmp 8) (.tmp 18) rfl 36 szSt (B + 2) Z 74 X oX rfl rfl jz3 zZ zX ?_
      intro w4 hu4 j4
      have s4 := below_upd s3 hu4 (by omega)
      refine hK' _ _ s4 ?_
      clear hK' K
      obtain ⟨q0, q1, _, q3, q4⟩ := HW.out w4 s4
      exact hf2 w4 ⟨j4, m3.upd hu4 (by omega), q0, q1, q3, q4, hB.out, by omega, by omega, by omega, htB.out⟩
end Go.Proofs.YtkapkphhceknfaaGreatDoor.Vt
