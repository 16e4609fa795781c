/-
  Part of the proof: Tell is walked.
  Part of the proof: Tell is walked, with a fuse.
-/
import Derived.Test.YtkapkphhceknfaaGreatDoorB22
import Derived.Test.YtkapkphhceknfaaGreatDoorB23
namespace Go.Proofs.YtkapkphhceknfaaGreatDoor.Vt
open Go.RowKit
/-- The pages that are told anew: those whose text is another one. -/
def tel (g : Int → Option ByteArray) (p : Int → Option (Int × ByteArray)) (c : Int) (i : Int) : Option (Int × ByteArray) := (g i).bind fun s => if s.toList = (rd p i).2.toList then none else some (c, s)
theorem tel_some {g : Int → Option ByteArray} {p : Int → Option (Int × ByteArray)} {c i : Int} {x : Int × ByteArray} (h : tel g p c i = some x) : x.1 = c ∧ g i = some x.2 := by
  unfold tel at h
  cases hg : g i with
  | none => rw [hg] at h; cases h
  | some s =>
    rw [hg] at h
    simp only [Option.bind_some] at h
    split at h
    · cases h
    · injection h with h; subst h; exact ⟨rfl, rfl⟩
theorem cut_same {t : Int → Option (Int × ByteArray)} {left : Int → Bool} {i : Int} (h : t i = none) : cutP t (fun j => left j && !decide (j = i)) = cutP t left := by
  funext j; unfold cutP
  by_cases e : j = i
  · subst e; simp [h]
  · simp [e]
theorem pv_cut_step {t : Int → Option (Int × ByteArray)} {left : Int → Bool} {i : Int} {x : Int × ByteArray} (h : t i = some x) (hl : left i = true) : (fun j => if j = i then some (ent x) else pv (cutP t left) j) = pv (cutP t fun j => left j && !decide (j = i)) := by
  funext j
  unfold pv
  rw [cut_step h hl]
  by_cases e : j = i
  · rw [if_pos e, if_pos e]; rfl
  · rw [if_neg e, if_neg e]
theorem mkMap (w : World) : (Instr.makeMap 67 none).run Tryz.prog w = .ok (.map (some w.heap.size)) (w.alloc (.map #[] 0)) := by kernel_rfl
set_option maxRecDepth 100000 in
set_option maxHeartbeats 400000 in
theorem tell_bad (vb d c : Nat) (sec : ByteArray) (cn en : Int) (f : Nat → Bool) (r : ByteArray) (mb n : Nat) (p : Int → Option (Int × ByteArray)) (m : Value) (nm : Nat) (g : Int → Option ByteArray) (w : World) (k : Int)
    (hV : Vlt w vb d c sec cn en f r mb n p false) (hM : MapV Tryz.prog w m nm (sv g)) (hs : ∀ i s, g i = some s → s.size ≤ 10000) (hk : errV (chkC g) = .iface 41 (.int .i64 k)) :
    Calls Tryz.prog 12 #[.pointer (some ⟨vb, 0, none⟩), m] w fun e w' => e = .returned (.iface 41 (.int .i64 k)) ∧ Below w.heap.size w w' := by
  go_enter Tryz.func12, Tryz.ntmps12
  go_wp2_with fail
  refine (ready_any w vb d c sec cn en f r mb n p false hV).mono ?_
  rintro e w1 ⟨rfl, rfl⟩
  simp only [Bool.not_false]
  go_wp2_with fail
  refine (check_any m nm g _ hM hs).mono ?_
  rintro e w2 ⟨rfl, g2⟩
  rw [hk]
  go_wp2_with fail
  go_ret
  exact ⟨rfl, g2⟩
set_option maxRecDepth 100000 in
set_option maxHeartbeats 1000000 in
theorem tell_ok (vb d c : Nat) (sec : ByteArray) (cn en : Int) (f : Nat → Bool) (r : ByteArray) (mb n : Nat) (p : Int → Option (Int × ByteArray)) (m : Value) (nm : Nat) (g : Int → Option ByteArray) (O : Nat → Prop) (S : Nat → Nat → UInt8) (W : List (Nat × (Nat → UInt8))) (v : Value) (lf : Int) (n0 : Int) (w : World)
    (hV : Vlt w vb d c sec cn en f r mb n p false) (hM : MapV Tryz.prog w m nm (sv g)) (hs : ∀ i s, g i = some s → s.size ≤ 10000) (hF : ¬ Far g) (hWd : ¬ Wide g) (hD : Dv.Dev w O d S W (-1) v lf) (hC : Dv.Cnt w c n0) (hm : n0 < cn + 1)
    (hn : n + nm ≤ 100000) (hc0 : 0 ≤ cn) (hc1 : cn < 1099511627776) (he0 : 1 ≤ en) (he1 : en ≤ 1099511627776) (hp : ∀ j : Nat, j < 32 → (rd p j).2.size ≤ 300)
    (hsec : sec.size ≤ 300) (hW : W.length ≤ 100) (hO : ∀ k, O k → k < w.heap.size) (o2 : ¬ O vb) (o3 : ¬ O c) (o4 : vb ≠ c) (hK : Sm.KB w) :
    Calls Tryz.prog 12 #[.pointer (some ⟨vb, 0, none⟩), m] w fun e w' => e = .returned .nilIface ∧
      (∃ CB n', Vlt w' vb d c sec (cn + 1) en (nxF f (tel g p (cn + 1))) (rootP (nxP p (tel g p (cn + 1)))) CB n' (nxP p (tel g p (cn + 1))) false ∧ w.heap.size ≤ CB ∧ n' ≤ n + nm) ∧
      (∃ O' v' l', Dv.Dev w' O' d (sureS (sureS S (W ++ wl (sl (epoK sec en) (nxF f (tel g p (cn + 1))) (tel g p (cn + 1)) 32))) [((cn + 1).toNat % 2, Dv.bAt (Su.allT (supK sec) (cn + 1) en (nxF f (tel g p (cn + 1))) (rootP (nxP p (tel g p (cn + 1))))))]) [] (-1) v' l' ∧ ∀ k, O' k → Dv.gro O w w' k) ∧ Dv.Cnt w' c (cn + 1) ∧ Dv.Chg w w' (fun k => O k ∨ k = c ∨ k = vb) := by
  have hk0 : errV (chkC g) = .nilIface := chk0 hF hWd
  have HF : Hid (¬ Far g) := hF
  have HWd : Hid (¬ Wide g) := hWd
  have HP : Hid (∀ j : Nat, j < 32 → (rd p j).2.size ≤ 300) := hp
  have HC : Hid (0 ≤ cn ∧ cn < 1099511627776 ∧ 1 ≤ en ∧ en ≤ 1099511627776 ∧ n0 < cn + 1) := ⟨hc0, hc1, he0, he1, hm⟩
  have HO : Hid (∀ k, O k → k < w.heap.size) := hO
  clear hF hWd hp he0 he1 hm hO
  go_enter Tryz.func12, Tryz.ntmps12
  go_wp2_with fail
  refine (ready_any w vb d c sec cn en f r mb n p false hV).mono ?_
  rintro e w1 ⟨rfl, hw1⟩
  obtain rfl : w = w1 := hw1.symm
  clear hw1
  simp only [Bool.not_false]
  go_wp2_with fail
  refine (check_any m nm g _ hM hs).mono ?_
  rintro e w2 ⟨rfl, g2⟩
  rw [hk0]
  have hmk := mkMap w2
  have g3 := g2.trans ((Pg.below_alloc w2 (.map #[] 0)).mono g2.size)
  have t3 := mapF_made Tryz.prog w2
  have hM3 : MapV Tryz.prog (w2.alloc (.map #[] 0)) m nm (sv g) := hM.below g3
  have hV3 := hV.below g3 hV.blk.lt hV.map.lt
  have z3 : (w2.alloc (.map #[] 0)).heap.size = w2.heap.size + 1 := by simp
  go_wp2_with (first
    | (refine wpl_rangeV rfl 38 _ rfl und3 9 undS m nm (sv g) rfl hM3 ?_; intro w4 cnt4 hR4 hc4 hb4 hz4)
    | fail)
  have b4 := g3.trans (hb4.mono g3.size)
  have hV4 := hV3.below hb4 hV3.blk.lt hV3.map.lt
  have hT4 : MapF Tryz.prog w4 w2.heap.size 0 (pv (cutP (tel g p (cn + 1)) fun i => (sv g i).isSome)) := t3.below hb4 (by simp) |>.congr fun i _ => by
    unfold pv cutP sv tel; cases hg : g i <;> simp [hg]
  obtain ⟨R, hR⟩ : ∃ R, Hid ((w2.alloc (.map #[] 0)).heap.size = R) := ⟨_, rfl⟩
  obtain ⟨tm, htm⟩ : ∃ tm, Hid (w2.heap.size = tm) := ⟨_, rfl⟩
  have hRt : Hid (R = tm + 1) := by unfold Hid; rw [← hR.out, ← htm.out]; simp
  have htw : Hid (w.heap.size ≤ tm) := by unfold Hid; rw [← htm.out]; exact g2.size
  have hmt : Hid (∀ b, m = .map (some b) → b < tm) := fun b hb => by
    have h1 := hM; rw [hb] at h1; have h2 := h1.lt; have := htw.out; omega
  rw [hR.out] at hR4
  rw [htm.out] at hT4
  rw [hR.out, htm.out]
  have hvw : Hid (vb < w.heap.size ∧ mb < w.heap.size) := ⟨hV.blk.lt, hV.map.lt⟩
  clear t3 hb4 hV3 hM3 g3 g2 hmk z3 hz4 hV hM
  simp only [Act.put, List.setIfInBounds_toArray, List.set_cons_succ, List.set_cons_zero]
  go_loopw [] (fun wr => ∃ left cnt n', RngV Tryz.prog wr m R nm (sv g) left cnt ∧ n' + cnt ≤ nm ∧ MapF Tryz.prog wr tm n' (pv (cutP (tel g p (cn + 1)) left)) ∧ Vlt wr vb d c sec cn en f r mb n p false ∧ Below w.heap.size w wr) (fun wr => rleft wr R)
  case atStart => exact ⟨_, _, 0, hR4, by omega, hT4, hV4, b4⟩
  case round =>
    clear hR4 hc4 hT4 hV4 b4
    obtain ⟨left, cnt, n', hRr, hnn, hTr, hVr, hbr⟩ := hrel
    have hm0 : Hid _ := hRr.left_eq
    rcases hRr.next und3 0 with ⟨hd, hrun⟩ | ⟨i, u, w5, cnt5, hi, hl, hf, hrun, hR5, hlt, hu, hen⟩
    · have hd' : Hid _ := hd
      clear hd
      go_wp2_with fail
      refine (epoch_any wr vb d c sec cn en f r mb n p false hVr).mono ?_
      rintro e w5 ⟨rfl, hw5⟩
      obtain rfl : wr = w5 := hw5.symm
      clear hw5
      go_wp2_with fail
      have hT5 : MapF Tryz.prog wr tm n' (pv (tel g p (cn + 1))) := hTr.congr fun i hi => by unfold pv cutP; rw [hd'.out i hi]; rfl
      have hgw : ∀ k : Nat, k < 32 → ∀ s, g (k : Int) = some s → s.size ≤ 200 := fun k hk s hs' => Classical.byContradiction fun h => HWd.out ⟨(k : Int), s, kOk_small (by omega) (by omega), hs', by omega⟩
      have hcc := HC.out
      refine (become_any vb d c sec cn en f r mb n p en tm n' (tel g p (cn + 1)) O S W v lf n0 wr hVr hT5 (hD.below hbr) (hC.below hbr hC.lt) hcc.2.2.2.2 ?_ (by omega) hcc.1 hcc.2.1 hcc.2.2.1 hcc.2.2.2.1 ?_ ?_ hsec hW (fun k hk => Nat.lt_of_lt_of_le (HO.out k hk) hbr.size) o2 o3 o4 (hK.below hbr)).mono ?_
      · intro i hi hs'
        obtain ⟨x, hx⟩ := Option.isSome_iff_exists.1 hs'
        exact Classical.byContradiction fun h => HF.out ⟨i, hi, by rw [(tel_some hx).2]; rfl, h⟩
      · intro j hj
        unfold rd nxP
        cases hx : tel g p (cn + 1) (j : Int) with
        | none => exact HP.out j hj
        | some x => have := hgw j hj _ (tel_some hx).2; simp; omega
      · intro k hk x hx
        have h1 := tel_some hx
        have h2 := hgw k hk _ h1.2
        omega
      · rintro e w6 ⟨rfl, ⟨CB, hV6, hCB⟩, ⟨O6, v6, l6, hD6, hO6⟩, hC6, C6⟩
        have hz := hbr.size
        go_wp2_with fail
        go_ret
        refine ⟨rfl, ⟨CB, _, hV6, by omega, by omega⟩, ⟨O6, v6, l6, hD6, fun k hk => ?_⟩, hC6, chg_then (Dv.Chg.of hbr _) C6 fun k _ h => h⟩
        rcases hO6 k hk with h | h
        · exact Or.inl h
        · exact Or.inr ⟨by omega, h.2⟩
    · obtain ⟨s, hgi, rfl⟩ := sv_inv hf
      have hm5 : Hid _ := hR5.left_eq
      have hRtm := hRt.out
      have hV5 := hVr.upd hu (by have := hvw.out.1; have := htw.out; omega) (by have := hvw.out.2; have := htw.out; omega)
      have hT5 := hTr.upd hu (by omega)
      have b5 := below_upd hbr hu (by have := htw.out; omega)
      have hik : 0 ≤ i ∧ i < 32 := Classical.byContradiction fun h => HF.out ⟨i, hi, by rw [hgi]; rfl, h⟩
      have hlk := run_lookV (t := 67) und3 undE _ zeroE (Or.inr ⟨mb, rfl, hV5.map⟩) hi
      rw [pv_get] at hlk
      unfold ent at hlk
      have c38 := hV5.c38
      have hfe := fldE
      have hR3 : rd p i = rd p i := rfl
      by_cases he : s.toList = (rd p i).2.toList
      · have hte : Hid (tel g p (cn + 1) i = none) := by unfold Hid tel; rw [hgi]; simp [he]
        have hl' : Hid _ := hl
        clear hl hf hik hgi hRr hTr hVr hbr hu hRtm hR3
        generalize rd p i = x at *
        go_wp2_with fail
        refine ⟨⟨_, _, n', hR5, by omega, ?_, hV5, b5⟩, ?_⟩
        · rw [cut_same hte.out]; exact hT5
        · rw [hm5.out, hm0.out]; exact hlt
      · have hte : Hid (tel g p (cn + 1) i = some (cn + 1, s)) := by unfold Hid tel; rw [hgi]; simp [he]
        have hl' : Hid (left i = true) := hl
        clear hl hf hik hgi hRr hTr hVr hbr hu hRtm hR3
        generalize rd p i = x at *
        have he' : (s.toList == x.2.toList) = false := by simpa using he
        have hbE : ∀ w, (Instr.build 69 #[(0, .int .i64 (cn + 1)), (1, .string s)]).run Tryz.prog w = .ok (.agg #[.int .i64 (cn + 1), .string s]) w := fun w => run_build w 69 _ _ (by kernel_rfl)
        go_wp2_with fail
        refine (count_any w5 vb d c sec cn en f r mb n p false hV5).mono ?_
        rintro e w6 ⟨rfl, hw6⟩
        obtain rfl : w5 = w6 := hw6.symm
        clear hw6
        go_wp2_with (first
          | (refine wpl_putF rfl rfl 67 _ _ _ rfl und3 69 undE tm n' (pv (cutP (tel g p (cn + 1)) left)) i (ent (cn + 1, s)) rfl rfl rfl hT5 (by omega) hi ?_; intro w7 m7 hu7)
          | fail)
        have hRtm := hRt.out
        have htw' := htw.out
        have hvw' := hvw.out
        refine ⟨⟨_, _, n' + 1, hR5.same (fun b hb => hu7.block b (Nat.ne_of_lt (hmt.out b hb))) (hu7.block R (by omega)), by omega, ?_, hV5.upd hu7 (by omega) (by omega), below_upd b5 hu7 htw'⟩, ?_⟩
        · rw [← pv_cut_step hte.out hl'.out]; exact m7
        · rw [(hR5.same (w' := w7) (fun b hb => hu7.block b (Nat.ne_of_lt (hmt.out b hb))) (hu7.block R (by omega))).left_eq, hm0.out]; exact hlt
end Go.Proofs.YtkapkphhceknfaaGreatDoor.Vt
namespace Go.Proofs.YtkapkphhceknfaaGreatDoor.Vt
open Go.RowKit
set_option maxRecDepth 100000 in
set_option maxHeartbeats 1000000 in
theorem tellF_bad (vb d c : Nat) (sec : ByteArray) (cn en : Int) (f : Nat → Bool) (r : ByteArray) (mb n : Nat) (p : Int → Option (Int × ByteArray)) (m : Value) (nm : Nat) (g : Int → Option ByteArray) (O : Nat → Prop) (x0 y : Fz) (n0 : Int) (w : World)
    (hV : Vlt w vb d c sec cn en f r mb n p false) (hM : MapV Tryz.prog w m nm (sv g)) (hs : ∀ i s, g i = some s → s.size ≤ 10000) (hF : ¬ Far g) (hWd : ¬ Wide g) (hx0 : x0.b = false) (hD : x0.At w O d) (hC : Dv.Cnt w c n0) (hm : n0 < cn + 1)
    (hn : n + nm ≤ 100000) (hc0 : 0 ≤ cn) (hc1 : cn < 1099511627776) (he0 : 1 ≤ en) (he1 : en ≤ 1099511627776) (hp : ∀ j : Nat, j < 32 → (rd p j).2.size ≤ 300)
    (hsec : sec.size ≤ 300) (hW : x0.W.length ≤ 100) (hy : y = x0.all (sl (epoK sec en) (nxF f (tel g p (cn + 1))) (tel g p (cn + 1)) 32) ((cn + 1).toNat % 2) (Su.allT (supK sec) (cn + 1) en (nxF f (tel g p (cn + 1))) (rootP (nxP p (tel g p (cn + 1)))))) (hyb : y.b = true) (hO : ∀ k, O k → k < w.heap.size) (o2 : ¬ O vb) (o3 : ¬ O c) (o4 : vb ≠ c) (hK : Sm.KB w) :
    Calls Tryz.prog 12 #[.pointer (some ⟨vb, 0, none⟩), m] w fun e w' => e = .returned (Dv.errI 14) ∧ Blk w' vb (vaA d c sec (stA cn en f r (.map (some mb))) true) 76 ∧ (∃ O', y.At w' O' d ∧ ∀ k, O' k → Dv.gro O w w' k) ∧ Dv.Cnt w' c n0 ∧ Dv.Chg w w' (fun k => O k ∨ k = c ∨ k = vb) := by
  have hk0 : errV (chkC g) = .nilIface := chk0 hF hWd
  have HY : Hid _ := hy
  have HYB : Hid _ := hyb
  have HDD : Hid (x0.At w O d) := hD
  clear hy hyb hD
  have HF : Hid (¬ Far g) := hF
  have HWd : Hid (¬ Wide g) := hWd
  have HP : Hid (∀ j : Nat, j < 32 → (rd p j).2.size ≤ 300) := hp
  have HC : Hid (0 ≤ cn ∧ cn < 1099511627776 ∧ 1 ≤ en ∧ en ≤ 1099511627776 ∧ n0 < cn + 1) := ⟨hc0, hc1, he0, he1, hm⟩
  have HO : Hid (∀ k, O k → k < w.heap.size) := hO
  clear hF hWd hp he0 he1 hm hO
  go_enter Tryz.func12, Tryz.ntmps12
  go_wp2_with fail
  refine (ready_any w vb d c sec cn en f r mb n p false hV).mono ?_
  rintro e w1 ⟨rfl, hw1⟩
  obtain rfl : w = w1 := hw1.symm
  clear hw1
  simp only [Bool.not_false]
  go_wp2_with fail
  refine (check_any m nm g _ hM hs).mono ?_
  rintro e w2 ⟨rfl, g2⟩
  rw [hk0]
  have hmk := mkMap w2
  have g3 := g2.trans ((Pg.below_alloc w2 (.map #[] 0)).mono g2.size)
  have t3 := mapF_made Tryz.prog w2
  have hM3 : MapV Tryz.prog (w2.alloc (.map #[] 0)) m nm (sv g) := hM.below g3
  have hV3 := hV.below g3 hV.blk.lt hV.map.lt
  have z3 : (w2.alloc (.map #[] 0)).heap.size = w2.heap.size + 1 := by simp
  go_wp2_with (first
    | (refine wpl_rangeV rfl 38 _ rfl und3 9 undS m nm (sv g) rfl hM3 ?_; intro w4 cnt4 hR4 hc4 hb4 hz4)
    | fail)
  have b4 := g3.trans (hb4.mono g3.size)
  have hV4 := hV3.below hb4 hV3.blk.lt hV3.map.lt
  have hT4 : MapF Tryz.prog w4 w2.heap.size 0 (pv (cutP (tel g p (cn + 1)) fun i => (sv g i).isSome)) := t3.below hb4 (by simp) |>.congr fun i _ => by
    unfold pv cutP sv tel; cases hg : g i <;> simp [hg]
  obtain ⟨R, hR⟩ : ∃ R, Hid ((w2.alloc (.map #[] 0)).heap.size = R) := ⟨_, rfl⟩
  obtain ⟨tm, htm⟩ : ∃ tm, Hid (w2.heap.size = tm) := ⟨_, rfl⟩
  have hRt : Hid (R = tm + 1) := by unfold Hid; rw [← hR.out, ← htm.out]; simp
  have htw : Hid (w.heap.size ≤ tm) := by unfold Hid; rw [← htm.out]; exact g2.size
  have hmt : Hid (∀ b, m = .map (some b) → b < tm) := fun b hb => by
    have h1 := hM; rw [hb] at h1; have h2 := h1.lt; have := htw.out; omega
  rw [hR.out] at hR4
  rw [htm.out] at hT4
  rw [hR.out, htm.out]
  have hvw : Hid (vb < w.heap.size ∧ mb < w.heap.size) := ⟨hV.blk.lt, hV.map.lt⟩
  clear t3 hb4 hV3 hM3 g3 g2 hmk z3 hz4 hV hM
  simp only [Act.put, List.setIfInBounds_toArray, List.set_cons_succ, List.set_cons_zero]
  go_loopw [] (fun wr => ∃ left cnt n', RngV Tryz.prog wr m R nm (sv g) left cnt ∧ n' + cnt ≤ nm ∧ MapF Tryz.prog wr tm n' (pv (cutP (tel g p (cn + 1)) left)) ∧ Vlt wr vb d c sec cn en f r mb n p false ∧ Below w.heap.size w wr) (fun wr => rleft wr R)
  case atStart => exact ⟨_, _, 0, hR4, by omega, hT4, hV4, b4⟩
  case round =>
    clear hR4 hc4 hT4 hV4 b4
    obtain ⟨left, cnt, n', hRr, hnn, hTr, hVr, hbr⟩ := hrel
    have hm0 : Hid _ := hRr.left_eq
    rcases hRr.next und3 0 with ⟨hd, hrun⟩ | ⟨i, u, w5, cnt5, hi, hl, hf, hrun, hR5, hlt, hu, hen⟩
    · have hd' : Hid _ := hd
      clear hd
      go_wp2_with fail
      refine (epoch_any wr vb d c sec cn en f r mb n p false hVr).mono ?_
      rintro e w5 ⟨rfl, hw5⟩
      obtain rfl : wr = w5 := hw5.symm
      clear hw5
      go_wp2_with fail
      have hT5 : MapF Tryz.prog wr tm n' (pv (tel g p (cn + 1))) := hTr.congr fun i hi => by unfold pv cutP; rw [hd'.out i hi]; rfl
      have hgw : ∀ k : Nat, k < 32 → ∀ s, g (k : Int) = some s → s.size ≤ 200 := fun k hk s hs' => Classical.byContradiction fun h => HWd.out ⟨(k : Int), s, kOk_small (by omega) (by omega), hs', by omega⟩
      have hcc := HC.out
      refine (become_bad vb d c sec cn en f r mb n p en tm n' (tel g p (cn + 1)) O x0 y n0 wr hVr hT5 hx0 (by obtain ⟨v, lf, h⟩ := HDD.out; exact ⟨v, lf, h.below hbr⟩) (hC.below hbr hC.lt) hcc.2.2.2.2 ?_ (by omega) hcc.1 hcc.2.1 hcc.2.2.1 hcc.2.2.2.1 ?_ ?_ hsec hW HY.out HYB.out (fun k hk => Nat.lt_of_lt_of_le (HO.out k hk) hbr.size) o2 o3 o4 (hK.below hbr)).mono ?_
      · intro i hi hs'
        obtain ⟨x, hx⟩ := Option.isSome_iff_exists.1 hs'
        exact Classical.byContradiction fun h => HF.out ⟨i, hi, by rw [(tel_some hx).2]; rfl, h⟩
      · intro j hj
        unfold rd nxP
        cases hx : tel g p (cn + 1) (j : Int) with
        | none => exact HP.out j hj
        | some x => have := hgw j hj _ (tel_some hx).2; simp; omega
      · intro k hk x hx
        have h1 := tel_some hx
        have h2 := hgw k hk _ h1.2
        omega
      · rintro e w6 ⟨rfl, hV6, ⟨O6, hD6, hO6⟩, hC6, C6⟩
        have hz := hbr.size
        go_wp2_with fail
        go_ret
        refine ⟨rfl, hV6, ⟨O6, hD6, fun k hk => ?_⟩, hC6, chg_then (Dv.Chg.of hbr _) C6 fun k _ h => h⟩
        rcases hO6 k hk with h | h
        · exact Or.inl h
        · exact Or.inr ⟨by omega, h.2⟩
    · obtain ⟨s, hgi, rfl⟩ := sv_inv hf
      have hm5 : Hid _ := hR5.left_eq
      have hRtm := hRt.out
      have hV5 := hVr.upd hu (by have := hvw.out.1; have := htw.out; omega) (by have := hvw.out.2; have := htw.out; omega)
      have hT5 := hTr.upd hu (by omega)
      have b5 := below_upd hbr hu (by have := htw.out; omega)
      have hik : 0 ≤ i ∧ i < 32 := Classical.byContradiction fun h => HF.out ⟨i, hi, by rw [hgi]; rfl, h⟩
      have hlk := run_lookV (t := 67) und3 undE _ zeroE (Or.inr ⟨mb, rfl, hV5.map⟩) hi
      rw [pv_get] at hlk
      unfold ent at hlk
      have c38 := hV5.c38
      have hfe := fldE
      have hR3 : rd p i = rd p i := rfl
      by_cases he : s.toList = (rd p i).2.toList
      · have hte : Hid (tel g p (cn + 1) i = none) := by unfold Hid tel; rw [hgi]; simp [he]
        have hl' : Hid _ := hl
        clear hl hf hik hgi hRr hTr hVr hbr hu hRtm hR3
        generalize rd p i = x at *
        go_wp2_with fail
        refine ⟨⟨_, _, n', hR5, by omega, ?_, hV5, b5⟩, ?_⟩
        · rw [cut_same hte.out]; exact hT5
        · rw [hm5.out, hm0.out]; exact hlt
      · have hte : Hid (tel g p (cn + 1) i = some (cn + 1, s)) := by unfold Hid tel; rw [hgi]; simp [he]
        have hl' : Hid (left i = true) := hl
        clear hl hf hik hgi hRr hTr hVr hbr hu hRtm hR3
        generalize rd p i = x at *
        have he' : (s.toList == x.2.toList) = false := by simpa using he
        have hbE : ∀ w, (Instr.build 69 #[(0, .int .i64 (cn + 1)), (1, .string s)]).run Tryz.prog w = .ok (.agg #[.int .i64 (cn + 1), .string s]) w := fun w => run_build w 69 _ _ (by kernel_rfl)
        go_wp2_with fail
        refine (count_any w5 vb d c sec cn en f r mb n p false hV5).mono ?_
        rintro e w6 ⟨rfl, hw6⟩
        obtain rfl : w5 = w6 := hw6.symm
        clear hw6
        go_wp2_with (first
          | (refine wpl_putF rfl rfl 67 _ _ _ rfl und3 69 undE tm n' (pv (cutP (tel g p (cn + 1)) left)) i (ent (cn + 1, s)) rfl rfl rfl hT5 (by omega) hi ?_; intro w7 m7 hu7)
          | fail)
        have hRtm := hRt.out
        have htw' := htw.out
        have hvw' := hvw.out
        refine ⟨⟨_, _, n' + 1, hR5.same (fun b hb => hu7.block b (Nat.ne_of_lt (hmt.out b hb))) (hu7.block R (by omega)), by omega, ?_, hV5.upd hu7 (by omega) (by omega), below_upd b5 hu7 htw'⟩, ?_⟩
        · rw [← pv_cut_step hte.out hl'.out]; exact m7
        · rw [(hR5.same (w' := w7) (fun b hb => hu7.block b (Nat.ne_of_lt (hmt.out b hb))) (hu7.block R (by omega))).left_eq, hm0.out]; exact hlt
set_option maxRecDepth 100000 in
set_option maxHeartbeats 1000000 in
theorem tellF_good (vb d c : Nat) (sec : ByteArray) (cn en : Int) (f : Nat → Bool) (r : ByteArray) (mb n : Nat) (p : Int → Option (Int × ByteArray)) (m : Value) (nm : Nat) (g : Int → Option ByteArray) (O : Nat → Prop) (x0 y : Fz) (n0 : Int) (w : World)
    (hV : Vlt w vb d c sec cn en f r mb n p false) (hM : MapV Tryz.prog w m nm (sv g)) (hs : ∀ i s, g i = some s → s.size ≤ 10000) (hF : ¬ Far g) (hWd : ¬ Wide g) (hx0 : x0.b = false) (hD : x0.At w O d) (hC : Dv.Cnt w c n0) (hm : n0 < cn + 1)
    (hn : n + nm ≤ 100000) (hc0 : 0 ≤ cn) (hc1 : cn < 1099511627776) (he0 : 1 ≤ en) (he1 : en ≤ 1099511627776) (hp : ∀ j : Nat, j < 32 → (rd p j).2.size ≤ 300)
    (hsec : sec.size ≤ 300) (hW : x0.W.length ≤ 100) (hy : y = x0.all (sl (epoK sec en) (nxF f (tel g p (cn + 1))) (tel g p (cn + 1)) 32) ((cn + 1).toNat % 2) (Su.allT (supK sec) (cn + 1) en (nxF f (tel g p (cn + 1))) (rootP (nxP p (tel g p (cn + 1)))))) (hyb : y.b = false) (hO : ∀ k, O k → k < w.heap.size) (o2 : ¬ O vb) (o3 : ¬ O c) (o4 : vb ≠ c) (hK : Sm.KB w) :
    Calls Tryz.prog 12 #[.pointer (some ⟨vb, 0, none⟩), m] w fun e w' => e = .returned .nilIface ∧
      (∃ CB n', Vlt w' vb d c sec (cn + 1) en (nxF f (tel g p (cn + 1))) (rootP (nxP p (tel g p (cn + 1)))) CB n' (nxP p (tel g p (cn + 1))) false ∧ w.heap.size ≤ CB ∧ n' ≤ n + nm) ∧
      (∃ O', y.At w' O' d ∧ ∀ k, O' k → Dv.gro O w w' k) ∧ Dv.Cnt w' c (cn + 1) ∧ Dv.Chg w w' (fun k => O k ∨ k = c ∨ k = vb) := by
  have hk0 : errV (chkC g) = .nilIface := chk0 hF hWd
  have HY : Hid _ := hy
  have HYB : Hid _ := hyb
  have HDD : Hid (x0.At w O d) := hD
  clear hy hyb hD
  have HF : Hid (¬ Far g) := hF
  have HWd : Hid (¬ Wide g) := hWd
  have HP : Hid (∀ j : Nat, j < 32 → (rd p j).2.size ≤ 300) := hp
  have HC : Hid (0 ≤ cn ∧ cn < 1099511627776 ∧ 1 ≤ en ∧ en ≤ 1099511627776 ∧ n0 < cn + 1) := ⟨hc0, hc1, he0, he1, hm⟩
  have HO : Hid (∀ k, O k → k < w.heap.size) := hO
  clear hF hWd hp he0 he1 hm hO
  go_enter Tryz.func12, Tryz.ntmps12
  go_wp2_with fail
  refine (ready_any w vb d c sec cn en f r mb n p false hV).mono ?_
  rintro e w1 ⟨rfl, hw1⟩
  obtain rfl : w = w1 := hw1.symm
  clear hw1
  simp only [Bool.not_false]
  go_wp2_with fail
  refine (check_any m nm g _ hM hs).mono ?_
  rintro e w2 ⟨rfl, g2⟩
  rw [hk0]
  have hmk := mkMap w2
  have g3 := g2.trans ((Pg.below_alloc w2 (.map #[] 0)).mono g2.size)
  have t3 := mapF_made Tryz.prog w2
  have hM3 : MapV Tryz.prog (w2.alloc (.map #[] 0)) m nm (sv g) := hM.below g3
  have hV3 := hV.below g3 hV.blk.lt hV.map.lt
  have z3 : (w2.alloc (.map #[] 0)).heap.size = w2.heap.size + 1 := by simp
  go_wp2_with (first
    | (refine wpl_rangeV rfl 38 _ rfl und3 9 undS m nm (sv g) rfl hM3 ?_; intro w4 cnt4 hR4 hc4 hb4 hz4)
    | fail)
  have b4 := g3.trans (hb4.mono g3.size)
  have hV4 := hV3.below hb4 hV3.blk.lt hV3.map.lt
  have hT4 : MapF Tryz.prog w4 w2.heap.size 0 (pv (cutP (tel g p (cn + 1)) fun i => (sv g i).isSome)) := t3.below hb4 (by simp) |>.congr fun i _ => by
    unfold pv cutP sv tel; cases hg : g i <;> simp [hg]
  obtain ⟨R, hR⟩ : ∃ R, Hid ((w2.alloc (.map #[] 0)).heap.size = R) := ⟨_, rfl⟩
  obtain ⟨tm, htm⟩ : ∃ tm, Hid (w2.heap.size = tm) := ⟨_, rfl⟩
  have hRt : Hid (R = tm + 1) := by unfold Hid; rw [← hR.out, ← htm.out]; simp
  have htw : Hid (w.heap.size ≤ tm) := by unfold Hid; rw [← htm.out]; exact g2.size
  have hmt : Hid (∀ b, m = .map (some b) → b < tm) := fun b hb => by
    have h1 := hM; rw [hb] at h1; have h2 := h1.lt; have := htw.out; omega
  rw [hR.out] at hR4
  rw [htm.out] at hT4
  rw [hR.out, htm.out]
  have hvw : Hid (vb < w.heap.size ∧ mb < w.heap.size) := ⟨hV.blk.lt, hV.map.lt⟩
  clear t3 hb4 hV3 hM3 g3 g2 hmk z3 hz4 hV hM
  simp only [Act.put, List.setIfInBounds_toArray, List.set_cons_succ, List.set_cons_zero]
  go_loopw [] (fun wr => ∃ left cnt n', RngV Tryz.prog wr m R nm (sv g) left cnt ∧ n' + cnt ≤ nm ∧ MapF Tryz.prog wr tm n' (pv (cutP (tel g p (cn + 1)) left)) ∧ Vlt wr vb d c sec cn en f r mb n p false ∧ Below w.heap.size w wr) (fun wr => rleft wr R)
  case atStart => exact ⟨_, _, 0, hR4, by omega, hT4, hV4, b4⟩
  case round =>
    clear hR4 hc4 hT4 hV4 b4
    obtain ⟨left, cnt, n', hRr, hnn, hTr, hVr, hbr⟩ := hrel
    have hm0 : Hid _ := hRr.left_eq
    rcases hRr.next und3 0 with ⟨hd, hrun⟩ | ⟨i, u, w5, cnt5, hi, hl, hf, hrun, hR5, hlt, hu, hen⟩
    · have hd' : Hid _ := hd
      clear hd
      go_wp2_with fail
      refine (epoch_any wr vb d c sec cn en f r mb n p false hVr).mono ?_
      rintro e w5 ⟨rfl, hw5⟩
      obtain rfl : wr = w5 := hw5.symm
      clear hw5
      go_wp2_with fail
      have hT5 : MapF Tryz.prog wr tm n' (pv (tel g p (cn + 1))) := hTr.congr fun i hi => by unfold pv cutP; rw [hd'.out i hi]; rfl
      have hgw : ∀ k : Nat, k < 32 → ∀ s, g (k : Int) = some s → s.size ≤ 200 := fun k hk s hs' => Classical.byContradiction fun h => HWd.out ⟨(k : Int), s, kOk_small (by omega) (by omega), hs', by omega⟩
      have hcc := HC.out
      refine (become_good vb d c sec cn en f r mb n p en tm n' (tel g p (cn + 1)) O x0 y n0 wr hVr hT5 hx0 (by obtain ⟨v, lf, h⟩ := HDD.out; exact ⟨v, lf, h.below hbr⟩) (hC.below hbr hC.lt) hcc.2.2.2.2 ?_ (by omega) hcc.1 hcc.2.1 hcc.2.2.1 hcc.2.2.2.1 ?_ ?_ hsec hW HY.out HYB.out (fun k hk => Nat.lt_of_lt_of_le (HO.out k hk) hbr.size) o2 o3 o4 (hK.below hbr)).mono ?_
      · intro i hi hs'
        obtain ⟨x, hx⟩ := Option.isSome_iff_exists.1 hs'
        exact Classical.byContradiction fun h => HF.out ⟨i, hi, by rw [(tel_some hx).2]; rfl, h⟩
      · intro j hj
        unfold rd nxP
        cases hx : tel g p (cn + 1) (j : Int) with
        | none => exact HP.out j hj
        | some x => have := hgw j hj _ (tel_some hx).2; simp; omega
      · intro k hk x hx
        have h1 := tel_some hx
        have h2 := hgw k hk _ h1.2
        omega
      · rintro e w6 ⟨rfl, ⟨CB, hV6, hCB⟩, ⟨O6, hD6, hO6⟩, hC6, C6⟩
        have hz := hbr.size
        go_wp2_with fail
        go_ret
        refine ⟨rfl, ⟨CB, _, hV6, by omega, by omega⟩, ⟨O6, hD6, fun k hk => ?_⟩, hC6, chg_then (Dv.Chg.of hbr _) C6 fun k _ h => h⟩
        rcases hO6 k hk with h | h
        · exact Or.inl h
        · exact Or.inr ⟨by omega, h.2⟩
    · obtain ⟨s, hgi, rfl⟩ := sv_inv hf
      have hm5 : Hid _ := hR5.left_eq
      have hRtm := hRt.out
      have hV5 := hVr.upd hu (by have := hvw.out.1; have := htw.out; omega) (by have := hvw.out.2; have := htw.out; omega)
      have hT5 := hTr.upd hu (by omega)
      have b5 := below_upd hbr hu (by have := htw.out; omega)
      have hik : 0 ≤ i ∧ i < 32 := Classical.byContradiction fun h => HF.out ⟨i, hi, by rw [hgi]; rfl, h⟩
      have hlk := run_lookV (t := 67) und3 undE _ zeroE (Or.inr ⟨mb, rfl, hV5.map⟩) hi
      rw [pv_get] at hlk
      unfold ent at hlk
      have c38 := hV5.c38
      have hfe := fldE
      have hR3 : rd p i = rd p i := rfl
      by_cases he : s.toList = (rd p i).2.toList
      · have hte : Hid (tel g p (cn + 1) i = none) := by unfold Hid tel; rw [hgi]; simp [he]
        have hl' : Hid _ := hl
        clear hl hf hik hgi hRr hTr hVr hbr hu hRtm hR3
        generalize rd p i = x at *
        go_wp2_with fail
        refine ⟨⟨_, _, n', hR5, by omega, ?_, hV5, b5⟩, ?_⟩
        · rw [cut_same hte.out]; exact hT5
        · rw [hm5.out, hm0.out]; exact hlt
      · have hte : Hid (tel g p (cn + 1) i = some (cn + 1, s)) := by unfold Hid tel; rw [hgi]; simp [he]
        have hl' : Hid (left i = true) := hl
        clear hl hf hik hgi hRr hTr hVr hbr hu hRtm hR3
        generalize rd p i = x at *
        have he' : (s.toList == x.2.toList) = false := by simpa using he
        have hbE : ∀ w, (Instr.build 69 #[(0, .int .i64 (cn + 1)), (1, .string s)]).run Tryz.prog w = .ok (.agg #[.int .i64 (cn + 1), .string s]) w := fun w => run_build w 69 _ _ (by kernel_rfl)
        go_wp2_with fail
        refine (count_any w5 vb d c sec cn en f r mb n p false hV5).mono ?_
        rintro e w6 ⟨rfl, hw6⟩
        obtain rfl : w5 = w6 := hw6.symm
        clear hw6
        go_wp2_with (first
          | (refine wpl_putF rfl rfl 67 _ _ _ rfl und3 69 undE tm n' (pv (cutP (tel g p (cn + 1)) left)) i (ent (cn + 1, s)) rfl rfl rfl hT5 (by omega) hi ?_; intro w7 m7 hu7)
          | fail)
        have hRtm := hRt.out
        have htw' := htw.out
        have hvw' := hvw.out
        refine ⟨⟨_, _, n' + 1, hR5.same (fun b hb => hu7.block b (Nat.ne_of_lt (hmt.out b hb))) (hu7.block R (by omega)), by omega, ?_, hV5.upd hu7 (by omega) (by omega), below_upd b5 hu7 htw'⟩, ?_⟩
        · rw [← pv_cut_step hte.out hl'.out]; exact m7
        · rw [(hR5.same (w' := w7) (fun b hb => hu7.block b (Nat.ne_of_lt (hmt.out b hb))) (hu7.block R (by omega))).left_eq, hm0.out]; exact hlt
end Go.Proofs.YtkapkphhceknfaaGreatDoor.Vt
