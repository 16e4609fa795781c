/-
  Part of the proof: Open where the counter stands one behind; a vault that is stuck; Tell and Turn with a fuse, by one contract each.
  Part of the proof of TreeBinds: the code's Verify is walked.
  Part of the proof of TreeBinds: texts appended to texts; the reference's mark, marks, rows and Root are walked.
-/
import Derived.Test.YtkapkphhceknfaaGreatDoorB50
import Derived.Test.YtkapkphhceknfaaGreatDoorB15
namespace Go.Proofs.YtkapkphhceknfaaGreatDoor.Vt
open Go.RowKit
set_option maxRecDepth 100000 in
set_option maxHeartbeats 400000 in
theorem last_ahead (d c : Nat) (O : Nat → Prop) (S : Nat → Nat → UInt8) (W : List (Nat × (Nat → UInt8))) (F : Int) (v : Value) (lf : Int) (sec : ByteArray) (n : Nat) (en : Int) (f : Nat → Bool) (p : Int → Option (Int × ByteArray)) (w : World) (hD : Dv.Dev w O d S W F v lf) (hC : Dv.Cnt w c (n : Int)) (hW : W.length ≤ 1000) (hsec : sec.size ≤ 300) (hK : Sm.KB w)
    (hn : n < 1000000) (hOn : On S W sec (n + 1) en f p) :
    Calls Tryz.prog 32 #[.pointer (some ⟨d, 0, none⟩), .pointer (some ⟨c, 0, none⟩), .string sec] w fun e w' => (∃ CB, e = .returned (.tuple #[.agg (stA ((n : Int) + 1) en f (rootP p) (.map (some CB))), .nilIface]) ∧ MapF Tryz.prog w' CB 32 (pv p) ∧ w.heap.size ≤ CB) ∧ Dv.Cnt w' c ((n : Int) + 1) ∧ Dv.Chg w w' (fun k => k = c) := by
  have z1 := st0_size
  have o1 := st0_one
  have zt := zeroSt
  have hR1 : ∀ w', Below w.heap.size w w' → Calls Tryz.prog 46 #[.pointer (some ⟨d, 0, none⟩), .string sec, .int .i64 ((n : Int) + 1)] w' fun e w'' => (∃ CB, e = .returned (.tuple #[.agg (stA ((n : Int) + 1) en f (rootP p) (.map (some CB))), .bool true]) ∧ MapF Tryz.prog w'' CB 32 (pv p) ∧ w'.heap.size ≤ CB) ∧ Below w'.heap.size w' w'' := fun w' hb => by
    have h := whole_good d O S W F v lf sec (n + 1) en f p w' (hD.below hb) hW hsec (hK.below hb) hOn
    rwa [show ((n + 1 : Nat) : Int) = (n : Int) + 1 from by omega] at h
  obtain ⟨Y, hY⟩ : ∃ Z, Hid (st0 = Z) := ⟨_, rfl⟩
  rw [hY.out] at z1 o1 zt
  have H1 : Hid _ := hR1
  clear hR1 hY hOn
  have g1 := Pg.below_alloc w (.cells Y 74)
  have hcl := hC.lt
  go_enter Tryz.func32, Tryz.ntmps32
  go_wp2_with fail
  refine (Dv.get_any c (n : Int) _ (hC.below g1 hC.lt)).mono ?_
  rintro e w1 ⟨rfl, hw1⟩
  obtain rfl := hw1
  go_wp2_with fail
  refine (H1.out _ g1).mono ?_
  rintro e w2 ⟨⟨CB, rfl, hM2, hCB⟩, g2⟩
  have b2 := g1.trans (g2.mono g1.size)
  have j2 := (Blk.new w Y 74).below g2 (by simp)
  have j3 := j2.alloc (.cells Y 74)
  have b3 := b2.trans ((Pg.below_alloc w2 (.cells Y 74)).mono b2.size)
  have hlt2 : w.heap.size < w2.heap.size := j2.lt
  have hM3 := hM2.alloc (.cells Y 74)
  have hMl := hM2.lt
  have x0 := stA_size ((n : Int) + 1) en f (rootP p) (.map (some CB))
  have x1 := stA_one ((n : Int) + 1) en f (rootP p) (.map (some CB)) rfl
  obtain ⟨X, hX⟩ : ∃ X, Hid (stA ((n : Int) + 1) en f (rootP p) (.map (some CB)) = X) := ⟨_, rfl⟩
  rw [hX.out] at x0 x1
  rw [hX.out]
  have hCB' : Hid (w.heap.size + 1 ≤ CB) := by unfold Hid; simpa using hCB
  clear H1 hCB
  go_wp2_with (first
    | (refine Su.wpl_storeV rfl rfl 74 _ _ rfl 36 szSt w2.heap.size Y 74 X x1 rfl rfl (Blk.new w2 _ _) z1 x0 ?_; intro w6 hu6 j6; have k6 := j3.upd hu6 (by omega); have b6 := below_upd b3 hu6 (Nat.le_of_lt hlt2))
    | fail)
  have hC6 := hC.below b6 hC.lt
  have hM6 := hM3.upd hu6 (by omega)
  have l6 := j6.lt
  obtain ⟨b9, hb9⟩ : ∃ b, Hid (w2.heap.size = b) := ⟨_, rfl⟩
  obtain ⟨b0, hb0⟩ : ∃ b, Hid (w.heap.size = b) := ⟨_, rfl⟩
  rw [hb9.out] at j6 l6 hlt2
  rw [hb0.out] at k6 hcl hlt2
  rw [hb9.out, hb0.out]
  have HL : Hid (∀ W', Dv.Chg w6 W' (fun k => k = c ∨ k = b0) → Blk W' b9 X 74) := fun W' h => j6.chg h (by omega)
  have hwr : IntKind.i64.wrap ((n : Int) + 1) = (n : Int) + 1 := by rw [IntKind.wrap_i64]; omega
  have s0 : Dv.Chg w6 w6.drew (fun k => k = c ∨ k = b0) := (Dv.Chg.refl _ _).drewN 1
  refine regS_in 7 (fun W' => Dv.Chg w6 W' (fun k => k = c ∨ k = b0)) Tr.mixed rfl ?_
  refine regS_take 0 24 (.agg X) rfl rfl (by kernel_rfl) (fun _ _ _ h => h) (by kernel_rfl) (fun W' hs' => Su.exec_load 74 _ rfl ⟨b9, 0, none⟩ rfl _ (by
    have h := Su.loadV_run W' 74 Tryz.isAgg74 36 szSt b9 0 X 74 (HL.out W' hs') (by omega)
    rwa [Nat.zero_add, Su.ext_all x0] at h)) s0 ?_
  refine regS_take 1 25 (.pointer (some ⟨c, 0, none⟩)) rfl rfl (by kernel_rfl) (fun _ _ _ h => h) (by kernel_rfl) (fun w hs' => by go_simp) s0 ?_
  refine regS_take 2 26 (.int .i64 (n : Int)) rfl rfl (by kernel_rfl) (fun _ _ _ h => h) (by kernel_rfl) (fun w hs' => by go_simp) s0 ?_
  refine regS_take 3 27 (.int .i64 ((n : Int) + 1)) rfl rfl (by kernel_rfl) (fun _ _ _ h => h) (by kernel_rfl) (fun w hs' => by go_simp) s0 ?_
  simp only [Act.put, List.setIfInBounds_toArray, List.set_cons_succ, List.set_cons_zero]
  refine regS_one 4 rfl (by kernel_rfl) (by kernel_rfl) (fun K hK' => ?_)
  go_wp2_with fail
  refine (Dv.raise_yes c (n : Int) ((n : Int) + 1) w6.drew hC6.drew (by omega)).mono ?_
  rintro e w7 ⟨rfl, hC7, hu7⟩
  have s1 : Dv.Chg w6 w7 (fun k => k = c ∨ k = b0) := s0.upd hu7 (Or.inl (Or.inl rfl))
  have k7 : Blk w7 b0 Y 74 := k6.drew.upd hu7 (by omega)
  have m7 : MapF Tryz.prog w7 CB 32 (pv p) := hM6.same (s1.block CB hM6.lt (by have := hCB'.out; have := hb0.out; omega))
  refine hK' _ _ s1 ?_
  clear hK' K
  try simp only [Act.put, List.setIfInBounds_toArray, List.set_cons_succ, List.set_cons_zero]
  refine regS_one 5 rfl (by kernel_rfl) (by kernel_rfl) (fun K hK' => ?_)
  refine Su.op_storeV rfl 74 (.tmp 6) (.tmp 24) rfl 36 szSt b0 Y 74 X x1 rfl rfl k7 z1 x0 ?_
  intro w8 hu8 j8
  have s2 : Dv.Chg w6 w8 (fun k => k = c ∨ k = b0) := s1.upd hu8 (Or.inl (Or.inr rfl))
  have m8 := m7.upd hu8 (by have := hCB'.out; have := hb0.out; omega)
  have C8 : Dv.Cnt w8 c ((n : Int) + 1) := hC7.upd hu8 (by omega)
  refine hK' _ _ s2 ?_
  clear hK' K
  refine regS_take 6 7 .nilIface rfl rfl (by kernel_rfl) (fun _ _ _ h => h) (by kernel_rfl) (fun w hs' => by go_simp) s2 ?_
  refine regS_end (by kernel_rfl) ?_
  try simp only [Act.put, List.setIfInBounds_toArray, List.set_cons_succ, List.set_cons_zero]
  go_wp2_with fail
  exact Su.ret_cellV2 6 7 74 rfl Tryz.isAgg74 36 szSt b0 X 74 x0 _ rfl rfl j8 rfl ⟨⟨CB, by rw [hX.out]; rfl, m8, by have := hCB'.out; omega⟩, C8, chg_then ((Dv.Chg.refl w (fun k => k = c)).below b6) s2 fun k hk h => h.elim id fun h => by have := hb0.out; omega⟩
set_option maxRecDepth 100000 in
set_option maxHeartbeats 400000 in
theorem open_ahead (d c : Nat) (O : Nat → Prop) (S : Nat → Nat → UInt8) (W : List (Nat × (Nat → UInt8))) (F : Int) (v : Value) (lf : Int) (sec : ByteArray) (n : Nat) (en : Int) (f : Nat → Bool) (p : Int → Option (Int × ByteArray)) (w : World) (hD : Dv.Dev w O d S W F v lf) (hC : Dv.Cnt w c (n : Int)) (hW : W.length ≤ 1000) (hsec : sec.size = 16) (hK : Sm.KB w)
    (hn : n < 1000000) (hOn : On S W sec (n + 1) en f p) :
    Calls Tryz.prog 15 #[.pointer (some ⟨d, 0, none⟩), .pointer (some ⟨c, 0, none⟩), .string sec] w fun e w' => (∃ VB CB, e = .returned (.tuple #[.pointer (some ⟨VB, 0, none⟩), .nilIface]) ∧ Vlt w' VB d c sec ((n : Int) + 1) en f (rootP p) CB 32 p false ∧ w.heap.size ≤ VB ∧ w.heap.size ≤ CB) ∧ Dv.Cnt w' c ((n : Int) + 1) ∧ Dv.Chg w w' (fun k => k = c) := by
  have hs' : (sec.size : Int) = 16 := by omega
  have z1 := st0_size
  have zt := zeroSt
  obtain ⟨Y, hY⟩ : ∃ Z, Hid (st0 = Z) := ⟨_, rfl⟩
  rw [hY.out] at z1 zt
  clear hY
  have hcl := hC.lt
  have HL := last_ahead d c O S W F v lf sec n en f p w hD hC hW (by omega) hK hn hOn
  clear hOn
  go_enter Tryz.func15, Tryz.ntmps15
  go_wp2_with fail
  refine HL.mono ?_
  rintro e w1 ⟨⟨CB, rfl, hM1, hCB⟩, hC1, c1⟩
  have u0 := stA_size ((n : Int) + 1) en f (rootP p) (.map (some CB))
  have u1 := stA_one ((n : Int) + 1) en f (rootP p) (.map (some CB)) rfl
  have B1 : Hid (∀ w : World, _) := buildVa' d c sec ((n : Int) + 1) en f (rootP p) CB
  obtain ⟨X, hX⟩ : ∃ X, Hid (stA ((n : Int) + 1) en f (rootP p) (.map (some CB)) = X) := ⟨_, rfl⟩
  rw [hX.out] at u0 u1 B1
  rw [hX.out]
  obtain ⟨VA, hVA⟩ : ∃ V, Hid (vaA d c sec X false = V) := ⟨_, rfl⟩
  rw [hVA.out] at B1
  go_wp2_with (first
    | (refine Su.wpl_storeV rfl rfl 74 _ _ rfl 36 szSt w1.heap.size Y 74 X u1 rfl rfl (Blk.new w1 _ _) z1 u0 ?_; intro w2 hu2 j2)
    | (refine Su.wpl_loadV rfl 74 _ rfl Tryz.isAgg74 36 szSt w1.heap.size 0 X 74 rfl j2 (by omega) ?_; rw [Su.ext_all u0])
    | (refine wpl_bld rfl 76 _ rfl #[(0, .pointer (some ⟨d, 0, none⟩)), (1, .pointer (some ⟨c, 0, none⟩)), (2, .string sec), (3, .agg X)] (by kernel_rfl) (.agg VA) (B1.out _) ?_)
    | fail)
  go_ret2
  have s2 : Below w1.heap.size w1 w2 := below_upd (Pg.below_alloc w1 _) hu2 (Nat.le_refl _)
  have c2 := c1.below s2
  have cl1 := hC1.lt
  refine ⟨⟨w2.heap.size, CB, rfl, ⟨?_, ((hM1.below s2 hM1.lt).alloc _)⟩, c2.size, hCB⟩, (hC1.below s2 cl1).alloc _, c2.alloc _⟩
  rw [hX.out, hVA.out]
  exact Blk.new w2 VA 76
set_option maxRecDepth 100000 in
set_option maxHeartbeats 400000 in
theorem tell_stuck (vb d c : Nat) (sec : ByteArray) (st : Array Value) (hs : st.size = 36) (w : World) (h : Blk w vb (vaA d c sec st true) 76) :
    Calls Tryz.prog 12 #[.pointer (some ⟨vb, 0, none⟩), .map none] w fun e w' => e = .returned (.iface 41 (.int .i64 6)) ∧ w' = w := by
  have c0 := h.cell 0
  rw [vaA_0] at c0
  have c39 := h.cell 39
  rw [vaA_39 _ _ _ _ _ hs] at c39
  have hr : Calls Tryz.prog 27 #[.pointer (some ⟨vb, 0, none⟩)] w fun e w' => e = .returned (.bool false) ∧ w' = w := by
    clear h
    go_enter Tryz.func27, Tryz.ntmps27
    go_wp2
    go_ret
    exact ⟨rfl, rfl⟩
  clear c0 c39 h
  go_enter Tryz.func12, Tryz.ntmps12
  go_wp2_with fail
  refine hr.mono ?_
  rintro e w1 ⟨rfl, rfl⟩
  go_wp2_with fail
  go_ret
  exact ⟨rfl, rfl⟩
/-- What is known behind a Tell, or a Turn, with a fuse. -/
structure Did (w w' : World) (O : Nat → Prop) (vb d c : Nat) (sec : ByteArray) (n : Nat) (y : Fz) (e : Ending) : Prop where
  e : e = .returned (errF y.b)
  st : y.b = true → ∃ st, st.size = 36 ∧ Blk w' vb (vaA d c sec st true) 76
  dev : ∃ O', y.At w' O' d ∧ ∀ k, O' k → Dv.gro O w w' k
  cnt : Dv.Cnt w' c (if y.b then (n : Int) else ((n + 1 : Nat) : Int))
  chg : Dv.Chg w w' (fun k => O k ∨ k = c ∨ k = vb)
theorem turnF_any (vb d c : Nat) (sec : ByteArray) (n : Nat) (f : Nat → Bool) (r : ByteArray) (mb nn : Nat) (p : Int → Option (Int × ByteArray)) (O : Nat → Prop) (x0 y : Fz) (w : World)
    (hV : Vlt w vb d c sec (n : Int) 1 f r mb nn p false) (hx0 : x0.b = false) (hW : x0.W = []) (hD : x0.At w O d) (hC : Dv.Cnt w c (n : Int)) (hT : Tld x0.S sec n f p)
    (hn : nn + 32 ≤ 100000) (hn1 : n < 1000000) (hsec : sec.size ≤ 300) (hO : ∀ k, O k → k < w.heap.size) (o2 : ¬ O vb) (o3 : ¬ O c) (o4 : vb ≠ c) (hK : Sm.KB w) (t : Int → Option (Int × ByteArray)) (ht : t = trn p ((n + 1 : Nat) : Int) 32)
    (hy : y = x0.all (sl (epoK sec 2) (nxF f t) t 32) ((n + 1) % 2) (Su.allT (supK sec) ((n + 1 : Nat) : Int) 2 (nxF f t) (rootP (nxP p t)))) :
    Calls Tryz.prog 10 #[.pointer (some ⟨vb, 0, none⟩)] w fun e w' => Did w w' O vb d c sec n y e := by
  subst ht
  have hp : ∀ j : Nat, j < 32 → (rd p j).2.size ≤ 200 := fun j hj => by
    unfold rd
    cases hx : p (j : Int) with
    | none => exact Nat.zero_le _
    | some x => have := (hT.pgs.some' j hj x hx).2.2.2; simpa using this
  have e1 : ((n + 1 : Nat) : Int) = (n : Int) + 1 := by omega
  have e2 : ((n : Int) + 1).toNat % 2 = (n + 1) % 2 := by omega
  have hy' : y = x0.all (sl (epoK sec (1 + 1)) (nxF f (trn p ((n : Int) + 1) 32)) (trn p ((n : Int) + 1) 32) 32) (((n : Int) + 1).toNat % 2) (Su.allT (supK sec) ((n : Int) + 1) (1 + 1) (nxF f (trn p ((n : Int) + 1) 32)) (rootP (nxP p (trn p ((n : Int) + 1) 32)))) := by
    rw [hy, e1, e2]; rfl
  cases hb : y.b with
  | true =>
    refine (turnF_bad vb d c sec (n : Int) 1 f r mb nn p O x0 y (n : Int) w hV hx0 hD hC (by omega) hn (by omega) (by omega) (by decide) (by decide) hp hsec (by rw [hW]; exact Nat.zero_le _) hy' hb hO o2 o3 o4 hK).mono ?_
    rintro e w' ⟨rfl, h2, h3, h4, h5⟩
    exact ⟨by rw [hb]; rfl, fun _ => ⟨_, stA_size _ _ _ _ _, h2⟩, h3, by rw [hb]; exact h4, h5⟩
  | false =>
    refine (turnF_good vb d c sec (n : Int) 1 f r mb nn p O x0 y (n : Int) w hV hx0 hD hC (by omega) hn (by omega) (by omega) (by decide) (by decide) hp hsec (by rw [hW]; exact Nat.zero_le _) hy' hb hO o2 o3 o4 hK).mono ?_
    rintro e w' ⟨rfl, _, h3, h4, h5⟩
    exact ⟨by rw [hb]; rfl, fun h => (by rw [hb] at h; cases h), h3, by rw [hb, e1]; exact h4, h5⟩
theorem tellF_any (vb d c : Nat) (sec : ByteArray) (n : Nat) (f : Nat → Bool) (r : ByteArray) (mb nn : Nat) (p : Int → Option (Int × ByteArray)) (m : Value) (nm : Nat) (g : Int → Option ByteArray) (O : Nat → Prop) (x0 y : Fz) (w : World)
    (hV : Vlt w vb d c sec (n : Int) 1 f r mb nn p false) (hM : MapV Tryz.prog w m nm (sv g)) (hg : ∀ i s, g i = some s → (0 ≤ i ∧ i < 32) ∧ s.size ≤ 200) (hx0 : x0.b = false) (hW : x0.W = []) (hD : x0.At w O d) (hC : Dv.Cnt w c (n : Int)) (hT : Tld x0.S sec n f p)
    (hn : nn + nm ≤ 100000) (hn1 : n < 1000000) (hsec : sec.size ≤ 300) (hO : ∀ k, O k → k < w.heap.size) (o2 : ¬ O vb) (o3 : ¬ O c) (o4 : vb ≠ c) (hK : Sm.KB w) (t : Int → Option (Int × ByteArray)) (ht : t = tel g p ((n + 1 : Nat) : Int))
    (hy : y = x0.all (sl (epoK sec 1) (nxF f t) t 32) ((n + 1) % 2) (Su.allT (supK sec) ((n + 1 : Nat) : Int) 1 (nxF f t) (rootP (nxP p t)))) :
    Calls Tryz.prog 12 #[.pointer (some ⟨vb, 0, none⟩), m] w fun e w' => Did w w' O vb d c sec n y e := by
  subst ht
  have hF : ¬ Far g := fun ⟨i, _, h2, h3⟩ => by
    obtain ⟨s, hs⟩ := Option.isSome_iff_exists.1 h2
    exact h3 (hg i s hs).1
  have hWd : ¬ Wide g := fun ⟨i, s, _, h2, h3⟩ => by have := (hg i s h2).2; omega
  have hp : ∀ j : Nat, j < 32 → (rd p j).2.size ≤ 300 := fun j hj => by
    unfold rd
    cases hx : p (j : Int) with
    | none => exact Nat.zero_le _
    | some x => have := (hT.pgs.some' j hj x hx).2.2.2; simp; omega
  have e1 : ((n + 1 : Nat) : Int) = (n : Int) + 1 := by omega
  have e2 : ((n : Int) + 1).toNat % 2 = (n + 1) % 2 := by omega
  have hy' : y = x0.all (sl (epoK sec 1) (nxF f (tel g p ((n : Int) + 1))) (tel g p ((n : Int) + 1)) 32) (((n : Int) + 1).toNat % 2) (Su.allT (supK sec) ((n : Int) + 1) 1 (nxF f (tel g p ((n : Int) + 1))) (rootP (nxP p (tel g p ((n : Int) + 1))))) := by
    rw [hy, e1, e2]
  cases hb : y.b with
  | true =>
    refine (tellF_bad vb d c sec (n : Int) 1 f r mb nn p m nm g O x0 y (n : Int) w hV hM (fun i s hs => by have := (hg i s hs).2; omega) hF hWd hx0 hD hC (by omega) hn (by omega) (by omega) (by decide) (by decide) hp hsec (by rw [hW]; exact Nat.zero_le _) hy' hb hO o2 o3 o4 hK).mono ?_
    rintro e w' ⟨rfl, h2, h3, h4, h5⟩
    exact ⟨by rw [hb]; rfl, fun _ => ⟨_, stA_size _ _ _ _ _, h2⟩, h3, by rw [hb]; exact h4, h5⟩
  | false =>
    refine (tellF_good vb d c sec (n : Int) 1 f r mb nn p m nm g O x0 y (n : Int) w hV hM (fun i s hs => by have := (hg i s hs).2; omega) hF hWd hx0 hD hC (by omega) hn (by omega) (by omega) (by decide) (by decide) hp hsec (by rw [hW]; exact Nat.zero_le _) hy' hb hO o2 o3 o4 hK).mono ?_
    rintro e w' ⟨rfl, _, h3, h4, h5⟩
    exact ⟨by rw [hb]; rfl, fun h => (by rw [hb] at h; cases h), h3, by rw [hb, e1]; exact h4, h5⟩
end Go.Proofs.YtkapkphhceknfaaGreatDoor.Vt
namespace Go.Proofs.YtkapkphhceknfaaGreatDoor.Tr
open Go.RowKit Go.Shelf
/-- What Verify says. -/
def verP (m : ByteArray) (k : Int) (p : Nat → ByteArray) (n : Nat) : Bool := decide (m.size = 16) && (decide (0 ≤ k ∧ k < 32) && (decide (n = 5) && marksB p n))
def verB (root m : ByteArray) (k : Int) (p : Nat → ByteArray) (n : Nat) : Bool := verP m k p n && ((climb m k.toNat p 5).toList == root.toList)
theorem climb_len (m : ByteArray) (k : Nat) (p : Nat → ByteArray) (h : m.size = 16) (t : Nat) : (climb m k p t).size = 16 := by
  cases t with
  | zero => exact h
  | succ t => unfold climb; split <;> exact mk2_size _ _
theorem climb_even (m : ByteArray) (k : Nat) (p : Nat → ByteArray) (t : Nat) (h : k / 2 ^ t % 2 = 0) : mk2 (climb m k p t) (p t) = climb m k p (t + 1) := by
  show _ = if k / 2 ^ t % 2 = 0 then _ else _
  rw [if_pos h]
theorem climb_odd (m : ByteArray) (k : Nat) (p : Nat → ByteArray) (t : Nat) (h : ¬ k / 2 ^ t % 2 = 0) : mk2 (p t) (climb m k p t) = climb m k p (t + 1) := by
  show _ = if k / 2 ^ t % 2 = 0 then _ else _
  rw [if_neg h]
end Go.Proofs.YtkapkphhceknfaaGreatDoor.Tr
namespace Go.Proofs.YtkapkphhceknfaaGreatDoor.Tr
open Go.RowKit Go.Shelf
section
variable {ops : Array Oper} {Q : Exit → Act → World → Prop} {a : Act} {w : World} {rest : List Oper} {o : Oper}
theorem tx_cells {w : World} {sg so n : Nat} {f : Nat → ByteArray} (hT : Tx w (some ⟨sg, so, none⟩) f n) : ∀ j u, (strs f n)[j]? = some u → w.cell? ((⟨sg, so, none⟩ : Addr).add j) = some u := by
  intro j u hj
  have hjn : j < n := by have := (List.getElem?_eq_some_iff.1 hj).1; simpa [strs] using this
  rw [strs_get f n j hjn] at hj
  obtain rfl := Option.some.inj hj
  obtain ⟨g', o', e, _, hc⟩ := hT j hjn
  injection e with e
  injection e with e1 e2
  subst e1 e2
  have : (⟨sg, so, none⟩ : Addr).add j = ⟨sg, so + j, none⟩ := by
    unfold Addr.add; split
    · rename_i e; subst e; rfl
    · rfl
  rw [this]; exact hc
theorem strs_cell (f : Nat → ByteArray) (n : Nat) : ∀ u ∈ strs f n, u.oneCell' = true := by
  intro u hu
  simp only [strs, List.mem_map] at hu
  obtain ⟨_, _, rfl⟩ := hu; rfl
/-- Texts of a slice appended to a slice of texts that the call has made. -/
theorem wpl_pushTx (hgd : o.guard = none) (s x : Operand) (ho : o.op = .call { callee := .builtin .append, args := #[s, x], argTypes := #[23, 23] })
    (B k : Nat) (v : Value) (xs : List Value) (hs : a.eval s = v) (hown : w.ownsRow B 9 1 v k xs) (sa : Option Addr) (n c : Nat) (f : Nat → ByteArray) (hx : a.eval x = .slice sa n c) (hT : Tx w sa f n) (hn0 : 0 < n) (hk : k ≤ 100) (hn : n ≤ 100) (hbase : B ≤ w.heap.size)
    (h : ∀ g cap w', w'.ownsRow B 9 1 (.slice (some ⟨g, 0, none⟩) (k + n) cap) (k + n) (xs ++ strs f n) → w.grownBy w' v.ownBlock → (v.ownBlock = some g ∨ g = w.heap.size) → wpList Tryz.prog ops Q rest (a.put o.dst (.slice (some ⟨g, 0, none⟩) (k + n) cap)) w') :
    wpList Tryz.prog ops Q (o :: rest) a w := by
  obtain ⟨i, hi, hp⟩ := Option.map_eq_some_iff.1 infoStr
  simp only [Prod.mk.injEq] at hp
  obtain ⟨p1, p2, p3⟩ := hp
  obtain ⟨sg, so, rfl, _, _⟩ := hT 0 hn0
  refine wpList_append_lies w hgd s x 23 ho B 9 i (.string ByteArray.empty) 1 16 Tryz.underlying23 hi p1 p2 p3 rfl (by decide) v k xs hs hown ⟨sg, so, none⟩ n c (strs f n) hx (by simp [strs]) (tx_cells hT) (strs_cell f n) hn0 (by unfold maxLen; omega) (by omega) hbase w.heap.size rfl ?_
  intro g cap w' h1 h2 h3 _
  exact h g cap w' h1 h2 h3
/-- .. none of them. -/
theorem wpl_push0 (hgd : o.guard = none) (s x : Operand) (ho : o.op = .call { callee := .builtin .append, args := #[s, x], argTypes := #[23, 23] })
    (B g k cap : Nat) (xs : List Value) (hs : a.eval s = .slice (some ⟨g, 0, none⟩) k cap) (hown : w.ownsRow B 9 1 (.slice (some ⟨g, 0, none⟩) k cap) k xs) (sa : Option Addr) (c : Nat) (hx : a.eval x = .slice sa 0 c) (hnil : sa = none → c = 0) (hkc : k ≤ cap)
    (h : ∀ w', w'.ownsRow B 9 1 (.slice (some ⟨g, 0, none⟩) k cap) k xs → w.grownBy w' (some g) → wpList Tryz.prog ops Q rest (a.put o.dst (.slice (some ⟨g, 0, none⟩) k cap)) w') :
    wpList Tryz.prog ops Q (o :: rest) a w := by
  obtain ⟨i, hi, hp⟩ := Option.map_eq_some_iff.1 infoStr
  simp only [Prod.mk.injEq] at hp
  obtain ⟨p1, p2, p3⟩ := hp
  refine wpList_append_fits_any w hgd s x 23 ho B 9 i 1 Tryz.underlying23 hi p2 g k cap xs hs hown sa 0 c [] hx rfl (fun e => ⟨rfl, hnil e⟩) (fun _ _ j u hu => by simp at hu) (fun u hu => by simp at hu) (by omega) ?_
  intro w' h1 h2
  simp only [List.append_nil, Nat.add_zero] at h1
  exact h w' h1 h2
end
theorem own_cap {w : World} {B g n cap : Nat} {xs : List Value} (h : w.ownsRow B 9 1 (.slice (some ⟨g, 0, none⟩) n cap) n xs) : n ≤ cap := by
  obtain ⟨h1, h2⟩ := h
  rcases h2 with ⟨h2, _⟩ | ⟨g', cap', cur, hv, hgB, hh, hle, _⟩
  · cases h2
  · have e : cap = cap' := by injection hv
    subst e; exact hle
theorem own_ge {w : World} {B g n cap : Nat} {xs : List Value} (h : w.ownsRow B 9 1 (.slice (some ⟨g, 0, none⟩) n cap) n xs) : B ≤ g := by
  obtain ⟨h1, h2⟩ := h
  rcases h2 with ⟨h2, _⟩ | ⟨g', cap', cur, hv, hgB, hh, hle, _⟩
  · cases h2
  · have e : g = g' := by injection hv with a1; injection a1 with a2; injection a2
    subst e; exact hgB
theorem own_new (w : World) : (w.alloc (.cells #[] 9)).ownsRow w.heap.size 9 1 (.slice (some ⟨w.heap.size, 0, none⟩) 0 0) 0 [] :=
  ⟨rfl, Or.inr ⟨w.heap.size, 0, #[], rfl, Nat.le_refl _, heap_alloc_new w (.cells #[] 9), Nat.le_refl _, Nat.zero_le _, rfl, rfl⟩⟩
theorem tx_new (w : World) (x : ByteArray) : Tx (w.alloc (.cells #[.string x] 9)) (some ⟨w.heap.size, 0, none⟩) (fun _ => x) 1 := fun i hi => by
  obtain rfl : i = 0 := by omega
  have h := Blk.new w #[.string x] 9
  exact ⟨w.heap.size, 0, rfl, h.lt, h.cell 0⟩
theorem strs_one (x : ByteArray) : strs (fun _ => x) 1 = [.string x] := rfl
theorem strs_congr (f g : Nat → ByteArray) (n : Nat) (h : ∀ i, i < n → f i = g i) : strs f n = strs g n := by
  unfold strs; apply List.map_congr_left; intro j hj; rw [h j (by simpa using hj)]
end Go.Proofs.YtkapkphhceknfaaGreatDoor.Tr
