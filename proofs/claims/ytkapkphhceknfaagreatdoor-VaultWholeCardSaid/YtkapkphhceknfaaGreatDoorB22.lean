/-
  Part of the proof: become is walked, where nothing is in the way.
-/
import Derived.Test.YtkapkphhceknfaaGreatDoorB20
namespace Go.Proofs.YtkapkphhceknfaaGreatDoor.Vt
open Go.RowKit
theorem vaA_set (d c : Nat) (sec : ByteArray) (st st' : Array Value) (stuck : Bool) (hs : st.size = 36) (hs' : st'.size = 36) : foldset (vaA d c sec st stuck) 3 st'.toList = vaA d c sec st' stuck := by
  apply Array.ext_getElem?; intro j
  rw [Dv.foldset_get _ _ _ _ (by rw [vaA_size _ _ _ _ _ hs]; simp [hs'])]
  by_cases h : 3 ≤ j ∧ j < 3 + st'.toList.length
  · rw [if_pos h]
    simp [hs'] at h
    have e := vaA_st d c sec st' stuck hs' (j - 3) (by omega)
    rw [show 3 + (j - 3) = j from by omega] at e
    rw [e, Array.getElem?_toList]
  · rw [if_neg h]
    simp [hs'] at h
    unfold vaA
    by_cases h3 : j < 3
    · rw [Array.getElem?_append_left (by simp [hs]; omega), Array.getElem?_append_left (by simp; omega), Array.getElem?_append_left (by simp [hs']; omega), Array.getElem?_append_left (by simp; omega)]
    · rw [Array.getElem?_append_right (by simp [hs]; omega), Array.getElem?_append_right (by simp [hs']; omega)]
      simp [hs, hs']
theorem buildVB (a : Int) (x : ByteArray) (w : World) : (Instr.build 97 #[(0, .int .i64 a), (1, .string x)]).run Tryz.prog w = .ok (.agg #[.int .i64 a, .string x]) w := run_build w 97 _ _ (by kernel_rfl)
set_option maxRecDepth 100000 in
set_option maxHeartbeats 1000000 in
theorem become_any (vb d c : Nat) (sec : ByteArray) (cn en : Int) (f : Nat → Bool) (r : ByteArray) (mb n : Nat) (p : Int → Option (Int × ByteArray)) (ep : Int) (tm nt : Nat) (t : Int → Option (Int × ByteArray)) (O : Nat → Prop) (S : Nat → Nat → UInt8) (W : List (Nat × (Nat → UInt8))) (v : Value) (lf : Int) (n0 : Int) (w : World)
    (hV : Vlt w vb d c sec cn en f r mb n p false) (hT : MapF Tryz.prog w tm nt (pv t)) (hD : Dv.Dev w O d S W (-1) v lf) (hC : Dv.Cnt w c n0) (hm : n0 < cn + 1)
    (hk : ∀ i, kOk i → (t i).isSome = true → 0 ≤ i ∧ i < 32) (hn : n + nt ≤ 100000) (hc0 : 0 ≤ cn) (hc1 : cn < 1099511627776) (he0 : 1 ≤ ep) (he1 : ep ≤ 1099511627776) (hs : ∀ j : Nat, j < 32 → (rd (nxP p t) j).2.size ≤ 300)
    (ht : ∀ k : Nat, k < 32 → ∀ x, t (k : Int) = some x → 1 ≤ x.1 ∧ x.1 ≤ 1099511627776 ∧ x.2.size ≤ 200) (hsec : sec.size ≤ 300) (hW : W.length ≤ 100) (hO : ∀ k, O k → k < w.heap.size) (o2 : ¬ O vb) (o3 : ¬ O c) (o4 : vb ≠ c) (hK : Sm.KB w) :
    Calls Tryz.prog 28 #[.pointer (some ⟨vb, 0, none⟩), .int .i64 ep, .map (some tm)] w fun e w' => e = .returned .nilIface ∧
      (∃ CB, Vlt w' vb d c sec (cn + 1) ep (nxF f t) (rootP (nxP p t)) CB (n + nt) (nxP p t) false ∧ w.heap.size ≤ CB) ∧
      (∃ O' v' l', Dv.Dev w' O' d (sureS (sureS S (W ++ wl (sl (epoK sec ep) (nxF f t) t 32))) [((cn + 1).toNat % 2, Dv.bAt (Su.allT (supK sec) (cn + 1) ep (nxF f t) (rootP (nxP p t))))]) [] (-1) v' l' ∧ ∀ k, O' k → Dv.gro O w w' k) ∧ Dv.Cnt w' c (cn + 1) ∧ Dv.Chg w w' (fun k => O k ∨ k = c ∨ k = vb) := by
  have HK : Hid (∀ i, kOk i → (t i).isSome = true → 0 ≤ i ∧ i < 32) := hk
  have HS : Hid (∀ j : Nat, j < 32 → (rd (nxP p t) j).2.size ≤ 300) := hs
  have HT : Hid (∀ k : Nat, k < 32 → ∀ x, t (k : Int) = some x → 1 ≤ x.1 ∧ x.1 ≤ 1099511627776 ∧ x.2.size ≤ 200) := ht
  have HC : Hid (0 ≤ cn ∧ cn < 1099511627776 ∧ 1 ≤ ep ∧ ep ≤ 1099511627776 ∧ n0 < cn + 1) := ⟨hc0, hc1, he0, he1, hm⟩
  have HO : Hid (∀ k, O k → k < w.heap.size) := hO
  have hvw : Hid (vb < w.heap.size) := hV.blk.lt
  have hcw : Hid (c < w.heap.size) := hC.lt
  have HB := behind_any cn en f r mb n p ep tm nt t w hV.map hT hk hn hc0 (by omega) hs hK
  have jV := hV.blk
  have q0 := vaA_0 d c sec (stA cn en f r (.map (some mb))) false
  have q1 := vaA_1 d c sec (stA cn en f r (.map (some mb))) false
  have q2 : Hid _ := vaA_2 d c sec (stA cn en f r (.map (some mb))) false
  have q3 := vaA_now d c sec (stA cn en f r (.map (some mb))) false (stA_size _ _ _ _ _)
  have q4 := vaA_size d c sec (stA cn en f r (.map (some mb))) false (stA_size _ _ _ _ _)
  have q5 : Hid (∀ st', st'.size = 36 → foldset (vaA d c sec (stA cn en f r (.map (some mb))) false) 3 st'.toList = vaA d c sec st' false) := fun st' h => vaA_set d c sec _ st' false (stA_size _ _ _ _ _) h
  obtain ⟨X0, hX0⟩ : ∃ X, Hid (stA cn en f r (.map (some mb)) = X) := ⟨_, rfl⟩
  rw [hX0.out] at HB jV q0 q1 q2 q3 q4 q5
  obtain ⟨VA, hVA⟩ : ∃ X, Hid (vaA d c sec X0 false = X) := ⟨_, rfl⟩
  rw [hVA.out] at jV q0 q1 q2 q3 q4 q5
  clear hX0 hVA hk hs ht hc0 hc1 he0 he1 hm hO
  go_enter Tryz.func28, Tryz.ntmps28
  go_wp2_with (first
    | (refine Su.wpl_loadV rfl 74 _ rfl Tryz.isAgg74 36 szSt vb 3 VA 76 rfl jV (by omega) ?_; rw [q3])
    | fail)
  refine HB.mono ?_
  rintro e w1 ⟨⟨CB, rfl, hM1, hCB⟩, g1⟩
  have u0 := stA_size (cn + 1) ep (nxF f t) (rootP (nxP p t)) (.map (some CB))
  have u1 := stA_one (cn + 1) ep (nxF f t) (rootP (nxP p t)) (.map (some CB)) rfl
  have u2 := stA_0 (cn + 1) ep (nxF f t) (rootP (nxP p t)) (.map (some CB))
  have u3 : Hid _ := stA_sup (cn + 1) ep (nxF f t) (rootP (nxP p t)) (.map (some CB)) 35 rfl
  obtain ⟨X1, hX1⟩ : ∃ X, Hid (stA (cn + 1) ep (nxF f t) (rootP (nxP p t)) (.map (some CB)) = X) := ⟨_, rfl⟩
  rw [hX1.out] at u0 u1 u2 u3
  rw [hX1.out]
  have zst := zeroSt
  have zZ := st0_size
  obtain ⟨Z, hZ⟩ : ∃ Z, Hid (st0 = Z) := ⟨_, rfl⟩
  rw [hZ.out] at zst zZ
  clear hZ HB q3
  go_wp2_with (first
    | (refine Su.wpl_storeV rfl rfl 74 _ _ rfl 36 szSt w1.heap.size Z 74 X1 u1 rfl rfl (Blk.new w1 _ _) zZ u0 ?_; intro w2 hu2 j2)
    | fail)
  have s2 : Below w1.heap.size w1 w2 := below_upd (Pg.below_alloc w1 _) hu2 (Nat.le_refl _)
  have b2 := g1.trans (s2.mono g1.size)
  have jV2 := jV.below b2 jV.lt
  have hT2 := hT.below b2 hT.lt
  have hM2 := hM1.below s2 hM1.lt
  have hD2 := hD.below b2
  have hC2 := hC.below b2 hC.lt
  obtain ⟨NB, hNB⟩ : ∃ NB, Hid (w1.heap.size = NB) := ⟨_, rfl⟩
  have hN1 : Hid (w.heap.size ≤ NB) := by unfold Hid; rw [← hNB.out]; exact g1.size
  have hN2 : Hid (CB < NB) := by unfold Hid; rw [← hNB.out]; exact hM1.lt
  rw [hNB.out] at j2
  rw [hNB.out]
  clear hu2 s2 hD hC hT hM1 jV g1
  have HW2 : Hid (∀ W', Below w2.heap.size w2 W' → Blk W' NB X1 74 ∧ W'.cell? ⟨vb, 2, none⟩ = some (.string sec)) := fun W' hb => ⟨j2.below hb j2.lt, by rw [(jV2.below hb jV2.lt).cell, q2.out]⟩
  refine regS_in 12 (fun W' => Below w2.heap.size w2 W') Tr.mixed rfl ?_
  have s0 : Below w2.heap.size w2 w2.drew := below_drewN (Below.refl _ _) 1
  refine regS_take 0 26 (.agg X1) rfl rfl (by kernel_rfl) (fun _ _ _ h => h) rfl (fun W' hs => Su.exec_load 74 _ rfl ⟨NB, 0, none⟩ rfl _ (by rw [Su.loadV_run W' _ Tryz.isAgg74 36 szSt NB 0 X1 _ (HW2.out W' hs).1 (by omega), Su.ext_all u0])) s0 ?_
  refine regS_take 1 27 (.pointer (some ⟨vb, 0, none⟩)) rfl rfl (by kernel_rfl) (fun _ _ _ h => h) rfl (fun w _ => by go_simp) s0 ?_
  refine regS_take 2 28 (.pointer (some ⟨vb, 0, none⟩)) rfl rfl (by kernel_rfl) (fun _ _ _ h => h) rfl (fun w _ => by go_simp) s0 ?_
  refine regS_take 3 29 (.pointer (some ⟨vb, 2, none⟩)) rfl rfl (by kernel_rfl) (fun _ _ _ h => h) rfl (fun w _ => by go_simp) s0 ?_
  refine regS_take 4 30 (.string sec) rfl rfl (by kernel_rfl) (fun _ _ _ h => h) rfl (fun W' hs => by have c0 := (HW2.out W' hs).2; go_simp) s0 ?_
  refine regS_take 5 31 (.map (some tm)) rfl rfl (by kernel_rfl) (fun _ _ _ h => h) rfl (fun w _ => by go_simp) s0 ?_
  simp only [Act.put, List.setIfInBounds_toArray, List.set_cons_succ, List.set_cons_zero]
  refine regS_one 6 rfl (by kernel_rfl) rfl (fun K hK' => ?_)
  go_wp2_with fail
  have HSd := sealed_any (cn + 1) ep (nxF f t) (rootP (nxP p t)) (.map (some CB)) sec tm nt t w2.drew (hT2.drew) (by omega) HT.out hsec (hK.below (below_drewN b2 1))
  rw [hX1.out] at HSd
  refine HSd.mono ?_
  rintro e w3 ⟨⟨pg, rfl, ow3⟩, g3⟩
  have s3 : Below w2.heap.size w2 w3 := s0.trans g3
  refine hK' _ _ s3 ?_
  clear hK' K HSd g3
  have ow3' : w3.ownsRow w2.heap.size 97 2 pg (sl (epoK sec ep) (nxF f t) t 32).length (slC (sl (epoK sec ep) (nxF f t) t 32)) := ow3
  clear ow3
  refine regS_take 7 25 (.tuple #[pg, .nilIface]) rfl rfl (by kernel_rfl) (fun _ _ _ h => h) rfl (fun w _ => by go_simp) s3 ?_
  refine regS_take 8 33 (pg) rfl rfl (by kernel_rfl) (fun _ _ _ h => h) rfl (fun w _ => by go_simp) s3 ?_
  refine regS_take 9 34 (.nilIface) rfl rfl (by kernel_rfl) (fun _ _ _ h => h) rfl (fun w _ => by go_simp) s3 ?_
  refine regS_take 10 9 (pg) rfl rfl (by kernel_rfl) (fun _ _ _ h => h) rfl (fun w _ => by go_simp) s3 ?_
  refine regS_take 11 8 (.nilIface) rfl rfl (by kernel_rfl) (fun _ _ _ h => h) rfl (fun w _ => by go_simp) s3 ?_
  refine regS_end (by kernel_rfl) ?_
  simp only [Act.put, List.setIfInBounds_toArray, List.set_cons_succ, List.set_cons_zero]
  have j3 := j2.below s3 j2.lt
  have jV3 := jV2.below s3 jV2.lt
  have b3 := b2.trans (s3.mono b2.size)
  have hD3 := hD2.below s3
  have hC3 := hC2.below s3 hC2.lt
  have hM3 := hM2.below s3 hM2.lt
  have hz2 : Hid (w.heap.size ≤ w2.heap.size) := b2.size
  clear j2 jV2 b2 hD2 hC2 hM2 hT2 HW2 s0
  go_wp2_with fail
  have HW3 : Hid (∀ W', Below w3.heap.size w3 W' → Blk W' NB X1 74 ∧ W'.cell? ⟨vb, 2, none⟩ = some (.string sec)) := fun W' hb => ⟨j3.below hb j3.lt, by rw [(jV3.below hb jV3.lt).cell, q2.out]⟩
  obtain ⟨Y, hY⟩ : ∃ Y, Hid (Su.supA (cn + 1) ep (nxF f t) (rootP (nxP p t)) = Y) := ⟨_, rfl⟩
  rw [hY.out] at u3
  refine regS_in 13 (fun W' => Below w3.heap.size w3 W') Tr.mixed rfl ?_
  have s0 : Below w3.heap.size w3 w3.drew := below_drewN (Below.refl _ _) 1
  refine regS_take 0 39 (.pointer (some ⟨vb, 0, none⟩)) rfl rfl (by kernel_rfl) (fun _ _ _ h => h) rfl (fun w _ => by go_simp) s0 ?_
  refine regS_take 1 40 (.pointer (some ⟨vb, 0, none⟩)) rfl rfl (by kernel_rfl) (fun _ _ _ h => h) rfl (fun w _ => by go_simp) s0 ?_
  refine regS_take 2 41 (.pointer (some ⟨vb, 2, none⟩)) rfl rfl (by kernel_rfl) (fun _ _ _ h => h) rfl (fun w _ => by go_simp) s0 ?_
  refine regS_take 3 42 (.string sec) rfl rfl (by kernel_rfl) (fun _ _ _ h => h) rfl (fun W' hs => by have c0 := (HW3.out W' hs).2; go_simp) s0 ?_
  refine regS_take 5 44 (.pointer (some ⟨NB, 0, none⟩)) rfl rfl (by kernel_rfl) (fun _ _ _ h => h) rfl (fun w _ => by go_simp) s0 ?_
  refine regS_take 6 45 (.agg Y) rfl rfl (by kernel_rfl) (fun _ _ _ h => h) rfl (fun W' hs => Su.exec_load 72 _ rfl ⟨NB, 0, none⟩ rfl _ (by rw [Su.loadV_run W' _ Tryz.isAgg72 35 Su.sz93 NB 0 X1 _ (HW3.out W' hs).1 (by omega), Nat.zero_add, u3.out])) s0 ?_
  simp only [Act.put, List.setIfInBounds_toArray, List.set_cons_succ, List.set_cons_zero]
  refine regS_one 4 rfl (by kernel_rfl) rfl (fun K hK' => ?_)
  go_wp2_with fail
  refine (superKey_any sec w3.drew hsec (hK.below (below_drewN b3 1))).mono ?_
  rintro e w4 ⟨rfl, g4⟩
  have s4 : Below w3.heap.size w3 w4 := s0.trans g4
  refine hK' _ _ s4 ?_
  clear hK' K g4
  refine regS_one 7 rfl (by kernel_rfl) rfl (fun K hK' => ?_)
  go_wp2_with fail
  have HWr := Su.write_good (supK sec) (cn + 1) ep (nxF f t) (rootP (nxP p t)) w4 (by
    unfold Su.okW Su.okN
    have := HC.out
    rw [supK_size, rootP_size, decide_eq_true (show (1 : Int) ≤ cn + 1 by omega), decide_eq_true (show cn + 1 ≤ (1099511627776 : Int) by omega), decide_eq_true this.2.2.1, decide_eq_true this.2.2.2.1]; rfl) (hK.below (b3.trans (s4.mono b3.size)))
  rw [hY.out] at HWr
  refine HWr.mono ?_
  rintro e w5 ⟨rfl, g5⟩
  have s5 : Below w3.heap.size w3 w5 := s4.trans (g5.mono s4.size)
  refine hK' _ _ s5 ?_
  clear hK' K HWr g5 s4
  have ztop := Su.allT_size (supK sec) (cn + 1) ep (nxF f t) (rootP (nxP p t))
  rw [rootP_size] at ztop
  obtain ⟨top, htop⟩ : ∃ T, Hid (Su.allT (supK sec) (cn + 1) ep (nxF f t) (rootP (nxP p t)) = T) := ⟨_, rfl⟩
  rw [htop.out] at ztop
  rw [htop.out]
  refine regS_take 8 38 (.tuple #[.string top, .nilIface]) rfl rfl (by kernel_rfl) (fun _ _ _ h => h) rfl (fun w _ => by go_simp) s5 ?_
  refine regS_take 9 47 (.string top) rfl rfl (by kernel_rfl) (fun _ _ _ h => h) rfl (fun w _ => by go_simp) s5 ?_
  refine regS_take 10 48 (.nilIface) rfl rfl (by kernel_rfl) (fun _ _ _ h => h) rfl (fun w _ => by go_simp) s5 ?_
  refine regS_take 11 10 (.string top) rfl rfl (by kernel_rfl) (fun _ _ _ h => h) rfl (fun w _ => by go_simp) s5 ?_
  refine regS_take 12 8 (.nilIface) rfl rfl (by kernel_rfl) (fun _ _ _ h => h) rfl (fun w _ => by go_simp) s5 ?_
  refine regS_end (by kernel_rfl) ?_
  simp only [Act.put, List.setIfInBounds_toArray, List.set_cons_succ, List.set_cons_zero]
  have j5 := j3.below s5 j3.lt
  have jV5 := jV3.below s5 jV3.lt
  have b5 := b3.trans (s5.mono b3.size)
  have hD5 := hD3.below s5
  have hC5 := hC3.below s5 hC3.lt
  have hM5 := hM3.below s5 hM3.lt
  have ow5 := row_below ow3' s5
  clear j3 jV3 b3 hD3 hC3 hM3 HW3 s0 u3 ow3' s3 s5
  go_wp2_with fail
  obtain ⟨N, hN⟩ : ∃ N, Hid (N = (cn + 1).toNat) := ⟨_, rfl⟩
  have hNI : Hid (cn + 1 = (N : Int)) := by unfold Hid; rw [hN.out]; have := HC.out; omega
  have hNl : Hid (N < 9007199254740992) := by unfold Hid; rw [hN.out]; have := HC.out; omega
  have hNt : Hid (N % 2 < 66) := by unfold Hid; omega
  refine regS_in 13 (fun W' => Blk W' NB X1 74) Tr.mixed rfl ?_
  have s0 : Blk w5.drew NB X1 74 := j5.drewN 1
  refine regS_take 0 52 (.pointer (some ⟨vb, 0, none⟩)) rfl rfl (by kernel_rfl) (fun _ _ _ h => h) rfl (fun w _ => by go_simp) s0 ?_
  refine regS_take 1 53 (pg) rfl rfl (by kernel_rfl) (fun _ _ _ h => h) rfl (fun w _ => by go_simp) s0 ?_
  refine regS_take 2 54 (.pointer (some ⟨NB, 0, none⟩)) rfl rfl (by kernel_rfl) (fun _ _ _ h => h) rfl (fun w _ => by go_simp) s0 ?_
  refine regS_take 3 55 (.pointer (some ⟨NB, 0, none⟩)) rfl rfl (by kernel_rfl) (fun _ _ _ h => h) rfl (fun w _ => by go_simp) s0 ?_
  refine regS_take 4 56 (.int .i64 (cn + 1)) rfl rfl (by kernel_rfl) (fun _ _ _ h => h) rfl (fun W' hs => by have c0 := hs.cell 0; rw [u2] at c0; go_simp) s0 ?_
  refine regS_take 6 58 (.string top) rfl rfl (by kernel_rfl) (fun _ _ _ h => h) rfl (fun w _ => by go_simp) s0 ?_
  refine regS_take 8 60 (.pointer (some ⟨NB, 0, none⟩)) rfl rfl (by kernel_rfl) (fun _ _ _ h => h) rfl (fun w _ => by go_simp) s0 ?_
  refine regS_take 9 61 (.pointer (some ⟨NB, 0, none⟩)) rfl rfl (by kernel_rfl) (fun _ _ _ h => h) rfl (fun w _ => by go_simp) s0 ?_
  refine regS_take 10 62 (.int .i64 (cn + 1)) rfl rfl (by kernel_rfl) (fun _ _ _ h => h) rfl (fun W' hs => by have c0 := hs.cell 0; rw [u2] at c0; go_simp) s0 ?_
  simp only [Act.put, List.setIfInBounds_toArray, List.set_cons_succ, List.set_cons_zero]
  refine regS_one 5 rfl (by kernel_rfl) rfl (fun K hK' => ?_)
  go_wp2_with fail
  have HPl : Calls Tryz.prog 41 #[.int .i64 (cn + 1)] w5.drew fun e w' => e = .returned (.int .i64 ((N % 2 : Nat) : Int)) ∧ w' = w5.drew := by rw [hNI.out]; exact superPlace_any N w5.drew hNl.out
  refine HPl.mono ?_
  rintro e w6 ⟨rfl, rfl⟩
  refine hK' _ _ s0 ?_
  clear hK' K HPl
  refine regS_take 7 59 (.agg #[.int .i64 ((N % 2 : Nat) : Int), .string top]) rfl rfl (by kernel_rfl) (fun _ _ _ h => h) rfl (fun w _ => Su.exec_build 97 #[(0, .tmp 57), (1, .tmp 58)] rfl _ #[(0, .int .i64 ((N % 2 : Nat) : Int)), (1, .string top)] (by kernel_rfl) (buildVB _ _ w)) s0 ?_
  simp only [Act.put, List.setIfInBounds_toArray, List.set_cons_succ, List.set_cons_zero]
  refine regS_one 11 rfl (by kernel_rfl) rfl (fun K hK' => ?_)
  go_wp2_with fail
  have z5 := b5.size
  have HWw := vwrite_any vb d c VA O S W v lf pg _ (sl (epoK sec ep) (nxF f t) t 32) (N % 2) top n0 (cn + 1) w5.drew (jV5.drewN 1) q0 q1 (hD5.drewN 1) (hC5.drewN 1) HC.out.2.2.2.2 ow5
    (fun g hg h => by
      have := (Dv.ownsRow_lt ow5 g hg).1
      have := HO.out g h
      have := hz2.out
      omega)
    (fun x hx => by have := sl_ok (epoK sec ep) (nxF f t) t 32 (by decide) x hx; omega) (sl_len _ _ _ _) hW hNt.out (by rw [ztop]; decide) (fun k hk => Nat.lt_of_lt_of_le (HO.out k hk) z5) o2 o3 o4
  refine HWw.mono ?_
  rintro e w7 ⟨rfl, ⟨O7, v7, l7, hD7, hO7⟩, hC7, C7'⟩
  have C7 : Dv.Chg w5 w7 (fun k => O k ∨ k = c) := ⟨C7'.os, C7'.tape, C7'.output, C7'.size, C7'.block⟩
  have hO7' : Hid (∀ k, O7 k → O k ∨ (w5.heap.size ≤ k ∧ k < w7.heap.size)) := hO7
  have nn : ∀ b, b < w5.heap.size → w.heap.size ≤ b → ¬ (O b ∨ b = c) := fun b h1 h2 h => by
    rcases h with h | h
    · exact absurd (HO.out b h) (by omega)
    · have := hcw.out; omega
  have j7 := j5.chg C7 (nn NB j5.lt hN1.out)
  have jV7 := jV5.chg C7 (fun h => h.elim o2 o4)
  have hM7 : MapF Tryz.prog w7 CB (n + nt) (pv (nxP p t)) := hM5.same (C7.block CB hM5.lt (nn CB hM5.lt hCB))
  refine hK' _ _ j7 ?_
  clear hK' K HWw C7' hO7 nn j5 jV5 hD5 hC5 hM5 ow5
  refine regS_take 12 11 (.nilIface) rfl rfl (by kernel_rfl) (fun _ _ _ h => h) rfl (fun w _ => by go_simp) j7 ?_
  refine regS_end (by kernel_rfl) ?_
  simp only [Act.put, List.setIfInBounds_toArray, List.set_cons_succ, List.set_cons_zero]
  clear s0 u2 q0 q1
  go_wp2_with (first
    | (refine Su.wpl_loadV rfl 74 _ rfl Tryz.isAgg74 36 szSt NB 0 X1 74 rfl j7 (by omega) ?_; rw [Su.ext_all u0])
    | (refine Dv.wpl_storeAt rfl rfl 74 _ _ rfl 36 szSt vb 3 VA 76 X1 rfl rfl u0 u1 jV7 (by omega) ?_; intro w8 hu8 j8)
    | fail)
  go_ret
  rw [q5.out X1 u0, ← hX1.out] at j8
  refine ⟨rfl, ⟨CB, ⟨j8, hM7.upd hu8 ?_⟩, hCB⟩, ⟨O7, v7, l7, ?_, fun k hk => ?_⟩, hC7.upd hu8 (Ne.symm o4), ?_⟩
  · have := hvw.out; omega
  · rw [htop.out, ← hN.out]
    exact dev_put' hD7 hu8 (fun h => by
      rcases hO7'.out vb h with h | h
      · exact o2 h
      · have := hvw.out; omega)
  · rcases hO7'.out k hk with h | h
    · exact Or.inl h
    · exact Or.inr ⟨by omega, by rw [hu8.size]; exact h.2⟩
  · exact ((chg_then (Dv.Chg.of b5 _) C7 fun k _ h => h.elim Or.inl fun h => Or.inr (Or.inl h))).upd hu8 (Or.inl (Or.inr (Or.inr rfl)))
end Go.Proofs.YtkapkphhceknfaaGreatDoor.Vt
