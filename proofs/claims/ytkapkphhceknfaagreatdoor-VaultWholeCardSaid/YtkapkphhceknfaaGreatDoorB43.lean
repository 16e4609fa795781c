/-
  Part of the proof: plain facts: what was written into a block that tells of all, or sealed as a page, is read as it was.
  Part of the proof: a page is read off the device; what tells of all is.
-/
import Derived.Test.YtkapkphhceknfaaGreatDoorB42
namespace Go.Proofs.YtkapkphhceknfaaGreatDoor.Vt
open Go.RowKit
theorem l_ext (s : ByteArray) (a b : Nat) : (s.extract a b).data.toList = (s.data.toList.drop a).take (b - a) := by
  rw [ByteArray.data_extract, Array.toList_extract, List.extract_eq_take_drop]
theorem l_app (s t : ByteArray) : (s ++ t).data.toList = s.data.toList ++ t.data.toList := by rw [ByteArray.data_append, Array.toList_append]
theorem l_sb (n : Nat) (f : Nat → UInt8) : (sb n f).data.toList = (List.range n).map f := rfl
theorem l_size (s : ByteArray) : s.data.toList.length = s.size := rfl
theorem ba_eq {s t : ByteArray} (h : s.data.toList = t.data.toList) : s = t := by
  cases s; cases t; simp only [ByteArray.mk.injEq]; exact Array.toList_inj.1 h
theorem l_mid {x y z : List UInt8} {a b : Nat} (hx : x.length = a) (hy : y.length = b) : ((x ++ (y ++ z)).drop a).take b = y := by
  subst hx; subst hy; simp
/-- A block with a text and 0 behind it. -/
def pad (s : ByteArray) : ByteArray := sb 256 (Dv.bAt s)
theorem pad_size (s : ByteArray) : (pad s).size = 256 := sb_size _ _
theorem pad_ext (s : ByteArray) (a b : Nat) (hb : b ≤ s.size) (hs : s.size ≤ 256) : (pad s).extract a b = s.extract a b := by
  refine ba_eq (List.ext_getElem? fun i => ?_)
  rw [l_ext, l_ext, List.getElem?_take, List.getElem?_take]
  split
  · rename_i hi
    rw [List.getElem?_drop, List.getElem?_drop]
    show ((List.range 256).map (Dv.bAt s))[a + i]? = _
    rw [List.getElem?_map, List.getElem?_range (by omega), Option.map_some]
    unfold Dv.bAt
    rw [List.getD_eq_getElem?_getD, List.getElem?_eq_getElem (by rw [l_size]; omega)]; rfl
  · rfl
theorem pad_bt (s : ByteArray) (j : Nat) (h : j < 256) : Pg.bt (pad s) j = Pg.bt s j := by
  unfold Pg.bt pad
  rw [l_sb, List.getD_eq_getElem?_getD, List.getElem?_map, List.getElem?_range h]; rfl
/-- A number's bytes, read. -/
theorem num_bt (n : Int) (j : Nat) (h : j < 8) : Pg.bt (Pg.numS n) j = Sm.numN n / 256 ^ (7 - j) % 256 := by
  unfold Pg.bt Pg.numS
  rw [l_sb, List.getD_eq_getElem?_getD, List.getElem?_map, List.getElem?_range h]
  show (UInt8.ofNat (Sm.numN n / 256 ^ (7 - j))).toNat = _
  rw [UInt8.toNat_ofNat']
theorem num_verF (s : ByteArray) (n : Int) (h : ∀ j, j < 8 → Pg.bt s j = Pg.bt (Pg.numS n) j) : ∀ k, k ≤ 8 → Pg.verF s k = Sm.numN n / 256 ^ (8 - k)
  | 0, _ => by have := Sm.numN_lt n; rw [Nat.div_eq_of_lt (by simpa using this)]; rfl
  | k + 1, hk => by
    unfold Pg.verF
    rw [num_verF s n h k (by omega), h k (by omega), num_bt n k (by omega), show 8 - k = (7 - k) + 1 from by omega, Nat.pow_succ, ← Nat.div_div_eq_div_mul, show 8 - (k + 1) = 7 - k from by omega]
    omega
theorem num_ver {s : ByteArray} {n : Int} (h : ∀ j, j < 8 → Pg.bt s j = Pg.bt (Pg.numS n) j) (h0 : 0 ≤ n) (h1 : n ≤ 1099511627776) : Pg.verN s = n := by
  unfold Pg.verN
  rw [num_verF s n h 8 (Nat.le_refl _)]
  have e : Sm.numN n = n.toNat := by unfold Sm.numN; omega
  rw [e]
  simp only [Nat.sub_self, Nat.pow_zero, Nat.div_one, wrap64]
  omega
theorem num_self (n : Int) (h0 : 0 ≤ n) (h1 : n ≤ 1099511627776) : Pg.verN (Pg.numS n) = n := num_ver (fun _ _ => rfl) h0 h1
/-- What tells of all, written and read. -/
theorem ahd_l (c e : Int) (f : Nat → Bool) (r : ByteArray) : (Su.ahd c e f r).data.toList = [99, 102] ++ ((Pg.numS c).data.toList ++ ((Pg.numS e).data.toList ++ ((Su.dg f).data.toList ++ r.data.toList))) := by
  unfold Su.ahd; rw [l_app, l_app, l_app, l_app]; simp
theorem all_l (key : ByteArray) (c e : Int) (f : Nat → Bool) (r : ByteArray) : (Su.allT key c e f r).data.toList = [99, 102] ++ ((Pg.numS c).data.toList ++ ((Pg.numS e).data.toList ++ ((Su.dg f).data.toList ++ (r.data.toList ++ (Pg.mk 122 [key, Su.ahd c e f r]).data.toList)))) := by
  unfold Su.allT; rw [l_app, ahd_l]; simp
section
variable (key : ByteArray) (c e : Int) (f : Nat → Bool) (r : ByteArray)
theorem all_c (hr : r.size = 16) : (pad (Su.allT key c e f r)).extract 2 10 = Pg.numS c := by
  have hz := Su.allT_size key c e f r
  rw [pad_ext _ _ _ (by omega) (by omega)]
  refine ba_eq ?_
  rw [l_ext, all_l]
  have h1 : (Pg.numS c).data.toList.length = 8 := Pg.numS_size c
  exact l_mid rfl h1
theorem all_e (hr : r.size = 16) : (pad (Su.allT key c e f r)).extract 10 18 = Pg.numS e := by
  have hz := Su.allT_size key c e f r
  rw [pad_ext _ _ _ (by omega) (by omega)]
  refine ba_eq ?_
  rw [l_ext, all_l]
  have h1 : (Pg.numS c).data.toList.length = 8 := Pg.numS_size c
  have h2 : (Pg.numS e).data.toList.length = 8 := Pg.numS_size e
  rw [← List.append_assoc]
  exact l_mid (by simp [h1]) h2
theorem all_f (hr : r.size = 16) : (pad (Su.allT key c e f r)).extract 18 50 = Su.dg f := by
  have hz := Su.allT_size key c e f r
  rw [pad_ext _ _ _ (by omega) (by omega)]
  refine ba_eq ?_
  rw [l_ext, all_l]
  have h1 : (Pg.numS c).data.toList.length = 8 := Pg.numS_size c
  have h2 : (Pg.numS e).data.toList.length = 8 := Pg.numS_size e
  have h3 : (Su.dg f).data.toList.length = 32 := Su.dg_size f
  rw [← List.append_assoc, ← List.append_assoc]
  exact l_mid (by simp [h1, h2]) h3
theorem all_r (hr : r.size = 16) : (pad (Su.allT key c e f r)).extract 50 66 = r := by
  have hz := Su.allT_size key c e f r
  rw [pad_ext _ _ _ (by omega) (by omega)]
  refine ba_eq ?_
  rw [l_ext, all_l]
  have h1 : (Pg.numS c).data.toList.length = 8 := Pg.numS_size c
  have h2 : (Pg.numS e).data.toList.length = 8 := Pg.numS_size e
  have h3 : (Su.dg f).data.toList.length = 32 := Su.dg_size f
  have h4 : r.data.toList.length = 16 := hr
  rw [← List.append_assoc, ← List.append_assoc, ← List.append_assoc]
  exact l_mid (by simp [h1, h2, h3]) h4
theorem all_fC (hr : r.size = 16) (h0 : 0 ≤ c) (h1 : c ≤ 1099511627776) : Su.fC (pad (Su.allT key c e f r)) = c := by
  unfold Su.fC; rw [all_c _ _ _ _ _ hr]; exact num_self c h0 h1
theorem all_fE (hr : r.size = 16) (h0 : 0 ≤ e) (h1 : e ≤ 1099511627776) : Su.fE (pad (Su.allT key c e f r)) = e := by
  unfold Su.fE; rw [all_e _ _ _ _ _ hr]; exact num_self e h0 h1
theorem all_fF (hr : r.size = 16) (j : Nat) (hj : j < 32) : Su.fF (pad (Su.allT key c e f r)) j = f j := by
  unfold Su.fF Su.sideF
  rw [all_f _ _ _ _ _ hr]
  unfold Pg.bt Su.dg
  rw [l_sb, List.getD_eq_getElem?_getD, List.getElem?_map, List.getElem?_range (by omega), Nat.zero_add]
  simp only [Option.map_some, Option.getD_some]
  unfold Su.dig
  cases f j <;> decide
theorem all_fR (hr : r.size = 16) : Su.fR (pad (Su.allT key c e f r)) = r := by
  unfold Su.fR; exact all_r _ _ _ _ _ hr
theorem all_blank (hr : r.size = 16) : Su.blank ((pad (Su.allT key c e f r)).extract 82 256) = true := by
  have hz := Su.allT_size key c e f r
  unfold Su.blank
  rw [decide_eq_true_eq]
  intro j hj
  rw [ByteArray.size_extract, pad_size] at hj
  rw [Su.bt_ext _ _ _ _ (by omega) (by rw [pad_size]; decide), pad_bt _ _ (by omega)]
  unfold Pg.bt
  rw [List.getD_eq_getElem?_getD, List.getElem?_eq_none (by rw [l_size]; omega)]; rfl
theorem all_okP (hk : key.size = 32) (hc : Su.okN c = true) (he : Su.okN e = true) (hr : r.size = 16) : Su.okP key (pad (Su.allT key c e f r)) = true := by
  have hz := Su.allT_size key c e f r
  have hc' : 1 ≤ c ∧ c ≤ 1099511627776 := by simpa [Su.okN] using hc
  have he' : 1 ≤ e ∧ e ≤ 1099511627776 := by simpa [Su.okN] using he
  unfold Su.okP
  rw [all_fC _ _ _ _ _ hr (by omega) hc'.2, all_fE _ _ _ _ _ hr (by omega) he'.2, all_fR _ _ _ _ _ hr, pad_size, all_blank _ _ _ _ _ hr]
  have e1 : Su.okW key c e r = true := by unfold Su.okW; rw [hc, he, decide_eq_true hk, decide_eq_true hr]; rfl
  have e2 : Su.allT key c e (Su.fF (pad (Su.allT key c e f r))) r = Su.allT key c e f r := by
    have e3 : Su.dg (Su.fF (pad (Su.allT key c e f r))) = Su.dg f := sb_congr _ _ _ fun j hj => by rw [all_fF _ _ _ _ _ hr j hj]
    generalize Su.fF (pad (Su.allT key c e f r)) = F at *
    unfold Su.allT Su.ahd; rw [e3]
  rw [e1, e2, pad_ext _ _ _ (by omega) (by omega)]
  have e4 : (Su.allT key c e f r).extract 0 82 = Su.allT key c e f r := by
    refine ba_eq ?_
    rw [l_ext, List.drop_zero, List.take_of_length_le (by rw [l_size]; omega)]
  rw [e4]; simp
theorem all_par (hk : key.size = 32) (hc : Su.okN c = true) (he : Su.okN e = true) (hr : r.size = 16) : Su.parC key (pad (Su.allT key c e f r)) = 0 ∧ Su.parV key (pad (Su.allT key c e f r)) = Su.supA c e f r := by
  have hc' : 1 ≤ c ∧ c ≤ 1099511627776 := by simpa [Su.okN] using hc
  have he' : 1 ≤ e ∧ e ≤ 1099511627776 := by simpa [Su.okN] using he
  unfold Su.parC Su.parV
  rw [if_pos hk, if_pos hk, pad_size, all_okP _ _ _ _ _ hk hc he hr, all_fC _ _ _ _ _ hr (by omega) hc'.2, all_fE _ _ _ _ _ hr (by omega) he'.2, all_fR _ _ _ _ _ hr]
  exact ⟨rfl, Su.supA_congr c e _ f r fun j hj => all_fF _ _ _ _ _ hr j hj⟩
end
section
variable (key : ByteArray) (id v : Int) (s : ByteArray)
theorem seal_l : (Pg.sealT key id v s).data.toList = (Pg.numS v).data.toList ++ ((Pg.nonceT key id v s).data.toList ++ ((sb 201 (xorF key (Pg.nonceT key id v s) (Pg.padT s))).data.toList ++ (Pg.mk 103 [key, Pg.numS id, Pg.aheadT key id v s]).data.toList)) := by
  unfold Pg.sealT; rw [l_app]
  conv => lhs; unfold Pg.aheadT
  rw [l_app, l_app]; simp [Pg.aheadT]
theorem seal_nonce : (pad (Pg.sealT key id v s)).extract 8 20 = Pg.nonceT key id v s := by
  have hz := Pg.sealT_size key id v s
  rw [pad_ext _ _ _ (by omega) (by omega)]
  refine ba_eq ?_
  rw [l_ext, seal_l]
  have h1 : (Pg.numS v).data.toList.length = 8 := Pg.numS_size v
  have h2 : (Pg.nonceT key id v s).data.toList.length = 12 := Pg.nonceT_size key id v s
  exact l_mid h1 h2
theorem seal_body : (pad (Pg.sealT key id v s)).extract 20 221 = sb 201 (xorF key (Pg.nonceT key id v s) (Pg.padT s)) := by
  have hz := Pg.sealT_size key id v s
  rw [pad_ext _ _ _ (by omega) (by omega)]
  refine ba_eq ?_
  rw [l_ext, seal_l]
  have h1 : (Pg.numS v).data.toList.length = 8 := Pg.numS_size v
  have h2 : (Pg.nonceT key id v s).data.toList.length = 12 := Pg.nonceT_size key id v s
  have h3 : (sb 201 (xorF key (Pg.nonceT key id v s) (Pg.padT s))).data.toList.length = 201 := by rw [l_size]; exact sb_size _ _
  rw [← List.append_assoc]
  exact l_mid (by simp [h1, h2]) h3
theorem seal_ahead : (pad (Pg.sealT key id v s)).extract 0 221 = Pg.aheadT key id v s := by
  have hz := Pg.sealT_size key id v s
  rw [pad_ext _ _ _ (by omega) (by omega)]
  refine ba_eq ?_
  have h1 : (Pg.aheadT key id v s).data.toList.length = 221 := Pg.aheadT_size key id v s
  rw [l_ext]; unfold Pg.sealT; rw [l_app]
  simp [h1]
theorem seal_mark : (pad (Pg.sealT key id v s)).extract 221 237 = Pg.mk 103 [key, Pg.numS id, Pg.aheadT key id v s] := by
  have hz := Pg.sealT_size key id v s
  rw [pad_ext _ _ _ (by omega) (by omega)]
  refine ba_eq ?_
  have h1 : (Pg.aheadT key id v s).data.toList.length = 221 := Pg.aheadT_size key id v s
  have h2 : (Pg.mk 103 [key, Pg.numS id, Pg.aheadT key id v s]).data.toList.length = 16 := by rw [l_size]; exact Pg.mk_size _ _
  rw [l_ext]; unfold Pg.sealT; rw [l_app]
  simp [h1]
  rw [List.take_of_length_le (by omega)]
theorem seal_sealed : Pg.sealed key id (pad (Pg.sealT key id v s)) := by
  unfold Pg.sealed
  rw [pad_size, seal_ahead, seal_mark]
  exact ⟨by decide, rfl⟩
theorem seal_bt (j : Nat) (hj : j < 8) : Pg.bt (pad (Pg.sealT key id v s)) j = Pg.bt (Pg.numS v) j := by
  rw [pad_bt _ _ (by omega)]
  unfold Pg.bt
  rw [seal_l, List.getD_eq_getElem?_getD, List.getD_eq_getElem?_getD, List.getElem?_append_left (by have : (Pg.numS v).data.toList.length = 8 := Pg.numS_size v; omega)]
theorem seal_ver (h0 : 0 ≤ v) (h1 : v ≤ 1099511627776) : Pg.verN (pad (Pg.sealT key id v s)) = v := num_ver (fun j hj => seal_bt key id v s j hj) h0 h1
theorem xor_back (nonce t : ByteArray) (h : t.size = 201) : sb 201 (xorF key nonce (sb 201 (xorF key nonce t))) = t := by
  refine ba_eq (List.ext_getElem? fun i => ?_)
  rw [l_sb, List.getElem?_map]
  by_cases hi : i < 201
  · rw [List.getElem?_range hi, Option.map_some, List.getElem?_eq_getElem (by rw [l_size]; omega)]
    congr 1
    unfold xorF
    rw [l_sb, List.getD_eq_getElem?_getD, List.getElem?_map, List.getElem?_range hi]
    simp only [Option.map_some, Option.getD_some]
    rw [List.getD_eq_getElem?_getD, List.getElem?_eq_getElem (by rw [l_size]; omega), Option.getD_some, UInt8.xor_assoc, UInt8.xor_self, UInt8.xor_zero]
  · rw [List.getElem?_eq_none (by simp; omega), List.getElem?_eq_none (by rw [l_size]; omega)]; rfl
theorem cut_pad (h : s.size ≤ 200) : Pg.cutT (Pg.padT s) = s := by
  have hb : Pg.bt (Pg.padT s) 0 = s.size := by
    unfold Pg.bt Pg.padT
    rw [l_app, l_app]
    show (UInt8.ofNat s.size).toNat = _
    rw [UInt8.toNat_ofNat', Nat.mod_eq_of_lt (by omega)]
  have hn : Pg.cutN (Pg.padT s) = s.size := by unfold Pg.cutN; rw [hb]; split <;> omega
  unfold Pg.cutT
  rw [hn]
  refine ba_eq ?_
  rw [l_ext]
  unfold Pg.padT
  rw [l_app, l_app]
  show (List.drop 1 ([UInt8.ofNat s.size] ++ s.data.toList ++ (Pg.zs (200 - s.size)).data.toList)).take (1 + s.size - 1) = _
  have hl : s.data.toList.length = s.size := rfl
  simp [hl]
theorem seal_text (h : s.size ≤ 200) : Pg.cutT (Pg.shownT key (pad (Pg.sealT key id v s))) = s := by
  unfold Pg.shownT
  rw [seal_nonce, seal_body, xor_back key _ _ (Pg.padT_size s h), cut_pad s h]
end
end Go.Proofs.YtkapkphhceknfaaGreatDoor.Vt
namespace Go.Proofs.YtkapkphhceknfaaGreatDoor.Vt
open Go.RowKit
set_option maxRecDepth 100000 in
theorem pre_any (s p : ByteArray) (b : Bool) (w : World) (h : p.size ≤ s.size) (_hs : s.size ≤ 10000) (hb : ((s.extract 0 p.size).toList == p.toList) = b) : Calls Tryz.prog 102 #[.string s, .string p] w fun e w' => e = .returned (.bool b) ∧ w' = w := by
  have h' : (p.size : Int) ≤ (s.size : Int) := by omega
  go_enter Tryz.func102, Tryz.ntmps102
  go_wp2
  go_ret
  exact ⟨by rw [← hb]; rfl, rfl⟩
theorem prefix_any (s p : ByteArray) (b : Bool) (w : World) (h : p.size ≤ s.size) (hs : s.size ≤ 10000) (hb : ((s.extract 0 p.size).toList == p.toList) = b) : Calls Tryz.prog 88 #[.string s, .string p] w fun e w' => e = .returned (.bool b) ∧ w' = w := by
  go_enter Tryz.func88, Tryz.ntmps88
  go_wp2_with (go_at_call 102; refine (pre_any s p b _ h hs hb).mono ?_; rintro e w' ⟨rfl, rfl⟩)
  go_ret
  exact ⟨rfl, rfl⟩
theorem buildE0 (w : World) : (Instr.build 69 #[]).run Tryz.prog w = .ok (.agg #[.int .i64 0, .string ⟨#[]⟩]) w := run_build w 69 _ _ (by kernel_rfl)
theorem buildE (a : Int) (x : ByteArray) (w : World) : (Instr.build 69 #[(0, .int .i64 a), (1, .string x)]).run Tryz.prog w = .ok (.agg #[.int .i64 a, .string x]) w := run_build w 69 _ _ (by kernel_rfl)
/-- A block begins with a number's bytes. -/
def begins (T : ByteArray) : Bool := (T.extract 0 8).toList == (Pg.numS 0).toList
theorem begins_no (key : ByteArray) (id n : Int) (s : ByteArray) (h0 : 1 ≤ n) (h1 : n ≤ 1099511627776) : begins (pad (Pg.sealT key id n s)) = false := by
  unfold begins
  rw [beq_eq_false_iff_ne]
  intro he
  have h2 : (pad (Pg.sealT key id n s)).extract 0 8 = Pg.numS 0 := ba_eq (by rw [← ByteArray.toList_eq, ← ByteArray.toList_eq]; exact he)
  have h3 := seal_ver key id n s (by omega) h1
  have h4 : Pg.verN (pad (Pg.sealT key id n s)) = 0 := num_ver (n := 0) (fun j hj => by
    have := Su.bt_ext (pad (Pg.sealT key id n s)) 0 8 j (by omega) (by rw [pad_size]; decide)
    rw [h2, Nat.zero_add] at this
    exact this.symm) (by decide) (by decide)
  rw [h3] at h4
  omega
set_option maxRecDepth 100000 in
set_option maxHeartbeats 400000 in
theorem readPage_blank (d : Nat) (O : Nat → Prop) (S : Nat → Nat → UInt8) (W : List (Nat × (Nat → UInt8))) (F : Int) (v : Value) (lf : Int) (key : ByteArray) (id : Int) (k : Nat) (w : World) (hD : Dv.Dev w O d S W F v lf) (hk : k < 66) (hW : W.length ≤ 1000)
    (hb : begins (sb 256 (Dv.readF S W k)) = true) :
    Calls Tryz.prog 68 #[.pointer (some ⟨d, 0, none⟩), .string key, .int .i64 id, .int .i64 (k : Int)] w fun e w' => e = .returned (.tuple #[.agg #[.int .i64 0, .string ⟨#[]⟩], .bool true]) ∧ Below w.heap.size w w' := by
  have hsz : (sb 256 (Dv.readF S W k)).size = 256 := sb_size _ _
  have e1 := entC_one ent0
  simp only [ent0] at e1
  obtain ⟨T, hT⟩ : ∃ T, Hid (sb 256 (Dv.readF S W k) = T) := ⟨_, rfl⟩
  rw [hT.out] at hb hsz
  have bb := buildE0
  go_enter Tryz.func68, Tryz.ntmps68
  go_wp2_with fail
  have g1 := Pg.below_alloc w (.cells #[.int .i64 0, .string ⟨#[]⟩] 69)
  refine (Dv.read_ok d O S W F v lf k _ (hD.below g1) hk hW).mono ?_
  rintro e w2 ⟨rfl, g2⟩
  rw [hT.out]
  have b2 := g1.trans (g2.mono g1.size)
  have j2 := (Blk.new w #[.int .i64 0, .string ⟨#[]⟩] 69).below g2 (by simp)
  go_wp2_with fail
  refine (Pg.num_s 0 _).mono ?_
  rintro e w3 ⟨rfl, g3⟩
  have b3 := b2.trans (g3.mono b2.size)
  have j3 := j2.below g3 j2.lt
  go_wp2_with fail
  refine (prefix_any T (Pg.numS 0) true w3 (by rw [Pg.numS_size]; omega) (by omega) (by rw [Pg.numS_size]; exact hb)).mono ?_
  rintro e w4 ⟨rfl, hw4⟩
  obtain rfl : w3 = w4 := hw4.symm
  go_wp2_with (first
    | (refine Su.wpl_storeV rfl rfl 69 _ _ rfl 2 szE w.heap.size _ 69 #[.int .i64 0, .string ⟨#[]⟩] e1 rfl rfl j3 rfl rfl ?_; intro w7 hu7 j7)
    | fail)
  exact Su.ret_cellV2 8 9 69 rfl Tryz.isAgg69 2 szE w.heap.size _ 69 rfl _ rfl rfl j7 rfl ⟨rfl, below_upd b3 hu7 (Nat.le_refl _)⟩
set_option maxRecDepth 100000 in
set_option maxHeartbeats 400000 in
theorem readPage_good (d : Nat) (O : Nat → Prop) (S : Nat → Nat → UInt8) (W : List (Nat × (Nat → UInt8))) (F : Int) (v : Value) (lf : Int) (key : ByteArray) (id : Int) (k : Nat) (n : Int) (s : ByteArray) (w : World) (hD : Dv.Dev w O d S W F v lf) (hk : k < 66) (hW : W.length ≤ 1000) (hkey : key.size = 32) (hn0 : 1 ≤ n) (hn1 : n ≤ 1099511627776) (hs : s.size ≤ 200) (hK : Sm.KB w)
    (hb : sb 256 (Dv.readF S W k) = pad (Pg.sealT key id n s)) :
    Calls Tryz.prog 68 #[.pointer (some ⟨d, 0, none⟩), .string key, .int .i64 id, .int .i64 (k : Int)] w fun e w' => e = .returned (.tuple #[.agg #[.int .i64 n, .string s], .bool true]) ∧ Below w.heap.size w w' := by
  have hsz := pad_size (Pg.sealT key id n s)
  have e1 := entC_one (n, s)
  have hbe : begins (pad (Pg.sealT key id n s)) = false := begins_no key id n s hn0 hn1
  have ho := fun w hK => Pg.open_any key id (pad (Pg.sealT key id n s)) w (by omega) (by omega) hK
  have o1 : Pg.openC key id (pad (Pg.sealT key id n s)) = 0 := by unfold Pg.openC; rw [if_pos hkey, if_pos (seal_sealed key id n s)]
  have o2 : Pg.openN key id (pad (Pg.sealT key id n s)) = n := by unfold Pg.openN; rw [if_pos ⟨hkey, seal_sealed key id n s⟩]; exact seal_ver key id n s (by omega) hn1
  have o3 : Pg.openT key id (pad (Pg.sealT key id n s)) = s := by unfold Pg.openT; rw [if_pos ⟨hkey, seal_sealed key id n s⟩]; exact seal_text key id n s hs
  rw [o1, o2, o3] at ho
  have HO : Hid _ := ho
  obtain ⟨T, hT⟩ : ∃ T, Hid (pad (Pg.sealT key id n s) = T) := ⟨_, rfl⟩
  rw [hT.out] at hb hsz hbe HO
  clear o1 o2 o3 ho hT hn0 hn1
  have bb := buildE n s
  go_enter Tryz.func68, Tryz.ntmps68
  go_wp2_with fail
  have g1 := Pg.below_alloc w (.cells #[.int .i64 0, .string ⟨#[]⟩] 69)
  refine (Dv.read_ok d O S W F v lf k _ (hD.below g1) hk hW).mono ?_
  rintro e w2 ⟨rfl, g2⟩
  rw [hb]
  have b2 := g1.trans (g2.mono g1.size)
  have j2 := (Blk.new w #[.int .i64 0, .string ⟨#[]⟩] 69).below g2 (by simp)
  clear hb
  go_wp2_with fail
  refine (Pg.num_s 0 _).mono ?_
  rintro e w3 ⟨rfl, g3⟩
  have b3 := b2.trans (g3.mono b2.size)
  have j3 := j2.below g3 j2.lt
  go_wp2_with fail
  refine (prefix_any T (Pg.numS 0) false w3 (by rw [Pg.numS_size]; omega) (by omega) (by rw [Pg.numS_size]; exact hbe)).mono ?_
  rintro e w4 ⟨rfl, hw4⟩
  obtain rfl : w3 = w4 := hw4.symm
  clear hw4
  go_wp2_with fail
  refine (HO.out w3 (hK.below b3)).mono ?_
  rintro e w5 ⟨rfl, g5⟩
  have b5 := b3.trans (g5.mono b3.size)
  have j5 := j3.below g5 j3.lt
  rw [show Pg.errV 0 = .nilIface from rfl]
  go_wp2_with (first
    | (refine Su.wpl_storeV rfl rfl 69 _ _ rfl 2 szE w.heap.size _ 69 #[.int .i64 n, .string s] e1 rfl rfl j5 rfl rfl ?_; intro w7 hu7 j7)
    | fail)
  exact Su.ret_cellV2 8 9 69 rfl Tryz.isAgg69 2 szE w.heap.size _ 69 rfl _ rfl rfl j7 rfl ⟨rfl, below_upd b5 hu7 (Nat.le_refl _)⟩
end Go.Proofs.YtkapkphhceknfaaGreatDoor.Vt
