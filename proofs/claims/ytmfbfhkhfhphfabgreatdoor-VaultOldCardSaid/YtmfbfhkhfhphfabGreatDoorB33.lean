/-
  Part of the proof: the vault's plain state, and its small functions are walked.
-/
import Derived.Test.YtmfbfhkhfhphfabGreatDoorB14
import Derived.Test.YtmfbfhkhfhphfabGreatDoorB17
import Derived.Test.YtmfbfhkhfhphfabGreatDoorB22
import Derived.Test.YtmfbfhkhfhphfabGreatDoorB30
import Derived.Test.YtmfbfhkhfhphfabGreatDoorB32
namespace Go.Proofs.YtmfbfhkhfhphfabGreatDoor.Vt
open Go.RowKit
/-- A page's text, and the Count at which it was told. -/
def ent (x : Int × ByteArray) : Value := .agg #[.int .i64 x.1, .string x.2]
def ent0 : Int × ByteArray := (0, ⟨#[]⟩)
/-- Pages as a map's entries, and as they read. -/
def pv (p : Int → Option (Int × ByteArray)) (i : Int) : Option Value := (p i).map ent
def rd (p : Int → Option (Int × ByteArray)) (i : Int) : Int × ByteArray := (p i).getD ent0
theorem pv_get (p : Int → Option (Int × ByteArray)) (i : Int) : (pv p i).getD (ent ent0) = ent (rd p i) := by
  unfold pv rd; cases p i <;> rfl
theorem pv_some (p : Int → Option (Int × ByteArray)) (i : Int) : (pv p i).isSome = (p i).isSome := by unfold pv; cases p i <;> rfl
def sv (g : Int → Option ByteArray) (i : Int) : Option Value := (g i).map Value.string
theorem sv_get (g : Int → Option ByteArray) (i : Int) : (sv g i).getD (.string ⟨#[]⟩) = .string ((g i).getD ⟨#[]⟩) := by
  unfold sv; cases g i <;> rfl
theorem kOk_small {i : Int} (h0 : 0 ≤ i) (h1 : i < 32) : kOk i := by
  have h1 : IntKind.min .i64 = -9223372036854775808 := by decide
  have h2 : IntKind.max .i64 = 9223372036854775807 := by decide
  show (decide (IntKind.min .i64 ≤ i) && decide (i ≤ IntKind.max .i64)) = true
  rw [h1, h2, decide_eq_true (by omega), decide_eq_true (by omega)]; rfl
theorem und3 : Tryz.prog.underlying 3 = some (.int .i64) := Tryz.underlying3
theorem undE : Tryz.prog.underlying 81 = some (.map 3 83) := Tryz.underlying81
theorem undS : Tryz.prog.underlying 31 = some (.map 3 9) := Tryz.underlying31
theorem zeroE : ∀ w, (zeroValue 83).run Tryz.prog w = .ok (ent ent0) w := Tryz.zeroValue83
theorem zeroS : ∀ w, (zeroValue 9).run Tryz.prog w = .ok (.string ⟨#[]⟩) w := Tryz.zeroValue9
theorem szE : (Tryz.prog.info? 83).map (·.size) = some 2 := by kernel_rfl
theorem szSt : (Tryz.prog.info? 88).map (·.size) = some 36 := by kernel_rfl
theorem szVa : (Tryz.prog.info? 90).map (·.size) = some 40 := by kernel_rfl
/-- A state's cells: what tells of all, and the map. -/
def stA (c e : Int) (f : Nat → Bool) (r : ByteArray) (m : Value) : Array Value := Su.supA c e f r ++ #[m]
section
variable (c e : Int) (f : Nat → Bool) (r : ByteArray) (m : Value)
theorem stA_size : (stA c e f r m).size = 36 := by simp [stA, Su.supA_size]
theorem stA_lo (j : Nat) (h : j < 35) : (stA c e f r m)[j]? = (Su.supA c e f r)[j]? := by
  unfold stA; rw [Array.getElem?_append_left (by rw [Su.supA_size]; exact h)]
theorem stA_0 : (stA c e f r m)[0]? = some (.int .i64 c) := by rw [stA_lo _ _ _ _ _ _ (by decide), Su.supA_0]
theorem stA_1 : (stA c e f r m)[1]? = some (.int .i64 e) := by rw [stA_lo _ _ _ _ _ _ (by decide), Su.supA_1]
theorem stA_34 : (stA c e f r m)[34]? = some (.string r) := by rw [stA_lo _ _ _ _ _ _ (by decide), Su.supA_34]
theorem stA_side (j : Nat) (h : j < 32) : (stA c e f r m)[2 + j]? = some (.bool (f j)) := by rw [stA_lo _ _ _ _ _ _ (by omega), Su.supA_side _ _ _ _ _ h]
theorem stA_35 : (stA c e f r m)[35]? = some m := by
  unfold stA; rw [Array.getElem?_append_right (by rw [Su.supA_size]; decide), Su.supA_size]; rfl
theorem stA_sup (n : Nat) (h : 0 + 35 = n) : (stA c e f r m).extract 0 n = Su.supA c e f r := by
  subst h
  apply Array.ext_getElem?; intro j
  by_cases hj : j < 35
  · rw [Array.getElem?_extract, if_pos (by rw [stA_size]; omega), Nat.zero_add, stA_lo _ _ _ _ _ _ hj]
  · rw [Array.getElem?_eq_none (by rw [Array.size_extract, stA_size]; omega), Array.getElem?_eq_none (by rw [Su.supA_size]; omega)]
theorem stA_one (hm : m.oneCell' = true) : ∀ v ∈ (stA c e f r m).toList, v.oneCell' = true := by
  intro v hv
  simp only [stA, Array.toList_append, List.mem_append] at hv
  rcases hv with hv | hv
  · exact Su.supA_one _ _ _ _ v hv
  · simp at hv; subst hv; exact hm
theorem stA_put (k : Nat) (hk : k < 32) (v : Bool) : (stA c e f r m).setIfInBounds (2 + k) (.bool v) = stA c e (Su.putF f k v) r m := by
  unfold stA; rw [Array.setIfInBounds_append_left (by rw [Su.supA_size]; omega), Su.supA_put _ _ _ _ _ hk]
theorem stA_set0 (x : Int) : (stA c e f r m).setIfInBounds 0 (.int .i64 x) = stA x e f r m := by
  unfold stA Su.supA; rw [Array.setIfInBounds_append_left (by simp [Su.bl_size]), Array.setIfInBounds_append_left (by simp [Su.bl_size]), Array.setIfInBounds_append_left (by simp)]; rfl
theorem stA_set1 (x : Int) : (stA c e f r m).setIfInBounds 1 (.int .i64 x) = stA c x f r m := by
  unfold stA Su.supA; rw [Array.setIfInBounds_append_left (by simp [Su.bl_size]), Array.setIfInBounds_append_left (by simp [Su.bl_size]), Array.setIfInBounds_append_left (by simp)]; rfl
theorem stA_set34 (x : ByteArray) : (stA c e f r m).setIfInBounds 34 (.string x) = stA c e f x m := by
  unfold stA Su.supA; rw [Array.setIfInBounds_append_left (by simp [Su.bl_size]), Array.setIfInBounds_append_right (by simp [Su.bl_size])]; simp [Su.bl_size]
end
/-- A vault's cells. -/
def vaA (d c : Nat) (sec : ByteArray) (st : Array Value) (stuck : Bool) : Array Value := #[.pointer (some ⟨d, 0, none⟩), .pointer (some ⟨c, 0, none⟩), .string sec] ++ st ++ #[.bool stuck]
section
variable (d c : Nat) (sec : ByteArray) (st : Array Value) (stuck : Bool)
theorem vaA_size (hs : st.size = 36) : (vaA d c sec st stuck).size = 40 := by simp [vaA, hs]
theorem vaA_0 : (vaA d c sec st stuck)[0]? = some (.pointer (some ⟨d, 0, none⟩)) := by
  unfold vaA; rw [Array.getElem?_append_left (by simp; omega), Array.getElem?_append_left (by simp)]; rfl
theorem vaA_1 : (vaA d c sec st stuck)[1]? = some (.pointer (some ⟨c, 0, none⟩)) := by
  unfold vaA; rw [Array.getElem?_append_left (by simp; omega), Array.getElem?_append_left (by simp)]; rfl
theorem vaA_2 : (vaA d c sec st stuck)[2]? = some (.string sec) := by
  unfold vaA; rw [Array.getElem?_append_left (by simp; omega), Array.getElem?_append_left (by simp)]; rfl
theorem vaA_st (hs : st.size = 36) (j : Nat) (h : j < 36) : (vaA d c sec st stuck)[3 + j]? = st[j]? := by
  unfold vaA
  rw [Array.getElem?_append_left (by simp [hs]; omega), Array.getElem?_append_right (by simp)]
  simp
theorem vaA_39 (hs : st.size = 36) : (vaA d c sec st stuck)[39]? = some (.bool stuck) := by
  unfold vaA; rw [Array.getElem?_append_right (by simp [hs])]; simp [hs]
theorem vaA_now (hs : st.size = 36) : (vaA d c sec st stuck).extract 3 (3 + 36) = st := by
  apply Array.ext_getElem?; intro j
  by_cases hj : j < 36
  · rw [Array.getElem?_extract, if_pos (by rw [vaA_size _ _ _ _ _ hs]; omega), vaA_st _ _ _ _ _ hs _ hj]
  · rw [Array.getElem?_eq_none (by rw [Array.size_extract, vaA_size _ _ _ _ _ hs]; omega), Array.getElem?_eq_none (by omega)]
theorem vaA_stick (hs : st.size = 36) (x : Bool) : (vaA d c sec st stuck).setIfInBounds 39 (.bool x) = vaA d c sec st x := by
  unfold vaA; rw [Array.setIfInBounds_append_right (by simp [hs])]; simp [hs]
end
theorem isPage_any (id : Int) (w : World) : Calls Tryz.prog 71 #[.int .i64 id] w fun e w' => e = .returned (.bool (decide (0 ≤ id ∧ id < 32))) ∧ w' = w := by
  by_cases h : 0 ≤ id
  · go_enter Tryz.func71, Tryz.ntmps71
    go_wp2
    go_ret
    refine ⟨?_, rfl⟩
    simp [h]
  · have d : decide ((0 : Int) ≤ id) = false := decide_eq_false h
    go_enter Tryz.func71, Tryz.ntmps71
    go_wp2
    go_ret
    refine ⟨?_, rfl⟩
    simp
theorem superPlace_any (n : Nat) (w : World) (hn : n < 9007199254740992) : Calls Tryz.prog 77 #[.int .i64 (n : Int)] w fun e w' => e = .returned (.int .i64 ((n % 2 : Nat) : Int)) ∧ w' = w := by
  have e1 : (n : Int).tmod 2 = ((n % 2 : Nat) : Int) := by rw [Int.tmod_eq_emod_of_nonneg (by omega)]; omega
  go_enter Tryz.func77, Tryz.ntmps77
  go_wp2
  go_ret
  exact ⟨rfl, rfl⟩
theorem parts1 {w : World} {b : Nat} {T : TypeId} {x : ByteArray} (h : Blk w b #[.string x] T) : Sm.Parts w (some ⟨b, 0, none⟩) 1 [x] := by
  refine ⟨rfl, fun j hj => ?_⟩
  have hc := h.cell j
  match j, hj with
  | 0, _ => exact ⟨b, 0, x, rfl, h.lt, hc, rfl⟩
theorem mark1 {k : Int} (hk : k = 115) {b : Nat} {T : TypeId} {x : ByteArray} {w : World} (h : Blk w b #[.string x] T) (hx : x.size ≤ 300) (hK : Sm.KB w) :
    Calls Tryz.prog 103 #[.int .u8 k, .slice (some ⟨b, 0, none⟩) 1 1] w fun e w' => e = .returned (.string (Pg.mk 115 [x])) ∧ Below w.heap.size w w' := by
  subst hk; exact Sm.mark_any 115 _ 1 1 _ w (parts1 h) (by decide) (fun p hp => by simp at hp; subst hp; exact hx) hK
theorem mark2k {k : Int} (hk : k = 107) {b : Nat} {T : TypeId} {x y : ByteArray} {w : World} (h : Blk w b #[.string x, .string y] T) (hx : x.size ≤ 300) (hy : y.size ≤ 300) (hK : Sm.KB w) :
    Calls Tryz.prog 103 #[.int .u8 k, .slice (some ⟨b, 0, none⟩) 2 2] w fun e w' => e = .returned (.string (Pg.mk 107 [x, y])) ∧ Below w.heap.size w w' := by
  subst hk; exact Sm.mark_any 107 _ 2 2 _ w (Su.parts2 h) (by decide) (Su.all2 hx hy) hK
/-- The keys. -/
def supK (sec : ByteArray) : ByteArray := Sm.sumS (Pg.mk 115 [sec])
def epoK (sec : ByteArray) (n : Int) : ByteArray := Sm.sumS (Pg.mk 107 [sec, Pg.numS n])
theorem supK_size (sec : ByteArray) : (supK sec).size = 32 := Pg.sumS_size _
theorem epoK_size (sec : ByteArray) (n : Int) : (epoK sec n).size = 32 := Pg.sumS_size _
set_option maxRecDepth 100000 in
set_option maxHeartbeats 400000 in
theorem superKey_any (sec : ByteArray) (w : World) (hs : sec.size ≤ 300) (hK : Sm.KB w) : Calls Tryz.prog 75 #[.string sec] w fun e w' => e = .returned (.string (supK sec)) ∧ Below w.heap.size w w' := by
  have zm := Pg.mk_size 115 [sec]
  go_enter Tryz.func75, Tryz.ntmps75
  go_wp2_with fail
  have g := Pg.below_alloc w (.cells #[.string sec] 9)
  refine (mark1 rfl (Blk.new w _ 9) hs (hK.below g)).mono ?_
  rintro e w2 ⟨rfl, g2⟩
  have b2 := g.trans (g2.mono g.size)
  go_wp2_with fail
  refine (Sm.sum_any _ _ (by omega) (hK.below b2)).mono ?_
  rintro e w3 ⟨rfl, g3⟩
  go_wp2
  go_ret
  exact ⟨rfl, b2.trans (g3.mono b2.size)⟩
set_option maxRecDepth 100000 in
set_option maxHeartbeats 400000 in
theorem epochKey_any (sec : ByteArray) (n : Int) (w : World) (hs : sec.size ≤ 300) (hK : Sm.KB w) : Calls Tryz.prog 97 #[.string sec, .int .i64 n] w fun e w' => e = .returned (.string (epoK sec n)) ∧ Below w.heap.size w w' := by
  have zm := Pg.mk_size 107 [sec, Pg.numS n]
  have zn := Pg.numS_size n
  go_enter Tryz.func97, Tryz.ntmps97
  go_wp2_with fail
  refine (Pg.num_s n _).mono ?_
  rintro e w1 ⟨rfl, g1⟩
  go_wp2_with fail
  have g := Pg.below_alloc w1 (.cells #[.string sec, .string (Pg.numS n)] 9)
  have b1 := g1.trans (g.mono g1.size)
  refine (mark2k rfl (Blk.new w1 _ 9) hs (by omega) (hK.below b1)).mono ?_
  rintro e w2 ⟨rfl, g2⟩
  have b2 := b1.trans (g2.mono b1.size)
  go_wp2_with fail
  refine (Sm.sum_any _ _ (by omega) (hK.below b2)).mono ?_
  rintro e w3 ⟨rfl, g3⟩
  go_wp2
  go_ret
  exact ⟨rfl, b2.trans (g3.mono b2.size)⟩
/-- The block in which a page stands. -/
def plc (f : Nat → Bool) (id : Nat) : Nat := 2 + 2 * id + if f id then 1 else 0
theorem plc_lt (f : Nat → Bool) (id : Nat) (h : id < 32) : plc f id < 66 := by unfold plc; split <;> omega
theorem plc_ge (f : Nat → Bool) (id : Nat) : 2 ≤ plc f id := by unfold plc; omega
set_option maxRecDepth 100000 in
set_option maxHeartbeats 400000 in
theorem place_any (c e : Int) (f : Nat → Bool) (r : ByteArray) (m : Value) (id : Nat) (w : World) (h : id < 32) :
    Calls Tryz.prog 99 #[.agg (stA c e f r m), .int .i64 (id : Int)] w fun e' w' => e' = .returned (.int .i64 (plc f id : Int)) ∧ Below w.heap.size w w' := by
  have hs := stA_size c e f r m
  have hc := stA_side c e f r m id h
  obtain ⟨V, hV⟩ : ∃ V, Hid (stA c e f r m = V) := ⟨_, rfl⟩
  rw [hV.out] at hs hc
  rw [hV.out]
  have j0 := Blk.new w V 88
  have c0 : (w.alloc (.cells V 88)).cell? ⟨w.heap.size, 2 + id, none⟩ = some (.bool (f id)) := by rw [j0.cell, hc]
  have g0 := Pg.below_alloc w (.cells V 88)
  have h' : (id : Int) < 32 := by omega
  cases hf : f id with
  | false =>
    have ep : ((plc f id : Nat) : Int) = 2 + 2 * (id : Int) := by unfold plc; rw [hf]; simp
    rw [hf] at c0
    rw [ep]
    go_enter Tryz.func99, Tryz.ntmps99
    go_wp2
    go_ret
    exact ⟨rfl, g0⟩
  | true =>
    have ep : ((plc f id : Nat) : Int) = 2 + 2 * (id : Int) + 1 := by unfold plc; rw [hf]; simp
    rw [hf] at c0
    rw [ep]
    go_enter Tryz.func99, Tryz.ntmps99
    go_wp2
    go_ret
    exact ⟨rfl, g0⟩
end Go.Proofs.YtmfbfhkhfhphfabGreatDoor.Vt
