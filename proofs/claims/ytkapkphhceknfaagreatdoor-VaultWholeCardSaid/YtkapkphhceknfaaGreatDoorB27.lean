/-
  Part of the proof: a page is read off the device; what tells of all is.
  Part of the proof: the state of a Count is read off the device, where it was told.
-/
import Derived.Test.YtkapkphhceknfaaGreatDoorB26
namespace Go.Proofs.YtkapkphhceknfaaGreatDoor.Vt
open Go.RowKit
set_option maxRecDepth 100000 in
theorem pre_any (s p : ByteArray) (b : Bool) (w : World) (h : p.size ≤ s.size) (_hs : s.size ≤ 10000) (hb : ((s.extract 0 p.size).toList == p.toList) = b) : Calls Tryz.prog 102 #[.string s, .string p] w fun e w' => e = .returned (.bool b) ∧ w' = w := by
  have h' : (p.size : Int) ≤ (s.size : Int) := by omega
  go_enter Tryz.func102, Tryz.ntmps102
  go_wp2
  go_ret
  exact ⟨by rw [← hb]; rfl, rfl⟩
theorem prefix_any (s p : ByteArray) (b : Bool) (w : World) (h : p.size ≤ s.size) (hs : s.size ≤ 10000) (hb : ((s.extract 0 p.size).toList == p.toList) = b) : Calls Tryz.prog 88 #[.string s, .string p] w fun e w' => e = .returned (.bool b) ∧ w' = w := by
  go_enter Tryz.func88, Tryz.ntmps88
  go_wp2_with (go_at_call 102; refine (pre_any s p b _ h hs hb).mono ?_; rintro e w' ⟨rfl, rfl⟩)
  go_ret
  exact ⟨rfl, rfl⟩
theorem buildE0 (w : World) : (Instr.build 69 #[]).run Tryz.prog w = .ok (.agg #[.int .i64 0, .string ⟨#[]⟩]) w := run_build w 69 _ _ (by kernel_rfl)
theorem buildE (a : Int) (x : ByteArray) (w : World) : (Instr.build 69 #[(0, .int .i64 a), (1, .string x)]).run Tryz.prog w = .ok (.agg #[.int .i64 a, .string x]) w := run_build w 69 _ _ (by kernel_rfl)
/-- A block begins with a number's bytes. -/
def begins (T : ByteArray) : Bool := (T.extract 0 8).toList == (Pg.numS 0).toList
theorem begins_no (key : ByteArray) (id n : Int) (s : ByteArray) (h0 : 1 ≤ n) (h1 : n ≤ 1099511627776) : begins (pad (Pg.sealT key id n s)) = false := by
  unfold begins
  rw [beq_eq_false_iff_ne]
  intro he
  have h2 : (pad (Pg.sealT key id n s)).extract 0 8 = Pg.numS 0 := ba_eq (by rw [← ByteArray.toList_eq, ← ByteArray.toList_eq]; exact he)
  have h3 := seal_ver key id n s (by omega) h1
  have h4 : Pg.verN (pad (Pg.sealT key id n s)) = 0 := num_ver (n := 0) (fun j hj => by
    have := Su.bt_ext (pad (Pg.sealT key id n s)) 0 8 j (by omega) (by rw [pad_size]; decide)
    rw [h2, Nat.zero_add] at this
    exact this.symm) (by decide) (by decide)
  rw [h3] at h4
  omega
set_option maxRecDepth 100000 in
set_option maxHeartbeats 400000 in
theorem readPage_blank (d : Nat) (O : Nat → Prop) (S : Nat → Nat → UInt8) (W : List (Nat × (Nat → UInt8))) (F : Int) (v : Value) (lf : Int) (key : ByteArray) (id : Int) (k : Nat) (w : World) (hD : Dv.Dev w O d S W F v lf) (hk : k < 66) (hW : W.length ≤ 1000)
    (hb : begins (sb 256 (Dv.readF S W k)) = true) :
    Calls Tryz.prog 68 #[.pointer (some ⟨d, 0, none⟩), .string key, .int .i64 id, .int .i64 (k : Int)] w fun e w' => e = .returned (.tuple #[.agg #[.int .i64 0, .string ⟨#[]⟩], .bool true]) ∧ Below w.heap.size w w' := by
  have hsz : (sb 256 (Dv.readF S W k)).size = 256 := sb_size _ _
  have e1 := entC_one ent0
  simp only [ent0] at e1
  obtain ⟨T, hT⟩ : ∃ T, Hid (sb 256 (Dv.readF S W k) = T) := ⟨_, rfl⟩
  rw [hT.out] at hb hsz
  have bb := buildE0
  go_enter Tryz.func68, Tryz.ntmps68
  go_wp2_with fail
  have g1 := Pg.below_alloc w (.cells #[.int .i64 0, .string ⟨#[]⟩] 69)
  refine (Dv.read_ok d O S W F v lf k _ (hD.below g1) hk hW).mono ?_
  rintro e w2 ⟨rfl, g2⟩
  rw [hT.out]
  have b2 := g1.trans (g2.mono g1.size)
  have j2 := (Blk.new w #[.int .i64 0, .string ⟨#[]⟩] 69).below g2 (by simp)
  go_wp2_with fail
  refine (Pg.num_s 0 _).mono ?_
  rintro e w3 ⟨rfl, g3⟩
  have b3 := b2.trans (g3.mono b2.size)
  have j3 := j2.below g3 j2.lt
  go_wp2_with fail
  refine (prefix_any T (Pg.numS 0) true w3 (by rw [Pg.numS_size]; omega) (by omega) (by rw [Pg.numS_size]; exact hb)).mono ?_
  rintro e w4 ⟨rfl, hw4⟩
  obtain rfl : w3 = w4 := hw4.symm
  go_wp2_with (first
    | (refine Su.wpl_storeV rfl rfl 69 _ _ rfl 2 szE w.heap.size _ 69 #[.int .i64 0, .string ⟨#[]⟩] e1 rfl rfl j3 rfl rfl ?_; intro w7 hu7 j7)
    | fail)
  exact Su.ret_cellV2 8 9 69 rfl Tryz.isAgg69 2 szE w.heap.size _ 69 rfl _ rfl rfl j7 rfl ⟨rfl, below_upd b3 hu7 (Nat.le_refl _)⟩
set_option maxRecDepth 100000 in
set_option maxHeartbeats 400000 in
theorem readPage_good (d : Nat) (O : Nat → Prop) (S : Nat → Nat → UInt8) (W : List (Nat × (Nat → UInt8))) (F : Int) (v : Value) (lf : Int) (key : ByteArray) (id : Int) (k : Nat) (n : Int) (s : ByteArray) (w : World) (hD : Dv.Dev w O d S W F v lf) (hk : k < 66) (hW : W.length ≤ 1000) (hkey : key.size = 32) (hn0 : 1 ≤ n) (hn1 : n ≤ 1099511627776) (hs : s.size ≤ 200) (hK : Sm.KB w)
    (hb : sb 256 (Dv.readF S W k) = pad (Pg.sealT key id n s)) :
    Calls Tryz.prog 68 #[.pointer (some ⟨d, 0, none⟩), .string key, .int .i64 id, .int .i64 (k : Int)] w fun e w' => e = .returned (.tuple #[.agg #[.int .i64 n, .string s], .bool true]) ∧ Below w.heap.size w w' := by
  have hsz := pad_size (Pg.sealT key id n s)
  have e1 := entC_one (n, s)
  have hbe : begins (pad (Pg.sealT key id n s)) = false := begins_no key id n s hn0 hn1
  have ho := fun w hK => Pg.open_any key id (pad (Pg.sealT key id n s)) w (by omega) (by omega) hK
  have o1 : Pg.openC key id (pad (Pg.sealT key id n s)) = 0 := by unfold Pg.openC; rw [if_pos hkey, if_pos (seal_sealed key id n s)]
  have o2 : Pg.openN key id (pad (Pg.sealT key id n s)) = n := by unfold Pg.openN; rw [if_pos ⟨hkey, seal_sealed key id n s⟩]; exact seal_ver key id n s (by omega) hn1
  have o3 : Pg.openT key id (pad (Pg.sealT key id n s)) = s := by unfold Pg.openT; rw [if_pos ⟨hkey, seal_sealed key id n s⟩]; exact seal_text key id n s hs
  rw [o1, o2, o3] at ho
  have HO : Hid _ := ho
  obtain ⟨T, hT⟩ : ∃ T, Hid (pad (Pg.sealT key id n s) = T) := ⟨_, rfl⟩
  rw [hT.out] at hb hsz hbe HO
  clear o1 o2 o3 ho hT hn0 hn1
  have bb := buildE n s
  go_enter Tryz.func68, Tryz.ntmps68
  go_wp2_with fail
  have g1 := Pg.below_alloc w (.cells #[.int .i64 0, .string ⟨#[]⟩] 69)
  refine (Dv.read_ok d O S W F v lf k _ (hD.below g1) hk hW).mono ?_
  rintro e w2 ⟨rfl, g2⟩
  rw [hb]
  have b2 := g1.trans (g2.mono g1.size)
  have j2 := (Blk.new w #[.int .i64 0, .string ⟨#[]⟩] 69).below g2 (by simp)
  clear hb
  go_wp2_with fail
  refine (Pg.num_s 0 _).mono ?_
  rintro e w3 ⟨rfl, g3⟩
  have b3 := b2.trans (g3.mono b2.size)
  have j3 := j2.below g3 j2.lt
  go_wp2_with fail
  refine (prefix_any T (Pg.numS 0) false w3 (by rw [Pg.numS_size]; omega) (by omega) (by rw [Pg.numS_size]; exact hbe)).mono ?_
  rintro e w4 ⟨rfl, hw4⟩
  obtain rfl : w3 = w4 := hw4.symm
  clear hw4
  go_wp2_with fail
  refine (HO.out w3 (hK.below b3)).mono ?_
  rintro e w5 ⟨rfl, g5⟩
  have b5 := b3.trans (g5.mono b3.size)
  have j5 := j3.below g5 j3.lt
  rw [show Pg.errV 0 = .nilIface from rfl]
  go_wp2_with (first
    | (refine Su.wpl_storeV rfl rfl 69 _ _ rfl 2 szE w.heap.size _ 69 #[.int .i64 n, .string s] e1 rfl rfl j5 rfl rfl ?_; intro w7 hu7 j7)
    | fail)
  exact Su.ret_cellV2 8 9 69 rfl Tryz.isAgg69 2 szE w.heap.size _ 69 rfl _ rfl rfl j7 rfl ⟨rfl, below_upd b5 hu7 (Nat.le_refl _)⟩
end Go.Proofs.YtkapkphhceknfaaGreatDoor.Vt
namespace Go.Proofs.YtkapkphhceknfaaGreatDoor.Vt
open Go.RowKit
set_option maxRecDepth 100000 in
set_option maxHeartbeats 400000 in
theorem readSuper_some (d : Nat) (O : Nat → Prop) (S : Nat → Nat → UInt8) (W : List (Nat × (Nat → UInt8))) (F : Int) (v : Value) (lf : Int) (sec : ByteArray) (n : Nat) (w : World) (hD : Dv.Dev w O d S W F v lf) (hW : W.length ≤ 1000) (hsec : sec.size ≤ 300) (hn : n < 9007199254740992) (hK : Sm.KB w)
    (c e : Int) (f : Nat → Bool) (r : ByteArray) (hz : Su.parC (supK sec) (sb 256 (Dv.readF S W (n % 2))) = 0) (hv : Su.parV (supK sec) (sb 256 (Dv.readF S W (n % 2))) = Su.supA c e f r) (X : Array Value) (b : Bool) (hX1 : c = (n : Int) → X = Su.supA c e f r ∧ b = true) (hX0 : c ≠ (n : Int) → X = Su.sup0 ∧ b = false) :
    Calls Tryz.prog 67 #[.pointer (some ⟨d, 0, none⟩), .string sec, .int .i64 (n : Int)] w fun e w' => e = .returned (.tuple #[.agg X, .bool b]) ∧ Below w.heap.size w w' := by
  have z0 := Su.sup0_size
  have o0 := Su.sup0_one
  have zz := Su.zero93
  have bb := Su.build0
  have e0 : Su.errV 0 = .nilIface := rfl
  have HX1 : Hid _ := hX1
  have HX0 : Hid _ := hX0
  clear hX1 hX0
  have y0 := Su.supA_size c e f r
  have y1 := Su.supA_one c e f r
  have y2 := Su.supA_0 c e f r
  obtain ⟨Z, hZ⟩ : ∃ Z, Hid (Su.sup0 = Z) := ⟨_, rfl⟩
  rw [hZ.out] at z0 o0 zz bb HX0
  obtain ⟨Y, hY⟩ : ∃ Z, Hid (Su.supA c e f r = Z) := ⟨_, rfl⟩
  rw [hY.out] at y0 y1 y2 hv HX1
  have hsz : (sb 256 (Dv.readF S W (n % 2))).size = 256 := sb_size _ _
  obtain ⟨T, hT⟩ : ∃ T, Hid (sb 256 (Dv.readF S W (n % 2)) = T) := ⟨_, rfl⟩
  rw [hT.out] at hz hsz hv
  go_enter Tryz.func67, Tryz.ntmps67
  go_wp2_with fail
  have g1 := Pg.below_alloc w (.cells Z 72)
  refine (superPlace_any n _ hn).mono ?_
  rintro e' w1 ⟨rfl, rfl⟩
  go_wp2_with fail
  refine (Dv.read_ok d O S W F v lf (n % 2) _ (hD.below g1) (by omega) hW).mono ?_
  rintro e' w2 ⟨rfl, g2⟩
  rw [hT.out]
  have b2 := g1.trans (g2.mono g1.size)
  have j2 := (Blk.new w Z 72).below g2 (by simp)
  go_wp2_with fail
  refine (superKey_any sec w2 hsec (hK.below b2)).mono ?_
  rintro e' w3 ⟨rfl, g3⟩
  have b3 := b2.trans (g3.mono b2.size)
  have j3 := j2.below g3 j2.lt
  go_wp2_with fail
  refine (Su.parse_any (supK sec) T w3 (by omega) (hK.below b3)).mono ?_
  rintro e' w4 ⟨rfl, g4⟩
  rw [hz, e0, hv]
  have b4 := b3.trans (g4.mono b3.size)
  have j4 := j3.below g4 j3.lt
  have j5 := j4.alloc (.cells Z 72)
  have b5 := b4.trans ((Pg.below_alloc w4 (.cells Z 72)).mono b4.size)
  have hlt4 : w.heap.size < w4.heap.size := j4.lt
  clear hz hv e0
  by_cases hcn : c = (n : Int)
  · obtain ⟨rfl, rfl⟩ := HX1.out hcn
    have hcn' : decide (c = (n : Int)) = true := decide_eq_true hcn
    go_wp2_with (first
      | (refine Su.wpl_storeV rfl rfl 72 _ _ rfl 35 Su.sz93 w4.heap.size Z 72 X y1 rfl rfl (Blk.new w4 _ _) z0 y0 ?_; intro w6 hu6 j6; have k6 := j5.upd hu6 (by omega); have c6 := j6.cell 0; rw [y2] at c6)
      | (refine Su.wpl_loadV rfl 72 _ rfl Tryz.isAgg72 35 Su.sz93 w4.heap.size 0 X 72 rfl j6 (by omega) ?_; rw [Su.ext_all y0])
      | (refine Su.wpl_storeV rfl rfl 72 _ _ rfl 35 Su.sz93 w.heap.size Z 72 X y1 rfl rfl k6 z0 y0 ?_; intro w7 hu7 j7)
      | fail)
    exact Su.ret_cellV2 6 7 72 rfl Tryz.isAgg72 35 Su.sz93 w.heap.size X 72 y0 _ rfl rfl j7 rfl ⟨rfl, below_upd (below_upd b5 hu6 (Nat.le_of_lt hlt4)) hu7 (Nat.le_refl _)⟩
  · obtain ⟨rfl, rfl⟩ := HX0.out hcn
    go_wp2_with (first
      | (refine Su.wpl_storeV rfl rfl 72 _ _ rfl 35 Su.sz93 w4.heap.size X 72 Y y1 rfl rfl (Blk.new w4 _ _) z0 y0 ?_; intro w6 hu6 j6; have k6 := j5.upd hu6 (by omega); have c6 := j6.cell 0; rw [y2] at c6)
      | (refine Su.wpl_storeV rfl rfl 72 _ _ rfl 35 Su.sz93 w.heap.size X 72 X o0 rfl rfl k6 z0 z0 ?_; intro w7 hu7 j7)
      | fail)
    exact Su.ret_cellV2 6 7 72 rfl Tryz.isAgg72 35 Su.sz93 w.heap.size X 72 z0 _ rfl rfl j7 rfl ⟨rfl, below_upd (below_upd b5 hu6 (Nat.le_of_lt hlt4)) hu7 (Nat.le_refl _)⟩
/-- The state of Count n stands on the device. -/
structure On (S : Nat → Nat → UInt8) (W : List (Nat × (Nat → UInt8))) (sec : ByteArray) (n : Nat) (en : Int) (f : Nat → Bool) (p : Int → Option (Int × ByteArray)) : Prop where
  n0 : 1 ≤ n
  n1 : n ≤ 1099511627776
  e0 : 1 ≤ en
  e1 : en ≤ 1099511627776
  sup : sb 256 (Dv.readF S W (n % 2)) = pad (Su.allT (supK sec) (n : Int) en f (rootP p))
  some' : ∀ id : Nat, id < 32 → ∀ x, p (id : Int) = some x → sb 256 (Dv.readF S W (plc f id)) = pad (Pg.sealT (epoK sec en) (id : Int) x.1 x.2) ∧ 1 ≤ x.1 ∧ x.1 ≤ 1099511627776 ∧ x.2.size ≤ 200
  none' : ∀ id : Nat, id < 32 → p (id : Int) = none → begins (sb 256 (Dv.readF S W (plc f id))) = true
  keys : ∀ i, kOk i → (p i).isSome = true → 0 ≤ i ∧ i < 32
def upto (p : Int → Option (Int × ByteArray)) (k : Nat) (i : Int) : Option (Int × ByteArray) := if 0 ≤ i ∧ i < (k : Int) then p i else none
theorem upto_step {p : Int → Option (Int × ByteArray)} {k : Nat} {x : Int × ByteArray} (h : p (k : Int) = some x) : (fun j => if j = (k : Int) then some (ent x) else pv (upto p k) j) = pv (upto p (k + 1)) := by
  funext j
  unfold pv upto
  by_cases e : j = (k : Int)
  · subst e; rw [if_pos rfl, if_pos (by omega), h]; rfl
  · rw [if_neg e]
    by_cases e2 : 0 ≤ j ∧ j < (k : Int)
    · rw [if_pos e2, if_pos (by omega)]
    · rw [if_neg e2, if_neg (by omega)]
theorem upto_same {p : Int → Option (Int × ByteArray)} {k : Nat} (h : p (k : Int) = none) : upto p (k + 1) = upto p k := by
  funext j
  unfold upto
  by_cases e : j = (k : Int)
  · subst e; rw [if_pos (by omega), if_neg (by omega), h]
  · by_cases e2 : 0 ≤ j ∧ j < (k : Int)
    · rw [if_pos e2, if_pos (by omega)]
    · rw [if_neg e2, if_neg (by omega)]
/-- What lies in memory while a state is read. -/
structure Rd (W : World) (w : World) (B0 B1 CB NB : Nat) (Y U X : Array Value) (k : Nat) (g : Int → Option Value) : Prop where
  j0 : Blk W B0 Y 74
  j1 : Blk W B1 U 72
  jn : Blk W NB X 74
  m : MapF Tryz.prog W CB k g
  lo : Below w.heap.size w W
  h0 : w.heap.size ≤ B0
  h1 : w.heap.size ≤ B1
  h2 : w.heap.size ≤ CB
  h3 : w.heap.size ≤ NB
  n1 : B0 ≠ B1
  n2 : B0 ≠ CB
  n3 : B0 ≠ NB
  n4 : B1 ≠ CB
  n5 : NB ≠ CB
theorem Rd.below {W W' w : World} {B0 B1 CB NB : Nat} {Y U X : Array Value} {k : Nat} {g : Int → Option Value} (h : Rd W w B0 B1 CB NB Y U X k g) (hb : Below W.heap.size W W') : Rd W' w B0 B1 CB NB Y U X k g :=
  ⟨h.j0.below hb h.j0.lt, h.j1.below hb h.j1.lt, h.jn.below hb h.jn.lt, h.m.below hb h.m.lt, h.lo.trans (hb.mono h.lo.size), h.h0, h.h1, h.h2, h.h3, h.n1, h.n2, h.n3, h.n4, h.n5⟩
theorem Rd.put {W W' w : World} {B0 B1 CB NB : Nat} {Y U X : Array Value} {k k' : Nat} {g g' : Int → Option Value} (h : Rd W w B0 B1 CB NB Y U X k g) (hu : Upd W W' CB) (m : MapF Tryz.prog W' CB k' g') : Rd W' w B0 B1 CB NB Y U X k' g' :=
  ⟨h.j0.upd hu h.n2, h.j1.upd hu h.n4, h.jn.upd hu h.n5, m, below_upd h.lo hu h.h2, h.h0, h.h1, h.h2, h.h3, h.n1, h.n2, h.n3, h.n4, h.n5⟩
set_option maxRecDepth 100000 in
set_option maxHeartbeats 1000000 in
theorem whole_good (d : Nat) (O : Nat → Prop) (S : Nat → Nat → UInt8) (W : List (Nat × (Nat → UInt8))) (F : Int) (v : Value) (lf : Int) (sec : ByteArray) (n : Nat) (en : Int) (f : Nat → Bool) (p : Int → Option (Int × ByteArray)) (w : World) (hD : Dv.Dev w O d S W F v lf) (hW : W.length ≤ 1000) (hsec : sec.size ≤ 300) (hK : Sm.KB w)
    (hOn : On S W sec n en f p) :
    Calls Tryz.prog 46 #[.pointer (some ⟨d, 0, none⟩), .string sec, .int .i64 (n : Int)] w fun e w' => (∃ CB, e = .returned (.tuple #[.agg (stA (n : Int) en f (rootP p) (.map (some CB))), .bool true]) ∧ MapF Tryz.prog w' CB 32 (pv p) ∧ w.heap.size ≤ CB) ∧ Below w.heap.size w w' := by
  have HOn : Hid (On S W sec n en f p) := hOn
  have hn0 := hOn.n0
  have hpar := all_par (supK sec) (n : Int) en f (rootP p) (supK_size sec) (by unfold Su.okN; rw [decide_eq_true (by omega), decide_eq_true (by have := hOn.n1; omega)]; rfl) (by unfold Su.okN; rw [decide_eq_true hOn.e0, decide_eq_true hOn.e1]; rfl) (rootP_size p)
  rw [← hOn.sup] at hpar
  have hRS := fun w' (hb : Below w.heap.size w w') => readSuper_some d O S W F v lf sec n w' (hD.below hb) hW hsec (by have := hOn.n1; omega) (hK.below hb) _ _ _ _ hpar.1 hpar.2 (Su.supA (n : Int) en f (rootP p)) true (fun _ => ⟨rfl, rfl⟩) (fun h => absurd rfl h)
  have HR : Hid _ := hRS
  clear hRS hpar hOn
  have z1 := st0_size
  have o1 := st0_one
  have zt := zeroSt
  obtain ⟨Y, hY⟩ : ∃ Z, Hid (st0 = Z) := ⟨_, rfl⟩
  rw [hY.out] at z1 o1 zt
  clear hY
  have y0 := Su.supA_size (n : Int) en f (rootP p)
  have y1 := Su.supA_one (n : Int) en f (rootP p)
  have y2 := Su.supA_1 (n : Int) en f (rootP p)
  have y3 := Su.supA_34 (n : Int) en f (rootP p)
  have HB : Hid (∀ (CB : Nat) (w : World), (Instr.build 74 #[(0, .agg (Su.supA (n : Int) en f (rootP p))), (1, .map (some CB))]).run Tryz.prog w = .ok (.agg (stA (n : Int) en f (rootP p) (.map (some CB)))) w) := fun CB w => buildSt _ _ _ _ _ w
  obtain ⟨U, hU⟩ : ∃ Z, Hid (Su.supA (n : Int) en f (rootP p) = Z) := ⟨_, rfl⟩
  rw [hU.out] at y0 y1 y2 y3 HB HR
  clear hU
  have zq := Su.zero93
  have zq0 := Su.sup0_size
  obtain ⟨Z, hZ⟩ : ∃ Z, Hid (Su.sup0 = Z) := ⟨_, rfl⟩
  rw [hZ.out] at zq zq0
  clear hZ
  have g1 := Pg.below_alloc w (.cells Y 74)
  go_enter Tryz.func46, Tryz.ntmps46
  go_wp2_with fail
  refine (HR.out _ g1).mono ?_
  rintro e w2 ⟨rfl, g2⟩
  have b2 := g1.trans (g2.mono g1.size)
  have j2 := (Blk.new w Y 74).below g2 (by simp)
  have j3 := j2.alloc (.cells Z 72)
  have b3 := b2.trans ((Pg.below_alloc w2 (.cells Z 72)).mono b2.size)
  have hlt2 : w.heap.size < w2.heap.size := j2.lt
  clear HR
  have hmk := mkMap
  go_wp2_with (first
    | (refine Su.wpl_storeV rfl rfl 72 _ _ rfl 35 Su.sz93 w2.heap.size Z 72 U y1 rfl rfl (Blk.new w2 _ _) zq0 y0 ?_; intro w6 hu6 j6; have k6 := j3.upd hu6 (by omega); have b6 := below_upd b3 hu6 (Nat.le_of_lt hlt2))
    | (refine Su.wpl_loadV rfl 72 _ rfl Tryz.isAgg72 35 Su.sz93 w2.heap.size 0 U 72 rfl j6 (by omega) ?_; rw [Su.ext_all y0])
    | (refine wpl_bld rfl 74 _ rfl #[(0, .agg U), (1, .map (some w6.heap.size))] (by kernel_rfl) (.agg (stA (n : Int) en f (rootP p) (.map (some w6.heap.size)))) (HB.out w6.heap.size _) ?_; have x0 := stA_size (n : Int) en f (rootP p) (.map (some w6.heap.size)); have x1 := stA_one (n : Int) en f (rootP p) (.map (some w6.heap.size)) rfl; obtain ⟨X, hX⟩ : ∃ X, Hid (stA (n : Int) en f (rootP p) (.map (some w6.heap.size)) = X) := ⟨_, rfl⟩; rw [hX.out] at x0 x1; rw [hX.out])
    | (refine Su.wpl_storeV rfl rfl 74 _ _ rfl 36 szSt (w6.heap.size + 1) Y 74 X x1 rfl rfl (Blk.new' _ _ _ (by simp)) z1 x0 ?_; intro w7 hu7 j7; have l6 := j6.lt; have q7 := ((j6.alloc (.map #[] 0)).alloc (.cells Y 74)).upd hu7 (by omega); have c7 := q7.cell 1; rw [y2] at c7)
    | fail)
  have r7 := ((k6.alloc (.map #[] 0)).alloc (.cells Y 74)).upd hu7 (by omega)
  have m7 : MapF Tryz.prog w7 w6.heap.size 0 (pv (upto p 0)) := (((mapF_made Tryz.prog w6).alloc (.cells Y 74)).upd hu7 (by omega)).congr fun i _ => by
    unfold pv upto; rw [if_neg (by omega)]; rfl
  have b7 : Below w.heap.size w w7 := below_upd ((b6.trans ((Pg.below_alloc w6 (.map #[] 0)).mono b6.size)).trans ((Pg.below_alloc _ (.cells Y 74)).mono (by simp; have := b6.size; omega))) hu7 (by have := b6.size; omega)
  have H7 : Rd w7 w w.heap.size w2.heap.size w6.heap.size (w6.heap.size + 1) Y U X 0 (pv (upto p 0)) := ⟨r7, q7, j7, m7, b7, Nat.le_refl _, Nat.le_of_lt hlt2, b6.size, by have := b6.size; omega, by omega, by omega, by omega, by omega, by omega⟩
  refine (epochKey_any sec en w7 hsec (hK.below b7)).mono ?_
  rintro e w8 ⟨rfl, g8⟩
  have H8 := H7.below g8
  have hek := epoK_size sec en
  have HX : Hid (stA (n : Int) en f (rootP p) (.map (some w6.heap.size)) = X) := hX
  obtain ⟨key, hkey⟩ : ∃ K, Hid (epoK sec en = K) := ⟨_, rfl⟩
  have HOn' := HOn.out.some'
  rw [hkey.out] at hek HOn'
  rw [hkey.out]
  have HS : Hid _ := HOn'
  have HP : Hid (∀ (k : Nat) (w : World), k < 32 → Calls Tryz.prog 52 #[.agg X, .int .i64 (k : Int)] w fun e' w' => e' = .returned (.int .i64 (plc f k : Int)) ∧ Below w.heap.size w w') := fun k w h => by rw [← hX.out]; exact place_any (n : Int) en f (rootP p) _ k w h
  have HRt : Hid (∀ (W' : World) (k : Nat), MapF Tryz.prog W' w6.heap.size k (pv p) → Sm.KB W' → Calls Tryz.prog 49 #[.agg X] W' fun e' w' => e' = .returned (.tuple #[.string (rootP p), .nilIface]) ∧ Below W'.heap.size W' w') := fun W' k hm hk => by
    rw [← hX.out]
    refine root_any (n : Int) en f (rootP p) _ k p W' (Or.inr ⟨_, rfl, hm⟩) (fun j hj => ?_) hk
    unfold rd
    cases hx : p (j : Int) with
    | none => exact Nat.zero_le _
    | some x => have := (HOn.out.some' j hj x hx).2.2.2; simp; omega
  have y3' : Hid (U[34]? = some (.string (rootP p))) := y3
  have x35 : Hid (X[35]? = some (.map (some w6.heap.size))) := by unfold Hid; rw [← hX.out, stA_35]
  clear HOn' y3 y2 hu6 hu7 j6 j7 k6 l6 q7 c7 r7 m7 b7 H7 g8 b6 b3 j3 j2 b2 g2 g1 hlt2 hmk zq zq0 HB hX zt
  generalize w6.heap.size = CB at *
  generalize w2.heap.size = B1 at *
  obtain ⟨B0, hB0⟩ : ∃ B, Hid (w.heap.size = B) := ⟨_, rfl⟩
  rw [hB0.out] at H8
  rw [hB0.out]
  obtain ⟨NB, hNB⟩ : ∃ B, Hid (CB + 1 = B) := ⟨_, rfl⟩
  rw [hNB.out] at H8
  rw [hNB.out]
  go_wp2_with fail
  go_loopw [34] (fun i wr => ∃ k : Nat, k ≤ 32 ∧ i = .int .i64 k ∧ ∃ k', k' ≤ k ∧ Rd wr w B0 B1 CB NB Y U X k' (pv (upto p k))) (fun i _ => 32 - (intOf i).toNat)
  case atStart => exact ⟨0, by omega, rfl, 0, by omega, H8⟩
  case round =>
    clear H8
    obtain ⟨k, hk, rfl, k', hk', Hr⟩ := hrel
    by_cases hlt : k < 32
    · have hlt' : (k : Int) < 32 := by omega
      have hDr := hD.below Hr.lo
      go_wp2_with (first
        | (refine Su.wpl_loadV rfl 74 _ rfl Tryz.isAgg74 36 szSt NB 0 X 74 rfl Hr.jn (by omega) ?_; rw [Su.ext_all x0])
        | fail)
      refine (HP.out k _ hlt).mono ?_
      rintro e w3 ⟨rfl, g3⟩
      have H3 := Hr.below g3
      have hD3 := hDr.below g3
      clear Hr hDr g3
      cases hx : p (k : Int) with
      | none =>
        have hX' : Hid (p (k : Int) = none) := hx
        clear hx
        go_wp2_with fail
        refine (readPage_blank d O S W F v lf key (k : Int) (plc f k) w3 hD3 (plc_lt f k hlt) hW (HOn.out.none' k hlt hX'.out)).mono ?_
        rintro e w4 ⟨rfl, g4⟩
        have H4 := H3.below g4
        have e1 := entC_one ent0
        simp only [ent0] at e1
        clear H3 hD3 g4
        go_wp2_with (first
          | (refine Su.wpl_storeV rfl rfl 69 _ _ rfl 2 szE w4.heap.size _ 69 #[.int .i64 0, .string ⟨#[]⟩] e1 rfl rfl (Blk.new w4 _ _) rfl rfl ?_; intro w5 hu5 j5; have d0 := j5.cell 0)
          | fail)
        have s5 : Below w4.heap.size w4 w5 := below_upd (Pg.below_alloc w4 _) hu5 (Nat.le_refl _)
        refine ⟨⟨k + 1, by omega, by go_num, k', by omega, ?_⟩, by simp [intOf]; omega⟩
        rw [upto_same hX'.out]; exact H4.below s5
      | some x =>
        have hX' : Hid (p (k : Int) = some x) := hx
        obtain ⟨q1, q2, q3, q4⟩ := HS.out k hlt x hx
        clear hx
        go_wp2_with fail
        refine (readPage_good d O S W F v lf key (k : Int) (plc f k) x.1 x.2 w3 hD3 (plc_lt f k hlt) hW hek q2 q3 q4 (hK.below H3.lo) q1).mono ?_
        rintro e w4 ⟨rfl, g4⟩
        have H4 := H3.below g4
        have e1 := entC_one x
        have q5 : ¬ x.1 = 0 := by omega
        clear H3 hD3 g4 q1 q2 q3 q4
        go_wp2_with (first
          | (refine Su.wpl_storeV rfl rfl 69 _ _ rfl 2 szE w4.heap.size _ 69 #[.int .i64 x.1, .string x.2] e1 rfl rfl (Blk.new w4 _ _) rfl rfl ?_; intro w5 hu5 j5; have d0 := j5.cell 0; have d1 := j5.cell 1; have s5 : Below w4.heap.size w4 w5 := below_upd (Pg.below_alloc w4 _) hu5 (Nat.le_refl _); have H5 := H4.below s5; have c35 : w5.cell? ⟨NB, 35, none⟩ = some (.map (some CB)) := (by rw [H5.jn.cell, x35.out]))
          | (refine wpl_putF rfl rfl 67 _ _ _ rfl und3 69 undE CB k' (pv (upto p k)) (k : Int) (ent x) rfl rfl rfl H5.m (by omega) (kOk_small (by omega) hlt') ?_; intro w6 m6 hu6)
          | fail)
        rw [upto_step hX'.out] at m6
        exact ⟨⟨k + 1, by omega, by go_num, k' + 1, by omega, H5.put hu6 m6⟩, by simp [intOf]; omega⟩
    · have hk2 : k = 32 := by omega
      have M : MapF Tryz.prog wr CB k' (pv p) := Hr.m.congr fun i hi => by
        unfold pv upto
        by_cases e : 0 ≤ i ∧ i < (k : Int)
        · rw [if_pos e]
        · rw [if_neg e]
          cases hp : p i with
          | none => rfl
          | some x => exact absurd (HOn.out.keys i hi (by rw [hp]; rfl)) (by omega)
      have hlt' : ¬ ((k : Int) < 32) := by omega
      clear hlt
      go_wp2_with (first
        | (refine Su.wpl_loadV rfl 74 _ rfl Tryz.isAgg74 36 szSt NB 0 X 74 rfl Hr.jn (by omega) ?_; rw [Su.ext_all x0])
        | fail)
      refine (HRt.out wr k' M (hK.below Hr.lo)).mono ?_
      rintro e w3 ⟨rfl, g3⟩
      have H3 := Hr.below g3
      have M3 := M.below g3 M.lt
      have c34 : w3.cell? ⟨B1, 34, none⟩ = some (.string (rootP p)) := by rw [H3.j1.cell, y3'.out]
      obtain ⟨RR, hRR⟩ : ∃ R, Hid (rootP p = R) := ⟨_, rfl⟩
      rw [hRR.out] at c34
      rw [hRR.out]
      clear Hr M g3
      go_wp2_with (first
        | (refine Su.wpl_loadV rfl 74 _ rfl Tryz.isAgg74 36 szSt NB 0 X 74 rfl H3.jn (by omega) ?_; rw [Su.ext_all x0])
        | (refine Su.wpl_storeV rfl rfl 74 _ _ rfl 36 szSt B0 Y 74 X x1 rfl rfl H3.j0 z1 x0 ?_; intro w7 hu7 j7)
        | fail)
      exact Su.ret_cellV2 6 7 74 rfl Tryz.isAgg74 36 szSt B0 X 74 x0 _ rfl rfl j7 rfl ⟨⟨CB, by rw [HX.out]; rfl, (M3.upd hu7 (Ne.symm H3.n2)).mono (by omega), H3.h2⟩, below_upd H3.lo hu7 H3.h0⟩
end Go.Proofs.YtkapkphhceknfaaGreatDoor.Vt
