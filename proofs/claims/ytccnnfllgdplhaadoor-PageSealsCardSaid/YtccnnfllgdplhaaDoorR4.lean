/-
  Part of the proof: the reference's Block is walked.
-/
import Derived.Test.YtccnnfllgdplhaaDoorR3
import Derived.Test.YtccnnfllgdplhaaDoorS4
namespace Go.Proofs.YtccnnfllgdplhaaDoor
open Go.RowKit
theorem in_any (n lo hi : Int) (w : World) : Calls Tryd.prog 71 #[.int .i64 n, .int .i64 lo, .int .i64 hi] w fun e w' => e = .returned (.bool (decide (lo ≤ n) && decide (n ≤ hi))) ∧ w' = w := by
  by_cases h : lo ≤ n
  · go_enter Tryd.func71, Tryd.ntmps71
    go_wp2
    go_ret
    simp [h]
  · have h' : decide (lo ≤ n) = false := by simp [h]
    go_enter Tryd.func71, Tryd.ntmps71
    go_wp2
    go_ret
    simp
theorem mix_any' (f : Nat → BitVec 32) (rest : Array Value) (T : TypeId) (g cap a b c d : Nat) (za zb zc zd : Int) (w : World) (ea : za = (a : Int)) (eb : zb = (b : Int)) (ec : zc = (c : Int)) (ed : zd = (d : Int)) (ha : a < 16) (hb : b < 16) (hc : c < 16) (hd : d < 16) (h1 : a ≠ b) (h2 : a ≠ c) (h3 : a ≠ d) (h4 : b ≠ c) (h5 : b ≠ d) (h6 : c ≠ d) (hg : Blk w g (tab 16 f ++ rest) T) :
    Calls Tryd.prog 73 #[.slice (some ⟨g, 0, none⟩) 16 cap, .agg #[.int .i64 za, .int .i64 zb, .int .i64 zc, .int .i64 zd]] w fun e w' =>
      e = .returned (.tuple #[]) ∧ Blk w' g (tab 16 (qat f a b c d) ++ rest) T ∧ UpdG w w' g := by
  subst ea eb ec ed
  have := mix_any f rest T g cap a b c d w ha hb hc hd hg
  rw [show hlf f a b c d 2 = qat f a b c d from half_twice f a b c d h1 h2 h3 h4 h5 h6] at this
  exact this
theorem ba_ext {a b : ByteArray} (h : a.data.toList = b.data.toList) : a = b := by
  cases a; cases b; simp at h; subst h; rfl
theorem sb_snoc (n : Nat) (f : Nat → UInt8) : sb (n + 1) f = sb n f ++ ⟨#[f n]⟩ := by
  refine ba_ext ?_
  simp [sb, List.range_succ]
/-- The state behind k rounds. -/
def rd (f : Nat → BitVec 32) : Nat → Nat → BitVec 32
  | 0 => f
  | k + 1 => if k % 2 = 1 then dia (rd f k) 4 else col (rd f k) 4
set_option maxRecDepth 100000 in
theorem rd_20 (f : Nat → BitVec 32) : rd f 20 = dbl f 10 := rfl
def stp (k : Nat) (f : Nat → BitVec 32) (m : Nat) : Nat → BitVec 32 := if k % 2 = 1 then dia f m else col f m
theorem rd_succ (f : Nat → BitVec 32) (k : Nat) : rd f (k + 1) = stp k (rd f k) 4 := rfl
theorem stp_zero (f : Nat → BitVec 32) (k : Nat) : stp k f 0 = f := by unfold stp; split <;> rfl
/-- What the reference's Block answers. -/
def rblockV (key : ByteArray) (n : Int) (nonce : ByteArray) : Value :=
  if key.size = 32 ∧ nonce.size = 12 ∧ 0 ≤ n ∧ n ≤ 4294967295 then .tuple #[.string (sb 64 (blkB (stW key (BitVec.ofNat 32 n.toNat) nonce))), .int .i64 0] else .tuple #[.string ByteArray.empty, .int .i64 1]
set_option maxRecDepth 100000 in
set_option maxHeartbeats 1000000 in
theorem rblock_bad (key : ByteArray) (n : Int) (nonce : ByteArray) (w : World) (_hk : key.size ≤ 10000) (_hn : nonce.size ≤ 10000) (c : ¬ (key.size = 32 ∧ nonce.size = 12 ∧ 0 ≤ n ∧ n ≤ 4294967295)) :
    Calls Tryd.prog 20 #[.string key, .int .i64 n, .string nonce] w fun e w' => e = .returned (.tuple #[.string ByteArray.empty, .int .i64 1]) ∧ w' = w := by
  by_cases c1 : key.size = 32
  · by_cases c2 : nonce.size = 12
    · have c3 : (decide (0 ≤ n) && decide (n ≤ 4294967295)) = false := by simp; omega
      go_enter Tryd.func20, Tryd.ntmps20
      go_wp2_with (go_at_call 71; refine (in_any _ _ _ _).mono ?_; rintro e w' ⟨rfl, rfl⟩; rw [c3])
      go_ret2
      exact ⟨rfl, rfl⟩
    · go_enter Tryd.func20, Tryd.ntmps20
      go_wp2_with fail
      go_ret2
      exact ⟨rfl, rfl⟩
  · go_enter Tryd.func20, Tryd.ntmps20
    go_wp2_with fail
    go_ret2
    exact ⟨rfl, rfl⟩
set_option maxRecDepth 100000 in
set_option maxHeartbeats 1000000 in
theorem rblock_good (key : ByteArray) (n : Int) (nonce : ByteArray) (w : World) (k1 : key.size = 32) (k2 : nonce.size = 12) (r0 : 0 ≤ n) (r1 : n ≤ 4294967295) :
    Calls Tryd.prog 20 #[.string key, .int .i64 n, .string nonce] w fun e w' => e = .returned (.tuple #[.string (sb 64 (blkB (stW key (BitVec.ofNat 32 n.toNat) nonce))), .int .i64 0]) ∧ Below w.heap.size w w' := by
  have HI : Hid (n = I (BitVec.ofNat 32 n.toNat)) := by unfold Hid I; rw [BitVec.toNat_ofNat, Nat.mod_eq_of_lt (by omega)]; omega
  have HS := start_words key (BitVec.ofNat 32 n.toNat) nonce
  have HE : Hid (((wL (exK ++ key) 12 ++ [Value.int .u32 n]) ++ wL nonce 3).toArray = tab 16 (stW key (BitVec.ofNat 32 n.toNat) nonce)) := by
    have e := HI.out
    unfold Hid
    rw [← HS]
    rw [← e]
  clear HS
  generalize hst : stW key (BitVec.ofNat 32 n.toNat) nonce = st at *
  clear hst
  have zE : (exK ++ key).size = 48 := by rw [ByteArray.size_append, k1]; rfl
  go_enter Tryd.func20, Tryd.ntmps20
  go_wp2_with (go_at_call 71; refine (in_any _ _ _ _).mono ?_; rintro e w' ⟨rfl, rfl⟩)
  refine (words_any (exK ++ key) _ (by omega)).mono ?_
  rintro e w1 ⟨v1, rfl, R1, g1⟩
  rw [zE] at R1
  have R1' : Row w1 w'.heap.size 83 v1 (wL (exK ++ key) 12) := R1
  go_wp2_with (refine wpl_push rfl _ _ 106 rfl w'.heap.size 83 (.int .u32 0) 4 Tryd.underlying106 infoU rfl v1 (wL (exK ++ key) 12) rfl (R1'.below ((Below.refl _ _).alloc (Nat.le_refl _) _)) _ _ _ rfl ((Blk.new w1 _ 83).cell 0) rfl (by rw [wL_length]; omega) (by decide) (by simp; have := g1.size; omega) ?_; intro ga capa wa hrowa hgrowa hga hgla)
  have hla : (wL (exK ++ key) 12).length = 12 := wL_length _ _
  have ba := below_grown (g1.alloc g1.size (.cells #[Value.int .u32 n] 83)) (R1'.below ((Below.refl _ _).alloc (Nat.le_refl _) _)) hgrowa (by simp; have := g1.size; omega)
  have Ra : Row wa w'.heap.size 83 (.slice (some ⟨ga, 0, none⟩) 13 capa) (wL (exK ++ key) 12 ++ [Value.int .u32 n]) := by rw [hla] at hrowa; exact hrowa
  rw [hla]
  have gea : w'.heap.size ≤ ga := by
    rcases Ra.form with ⟨e1, _⟩ | ⟨g, cap, e1, h1, _⟩
    · cases e1
    · injection e1 with a1; injection a1 with a2; injection a2 with a3; omega
  clear hrowa hgrowa hga R1 R1' g1 zE
  refine (words_any nonce _ (by omega)).mono ?_
  rintro e w3 ⟨v3, rfl, R3, g3⟩
  rw [k2] at R3
  have R3' : Row w3 wa.heap.size 83 v3 (wL nonce 3) := R3
  clear R3
  have l3 : (wL nonce 3).length = 3 := wL_length _ _
  obtain ⟨gn, capn, ev, hgn1, hgn2⟩ : ∃ g cap, v3 = .slice (some ⟨g, 0, none⟩) 3 cap ∧ wa.heap.size ≤ g ∧ g < w3.heap.size := by
    rcases R3'.form with ⟨_, e2⟩ | ⟨g, cap, e1, h1, h2⟩
    · rw [e2] at l3; cases l3
    · rw [l3] at e1; exact ⟨g, cap, e1, h1, h2⟩
  subst ev
  have Rb := Ra.below g3
  have bb := ba.trans (g3.mono ba.size)
  have one3 : ∀ u ∈ wL nonce 3, u.oneCell' = true := by intro u hu; simp [wL] at hu; obtain ⟨t, _, rfl⟩ := hu; rfl
  have hl13 : (wL (exK ++ key) 12 ++ [Value.int .u32 n]).length = 13 := by simp [hla]
  obtain ⟨XS, hXS⟩ : ∃ XS, Hid (XS = wL (exK ++ key) 12 ++ [Value.int .u32 n] ++ wL nonce 3) := ⟨_, rfl⟩
  have lXS : XS.length = 16 := by rw [hXS.out, List.length_append, hl13, l3]
  have oneX : ∀ u ∈ XS, u.oneCell' = true := by
    intro u hu; rw [hXS.out] at hu; simp [wL] at hu
    rcases hu with ⟨t, _, rfl⟩ | rfl | ⟨t, _, rfl⟩ <;> rfl
  go_wp2_with (first
    | (refine wpl_pushN rfl _ _ 106 rfl w'.heap.size 83 (.int .u32 0) 4 Tryd.underlying106 infoU rfl (.slice (some ⟨ga, 0, none⟩) 13 capa) (wL (exK ++ key) 12 ++ [Value.int .u32 n]) rfl Rb _ _ _ (wL nonce 3) rfl l3 (fun j u hj => R3'.cell j u hj) one3 (by decide) (by rw [hl13]; decide) (by decide) (bb.size) ?_; intro gs caps ws hrows hgrows hgs hgls; rw [hl13]; rw [hl13, ← hXS.out] at hrows; have bs := below_grown bb Rb hgrows bb.size; have R0 : Row (ws.alloc (.cells #[] 83)) w'.heap.size 83 (.slice (some ⟨ws.heap.size, 0, none⟩) 0 0) [] := ⟨rfl, Or.inr ⟨ws.heap.size, 0, #[], rfl, bs.size, Blk.new ws #[] 83, Nat.le_refl _, Nat.zero_le _, rfl, rfl⟩⟩; have Rs := hrows.below ((Below.refl _ _).alloc (Nat.le_refl _) (.cells #[] 83)))
    | (refine wpl_pushN rfl _ _ 106 rfl w'.heap.size 83 (.int .u32 0) 4 Tryd.underlying106 infoU rfl (.slice (some ⟨ws.heap.size, 0, none⟩) 0 0) [] rfl R0 _ _ _ XS rfl lXS (fun j u hj => Rs.cell j u hj) oneX (by decide) (by decide) (by decide) (by have := bs.size; simp; omega) ?_; intro gt capt wt hrowt hgrowt hgt hgtl)
    | fail)
  have bt := below_grown (bs.alloc bs.size _) R0 hgrowt (by have := bs.size; simp; omega)
  obtain ⟨rs, Bs0⟩ := hrows.blk
  obtain ⟨rt, Bt⟩ := hrowt.blk
  have egt : ws.heap.size ≤ gt := by
    rcases hgt with hgt | hgt
    · have : ws.heap.size = gt := by simpa [Value.ownBlock] using hgt
      omega
    · simp at hgt; omega
  have Bs : Blk wt gs (XS.toArray ++ rs) 83 := by
    unfold Blk
    rw [hgrowt.block gs (by simp; omega) (by simp [Value.ownBlock]; omega)]
    exact Bs0.alloc _
  have ges : w'.heap.size ≤ gs := by
    rcases hrows.form with ⟨e1, _⟩ | ⟨g, cap, e1, h1, _⟩
    · cases e1
    · injection e1 with a1; injection a1 with a2; injection a2 with a3; omega
  rw [hXS.out, HE.out] at Bs
  rw [List.nil_append, hXS.out, HE.out] at Bt
  have hne : gs ≠ gt := by omega
  have get : w'.heap.size ≤ gt := by omega
  clear hgrowt hgt hrowt hrows hgrows hgs Bs0 R0 Rs Rb Ra R3' bb ba bs oneX lXS hXS hl13 one3 HE HI
  go_wp2_with fail
  go_loopw [43] (fun i wr => ∃ k : Nat, k ≤ 20 ∧ i = .int .i64 k ∧ Blk wr gt (tab 16 (rd st k) ++ rt) 83 ∧ Blk wr gs (tab 16 st ++ rs) 83 ∧ Below w'.heap.size w' wr) (fun i _ => 20 - (intOf i).toNat)
  case atStart => exact ⟨0, by omega, rfl, Bt, Bs, bt⟩
  case round =>
    clear Bt Bs bt
    obtain ⟨k, hk, rfl, Bt, Bs, bt⟩ := hrel
    by_cases hlt : k < 20
    · go_wp2_with fail
      rw [show decide ((k : Int) < 20) = true from by simp; omega]
      go_loopw [46] (fun i wr => ∃ m : Nat, m ≤ 4 ∧ i = .int .i64 m ∧ Blk wr gt (tab 16 (stp k (rd st k) m) ++ rt) 83 ∧ Blk wr gs (tab 16 st ++ rs) 83 ∧ Below w'.heap.size w' wr) (fun i _ => 4 - (intOf i).toNat)
      case atStart => exact ⟨0, by omega, rfl, by rw [stp_zero]; exact Bt, Bs, bt⟩
      case round =>
        clear Bt Bs bt
        obtain ⟨m, hm, rfl, Bt, Bs, bt⟩ := hrel
        by_cases hlm : m < 4
        · by_cases par : k % 2 = 1
          · have par' : (k : Int) % 2 = 1 := by omega
            have HQ : Hid (stp k (rd st k) (m + 1) = qat (stp k (rd st k) m) m (4 + (m + 1) % 4) (8 + (m + 2) % 4) (12 + (m + 3) % 4)) := by unfold Hid stp; rw [if_pos par, if_pos par]; rfl
            generalize stp k (rd st k) m = F at *
            go_wp2_with fail
            refine (mix_any' F rt 83 gt capt m (4 + (m + 1) % 4) (8 + (m + 2) % 4) (12 + (m + 3) % 4) _ _ _ _ _ (by omega) (by omega) (by omega) (by omega) (by omega) (by omega) (by omega) (by omega) (by omega) (by omega) (by omega) (by omega) (by omega) (by omega) (Bt.alloc _)).mono ?_
            rintro e w5 ⟨rfl, B5, U5⟩
            go_wp2
            go_light
            exact ⟨⟨m + 1, by omega, by go_num, by rw [HQ.out]; exact B5, (Bs.alloc _).updG U5 hne, U5.below (bt.alloc bt.size _) (by have := bt.size; simp; omega) get⟩, by simp [intOf]; omega⟩
          · have par' : (k : Int) % 2 = 0 := by omega
            have HQ : Hid (stp k (rd st k) (m + 1) = qat (stp k (rd st k) m) m (4 + m) (8 + m) (12 + m)) := by unfold Hid stp; rw [if_neg par, if_neg par]; rfl
            generalize stp k (rd st k) m = F at *
            go_wp2_with fail
            refine (mix_any' F rt 83 gt capt m (4 + m) (8 + m) (12 + m) _ _ _ _ _ (by omega) (by omega) (by omega) (by omega) (by omega) (by omega) (by omega) (by omega) (by omega) (by omega) (by omega) (by omega) (by omega) (by omega) (Bt.alloc _)).mono ?_
            rintro e w5 ⟨rfl, B5, U5⟩
            go_wp2
            go_light
            exact ⟨⟨m + 1, by omega, by go_num, by rw [HQ.out]; exact B5, (Bs.alloc _).updG U5 hne, U5.below (bt.alloc bt.size _) (by have := bt.size; simp; omega) get⟩, by simp [intOf]; omega⟩
        · have hm' : m = 4 := by omega
          subst hm'
          go_wp2_with fail
          go_light
          exact ⟨⟨k + 1, by omega, by go_num, by rw [rd_succ]; exact Bt, Bs, bt⟩, by simp [intOf]; omega⟩
    · have hk' : k = 20 := by omega
      subst hk'
      rw [rd_20] at Bt
      go_wp2_with fail
      rw [show (((20 : Nat) : Int)) = 20 from rfl]
      go_loopw [13, 81] (fun o i wr => ∃ j : Nat, j ≤ 16 ∧ i = .int .i64 j ∧ o = .string (sb (4 * j) (blkB st)) ∧ Blk wr gt (tab 16 (dbl st 10) ++ rt) 83 ∧ Blk wr gs (tab 16 st ++ rs) 83 ∧ Below w'.heap.size w' wr) (fun _ i _ => 16 - (intOf i).toNat)
      case atStart => exact ⟨0, by omega, rfl, rfl, Bt, Bs, bt⟩
      case round =>
        clear Bt Bs bt
        obtain ⟨j, hj, rfl, rfl, Bt, Bs, bt⟩ := hrel
        by_cases hlj : j < 16
        · have c1 := Bt.cell j; rw [tr_get _ _ _ hlj] at c1
          have c0 := Bs.cell j; rw [tr_get _ _ _ hlj] at c0
          have hlj' : (j : Int) < 16 := by omega
          obtain ⟨N, hN⟩ : ∃ N : Nat, Hid (N = (dbl st 10 j + st j).toNat) := ⟨_, rfl⟩
          have hNl : N < 4294967296 := by rw [hN.out]; exact (dbl st 10 j + st j).isLt
          have hNI : (I (dbl st 10 j) + I (st j)) % 4294967296 = (N : Int) := by rw [I_addm, hN.out]; rfl
          go_wp2_with fail
          go_quiet (fail)
          clear c0 c1
          rw [hNI]
          have Bt := Bt.drewN nq
          have Bs := Bs.drewN nq
          have bt := below_drewN bt nq
          generalize wr.drewN nq = W at *
          go_wp2_with fail
          go_loopw [13, 15, 93] (fun o x i wr => ∃ c : Nat, c ≤ 4 ∧ i = .int .i64 c ∧ x = .int .u32 ((N / 256 ^ c : Nat) : Int) ∧ o = .string (sb (4 * j + c) (blkB st)) ∧ Blk wr gt (tab 16 (dbl st 10) ++ rt) 83 ∧ Blk wr gs (tab 16 st ++ rs) 83 ∧ Below w'.heap.size w' wr) (fun _ _ i _ => 4 - (intOf i).toNat)
          case atStart => exact ⟨0, by omega, rfl, by simp, rfl, Bt, Bs, bt⟩
          case round =>
            clear Bt Bs bt
            obtain ⟨c, hc, rfl, rfl, rfl, Bt, Bs, bt⟩ := hrel
            by_cases hlc : c < 4
            · have hsz := sb_size (4 * j + c) (blkB st)
              have hB : Hid (blkB st (4 * j + c) = UInt8.ofNat (N / 256 ^ c)) := by
                unfold Hid blkB
                rw [show (4 * j + c) / 4 = j from by omega, show (4 * j + c) % 4 = c from by omega, ← hN.out]
              have hD : Hid (N / 256 ^ (c + 1) = N / 256 ^ c / 256) := by unfold Hid; rw [Nat.pow_succ, Nat.div_div_eq_div_mul]
              have hql : N / 256 ^ c < 4294967296 := Nat.lt_of_le_of_lt (Nat.div_le_self _ _) hNl
              generalize N / 256 ^ c = q at *
              have hl1 : (#[Value.int .u8 ((q : Int) % 256)]).extract 0 (0 + 1) = (Lib.byteCells [UInt8.ofNat q]).toArray := by simp [Lib.byteCells]
              go_wp2_with (refine wpl_string rfl 94 9 5 _ rfl Tryd.underlying94 Tryd.underlying5 Tryd.underlying9 _ _ _ _ _ _ rfl (Blk.new wr _ 5) (by simp) [UInt8.ofNat q] hl1 ?_)
              go_light
              refine ⟨⟨c + 1, by omega, by go_num, by rw [hD.out]; simp, ?_, Bt.alloc _, Bs.alloc _, bt.alloc bt.size _⟩, by simp [intOf]; omega⟩
              rw [← Nat.add_assoc, sb_snoc, hB.out]
            · have hc' : c = 4 := by omega
              subst hc'
              go_wp2_with fail
              go_light
              exact ⟨⟨j + 1, by omega, by go_num, rfl, Bt, Bs, bt⟩, by simp [intOf]; omega⟩
        · have hj' : j = 16 := by omega
          subst hj'
          go_wp2_with fail
          go_ret2
          exact ⟨rfl, bt⟩
end Go.Proofs.YtccnnfllgdplhaaDoor
