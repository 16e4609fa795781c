/-
  Part of the proof: cells: Top is walked.
  Part of the proof: errors.As at an Errno and a place for one, and what the given packages api and plain make of it, are walked.
-/
import Derived.Test.YtamalmgfhpneaaaDoorB20
import Derived.Test.YtamalmgfhpneaaaDoorB01
import Derived.LaidEql
import Derived.Stop.Asserts
import Derived.RowKitTokens
namespace Go.Proofs.YtamalmgfhpneaaaDoor.Ce
open Go.RowKit
open It Nr Sy
theorem top_refuses (p : Nat) (dim : Int) (av : Value) (b : Option Addr) (d : Nat) (ys : List Int) (k : Int) (tag : ByteArray) (w : World) (hp : Blk w p #[.int .i64 dim, av] 73) (hy : Ints w b ys) (hyl : ys.length ≤ maxLen) (hask : askB dim ys k = false) :
    Calls Tryd.prog 18 #[.pointer (some ⟨p, 0, none⟩), .slice b ys.length d, .int .i64 k, .string tag] w fun e w' => e = .returned (.tuple #[.slice none 0 0, .int .i64 0, errA]) ∧ w' = w := by
  have p0 := hp.cell 0
  have HA : Hid _ := ask_any dim b d ys k w hy hyl
  go_enter Tryd.func18, Tryd.ntmps18
  go_wp2_with fail
  refine Calls.mono HA.out ?_
  rintro e w2 ⟨rfl, hw⟩
  obtain rfl : w = w2 := hw.symm
  rw [hask]
  go_wp2_with fail
  go_ret3
  exact ⟨rfl, rfl⟩
set_option maxRecDepth 100000 in
set_option maxHeartbeats 16000000 in
theorem top_any (p : Nat) (dim : Int) (av : Option Addr) (cv : Nat) (os : List CeD) (C : Nat) (b : Option Addr) (d : Nat) (ys : List Int) (k : Nat) (tag : ByteArray) (w : World) (hp : Blk w p #[.int .i64 dim, .slice av os.length cv] 73)
    (hr : w.ownsRow C 68 2 (.slice av os.length cv) os.length (flatC os)) (hs : CS w C os) (hl : os.length ≤ 100) (hg : CG os) (hil : (os.flatMap CeD.it).length ≤ 100) (hok : ∀ x ∈ os, ∀ y ∈ x.it, y.Ok w ∧ y.x.nums.all numB = true ∧ y.x.nums.length ≤ 100)
    (hbig : ∀ x ∈ os, leastI x.co ys ≤ 9223372036854775807) (hy : Ints w b ys) (hyl : ys.length ≤ maxLen) (hask : askB dim ys (k : Int) = true) :
    Calls Tryd.prog 18 #[.pointer (some ⟨p, 0, none⟩), .slice b ys.length d, .int .i64 k, .string tag] w fun e w' => (∃ v lk, e = .returned (.tuple #[v, .int .i64 lk, .nilIface]) ∧ Fnds w' v (tk k (fnd ys tag (xsOf (os.flatMap CeD.it)))) ∧ 0 ≤ lk ∧ lk ≤ ((os.flatMap CeD.it).length : Int)) ∧ Below w.heap.size w w' := by
  have hk : 1 ≤ k ∧ k ≤ 60 := by simp [askB] at hask; omega
  have HYN : Hid (ys.all numB = true) := by unfold askB at hask; rw [Bool.and_eq_true] at hask; exact hask.2
  obtain ⟨hk1, hk2⟩ := hk
  have p0 := hp.cell 0
  have HA : Hid _ := ask_any dim b d ys (k : Int) w hy hyl
  have HFN : Hid _ := finder_any p dim av cv os C b d ys w hp hr hs hl hg hy HYN.out
  have HS : Hid (CS w C os) := hs
  have HY : Hid (Ints w b ys) := hy
  have HOK : Hid _ := hok
  have HBIG : Hid _ := hbig
  have HIL : Hid ((os.flatMap CeD.it).length ≤ 100) := hil
  have HP : Hid (∀ W, Below w.heap.size w W → W.cell? ⟨p, 0, none⟩ = some (.int .i64 dim)) := fun W hW => (hp.below hW hp.lt).cell 0
  have HASK : Hid (askB dim ys (k : Int) = true) := hask
  clear hr hs hg hok hbig hil hp hy
  go_enter Tryd.func18, Tryd.ntmps18
  go_wp2_with fail
  refine Calls.mono HA.out ?_
  rintro e w2 ⟨rfl, hw⟩
  obtain rfl : w = w2 := hw.symm
  rw [hask]
  clear HA hask hw
  go_wp2_with fail
  refine Calls.mono HFN.out ?_
  rintro e w4 ⟨⟨lb, g, cap, tl, d', rfl, hlb, hgb, hcap, hperm, hsor, hgw, hlw⟩, b4⟩
  obtain ⟨N, hN⟩ : ∃ N, os.length = N := ⟨_, rfl⟩
  rw [hN] at hlb hcap hsor hl
  have hds : d'.size = N := by have := hperm.length_eq; rw [List.length_map, hN] at this; simpa using this
  have HDS : Hid (d'.size = N) := hds
  have HPERM : Hid _ := hperm
  have HSOR : Hid (Sor cfR (nth d') 0 N) := hsor
  have HAI : Hid (∀ i, (AI d' i).length ≤ (os.flatMap CeD.it).length) := fun i => by
    have h1 : ((d'.toList).flatMap fun r => r.c.it).Perm ((os.map (reF ys)).flatMap fun r => r.c.it) := List.Perm.flatMap_right _ hperm
    rw [List.flatMap_map] at h1
    have h2 := h1.length_eq
    have h3 : AI d' i ++ (d'.toList.drop i).flatMap (fun r => r.c.it) = (d'.toList).flatMap fun r => r.c.it := by unfold AI; rw [← List.flatMap_append, List.take_append_drop]
    have h5 := congrArg List.length h3
    rw [List.length_append] at h5
    have h4 : (AI d' i).length ≤ ((d'.toList).flatMap fun r => r.c.it).length := Nat.le.intro h5
    rw [h2] at h4
    exact h4
  have HMEM : Hid (∀ i, i < N → ∃ x ∈ os, nth d' i = reF ys x) := fun i hi => by
    obtain ⟨x, hx, e⟩ := List.mem_map.1 (hperm.mem_iff.1 (List.mem_of_getElem? (nth_some (d := d') (i := i) (by rw [hds]; exact hi))))
    exact ⟨x, hx, e.symm⟩
  have HLF : Hid (LF w4 lb g N 0) := ⟨some ⟨g, 0, none⟩, cap, hlb, fun _ => by rw [Nat.zero_mul], by omega⟩
  obtain ⟨H4, hH4⟩ : ∃ H4, w4.heap.size = H4 := ⟨_, rfl⟩
  have HLBT : Hid (lb < H4 ∧ w.heap.size ≤ lb) := ⟨by rw [← hH4]; exact hlb.lt, hlw⟩
  have HW4 : Hid (w.heap.size ≤ H4) := by rw [← hH4]; exact b4.size
  have HGB : Hid _ := hgb
  have HNX : Hid _ := next_step lb g N 0 tl d' 9223372036854775807 w4 hgb HLF.out hds (Nat.zero_le _)
  have hlbg : lb ≠ g := fun e => by
    have h1 := hlb
    have h2 := hgb
    unfold Blk at h1 h2
    rw [e, h2] at h1
    injection h1 with h1
    injection h1 with _ h3
    cases h3
  have HLG : Hid (lb ≠ g) := hlbg
  clear hlb hgb hcap hperm hsor hds hgw hlw HFN hlbg
  go_wp2_with fail
  refine Calls.mono HNX.out ?_
  rintro e w5 ⟨⟨ok, a1, n1, c1, a2, n2, c2, rfl, hon, hoff⟩, hu⟩
  have g5 := Blk.updG HGB.out hu HLG.out.symm
  have b5 : Below w.heap.size w w5 := hu.below b4 b4.size HLBT.out.2
  have z5 : H4 ≤ w5.heap.size := by rw [← hH4]; exact hu.size
  have a6 := below_alloc w5 (.cells #[.slice a1 n1 c1, .slice a2 n2 c2] 68)
  have j6 : Blk (w5.alloc (.cells #[.slice a1 n1 c1, .slice a2 n2 c2] 68)) w5.heap.size #[.slice a1 n1 c1, .slice a2 n2 c2] 68 := Blk.new _ _ _
  have HTI : Hid (TI w H4 lb g N tl d' ys tag k (.slice none 0 0) 0 w5.heap.size ok 9223372036854775807 0 (w5.alloc (.cells #[.slice a1 n1 c1, .slice a2 n2 c2] 68))) := by
    have hX0 : XF ys tag k d' 0 = [] := by unfold XF AI; simp [xsOf, fnd, tk, srt]
    refine ⟨b5.trans (a6.mono b5.size), Nat.le_trans z5 a6.size, by rw [hX0]; exact ⟨rfl, Or.inl ⟨rfl, rfl⟩⟩, fun _ => rfl, ?_, by unfold AI; simp, g5.below a6 g5.lt, fun h => ?_, fun h => ?_⟩
    · rw [hX0]
      exact ⟨fun h => by simp at h; omega, fun _ => rfl⟩
    · obtain ⟨h1, h2, h3, _, h5⟩ := hon h
      refine ⟨h1, ?_, h5.below a6⟩
      rw [h2, h3] at j6
      rw [h2, h3]
      exact j6
    · exact ⟨Nat.zero_le _, (hoff h).1⟩
  clear hon hoff hu HNX HLF HGB g5 b5 j6
  go_wp2_with fail
  go_loopw [11, 12, 13, 15, 16, 17, 18] (fun v vl vF vx vok _ _ wr => ∃ (i xb : Nat) (ok : Bool) (F : Int) (lk : Nat), vl = .int .i64 lk ∧ vF = .int .i64 F ∧ vx = .pointer (some ⟨xb, 0, none⟩) ∧ vok = .bool ok ∧ Hid (TI w H4 lb g N tl d' ys tag k v i xb ok F lk wr)) (fun _ vl _ _ _ _ _ _ => 1000 - (intOf vl).toNat)
  case atStart => exact ⟨0, w5.heap.size, ok, 9223372036854775807, 0, rfl, rfl, rfl, rfl, HTI.out⟩
  case round =>
    clear HTI a6
    obtain ⟨i, xb, ok, F, lk, rfl, rfl, rfl, rfl, HT⟩ := hrel
    obtain ⟨av1, cv1, hv1⟩ := own_slice HT.out.row
    subst hv1
    cases ok with
    | false =>
      go_wp2_with fail
      go_ret3
      obtain ⟨h1, h2⟩ := HT.out.off rfl
      have hd := top_done HDS.out HPERM.out HSOR.out (fun x hx => (HS.out.cor x hx).2) HBIG.out HT.out.far h1 h2
      have hf := fnds_own HT.out.row
      refine ⟨⟨_, _, rfl, ?_, ?_, ?_⟩, HT.out.bel⟩
      · rw [← hd]; exact hf
      · omega
      · have h3 := HT.out.lk
        have h4 := HAI.out i
        show (lk : Int) ≤ _
        omega
    | true =>
      obtain ⟨hiN, hxb, hlf⟩ := HT.out.on rfl
      obtain ⟨x, hxo, hxe⟩ := HMEM.out i hiN
      rw [hxe] at hxb
      obtain ⟨X, hX⟩ : ∃ X, XF ys tag k d' i = X := ⟨_, rfl⟩
      have HX : Hid (XF ys tag k d' i = X) := hX
      have HXE : Hid (nth d' i = reF ys x) := hxe
      have hXl : X.length ≤ 60 := by rw [← hX]; unfold XF; rw [tk_len]; omega
      have HROW : Hid (wr.ownsRow H4 25 2 (.slice av1 X.length cv1) X.length (flatF X)) := by have h0 := HT.out.row; rw [hX] at h0; exact h0
      have HNIL : Hid (X = [] → Value.slice av1 X.length cv1 = .slice none 0 0) := by have h0 := HT.out.nil; rw [hX] at h0; exact h0
      rw [hX]
      have HLF : Hid (LF wr lb g N (i + 1)) := hlf
      have HLK : Hid (lk = (AI d' i).length) := HT.out.lk
      have HFAR : Hid (FarOk k X F) := by have h0 := HT.out.far; rw [hX] at h0; exact h0
      have HBG : Hid (Blk wr g (fl encR tl d') 99) := HT.out.bg
      have HSZ : Hid (H4 ≤ wr.heap.size) := HT.out.size
      have HBEL : Hid (Below w.heap.size w wr) := HT.out.bel
      have hlk : lk ≤ 100 := by have := HLK.out; have := HAI.out i; have := HIL.out; omega
      have HSW : Hid (CS wr C os) := CS.below HS.out HBEL.out
      have hokx : ∀ y ∈ x.it, y.Ok wr := fun y hy => ((HOK.out x hxo y hy).1).below HBEL.out
      have hnum : ∀ y ∈ x.it, y.x.nums.all numB = true ∧ y.x.nums.length ≤ 100 := fun y hy => (HOK.out x hxo y hy).2
      obtain ⟨ai, ci, hve, hIt⟩ := its_own (HSW.out.it x hxo) hokx
      have hxil : x.it.length ≤ 100 := Nat.le_trans (flatMap_len_le x hxo) HIL.out
      have hxip : 0 < x.it.length := List.length_pos_iff.2 (HSW.out.cor x hxo).1
      have hxb' : Blk wr xb #[.slice x.ca x.co.length x.cc, .slice x.ia x.it.length x.ic] 68 := hxb
      unfold CeD.e1 at hve
      injection hve with hve1 hve2 hve3
      rw [← hve1] at hIt
      have HIT : Hid (Its wr x.ia x.it) := hIt
      have HXB : Hid (Blk wr xb #[.slice x.ca x.co.length x.cc, .slice x.ia x.it.length x.ic] 68) := hxb'
      have HPC : Hid (∀ W, Below wr.heap.size wr W → W.cell? ⟨p, 0, none⟩ = some (.int .i64 dim)) := fun W hW => HP.out W (HBEL.out.trans (hW.mono HBEL.out.size))
      have HXC : Hid (∀ W, Below wr.heap.size wr W → W.cell? ⟨xb, 1, none⟩ = some (.slice x.ia x.it.length x.ic)) := fun W hW => (HXB.out.below hW HXB.out.lt).cell 1
      have HNUM : Hid _ := hnum
      clear HT hxb hlf hxe hX hokx hnum hve1 hve2 hve3 hIt hxb' hxo HSW
      go_wp2_with fail
      have s0 : Below wr.heap.size wr wr.drew := below_drewN (Below.refl _ _) 1
      refine regS_in 15 (fun W => Below wr.heap.size wr W) mixed rfl ?_
      refine regS_take 0 49 (.pointer (some ⟨p, 0, none⟩)) rfl rfl (by kernel_rfl) (fun _ _ _ h => h) (by kernel_rfl) (fun W hW => by go_simp) s0 ?_
      refine regS_take 1 50 (.pointer (some ⟨p, 0, none⟩)) rfl rfl (by kernel_rfl) (fun _ _ _ h => h) (by kernel_rfl) (fun W hW => by go_simp) s0 ?_
      refine regS_take 2 51 (.pointer (some ⟨p, 0, none⟩)) rfl rfl (by kernel_rfl) (fun _ _ _ h => h) (by kernel_rfl) (fun W hW => by go_simp) s0 ?_
      refine regS_take 3 52 (.int .i64 dim) rfl rfl (by kernel_rfl) (fun _ _ _ h => h) (by kernel_rfl) (fun W hW => by have a0 := HPC.out W hW; go_simp) s0 ?_
      refine regS_take 4 53 (.pointer (some ⟨xb, 1, none⟩)) rfl rfl (by kernel_rfl) (fun _ _ _ h => h) (by kernel_rfl) (fun W hW => by go_simp) s0 ?_
      refine regS_take 5 54 (.slice x.ia x.it.length x.ic) rfl rfl (by kernel_rfl) (fun _ _ _ h => h) (by kernel_rfl) (fun W hW => by have a0 := HXC.out W hW; go_simp) s0 ?_
      refine regS_take 6 55 (.slice b ys.length d) rfl rfl (by kernel_rfl) (fun _ _ _ h => h) (by kernel_rfl) (fun W hW => by go_simp) s0 ?_
      refine regS_take 7 56 (.int .i64 (k : Int)) rfl rfl (by kernel_rfl) (fun _ _ _ h => h) (by kernel_rfl) (fun W hW => by go_simp) s0 ?_
      refine regS_take 8 57 (.string tag) rfl rfl (by kernel_rfl) (fun _ _ _ h => h) (by kernel_rfl) (fun W hW => by go_simp) s0 ?_
      simp only [Act.put, List.setIfInBounds_toArray, List.set_cons_succ, List.set_cons_zero]
      refine regS_one 9 rfl (by kernel_rfl) (by kernel_rfl) (fun K hK => ?_)
      have HTO : Hid _ := top_ok dim x.ia x.ic x.it b d ys (k : Int) tag wr.drew (HIT.out.below s0) hxil (Ints.below HY.out (HBEL.out.trans (s0.mono HBEL.out.size))) hyl HASK.out HNUM.out
      go_wp2_with fail
      refine Calls.mono HTO.out ?_
      rintro e w6 ⟨⟨v2, rfl, hF2⟩, g6⟩
      rw [Int.toNat_natCast] at hF2
      have s1 := s0.trans (g6.mono s0.size)
      refine hK _ _ s1 ?_
      clear hK K HTO g6 s0
      refine regS_take 10 48 (.tuple #[v2, .nilIface]) rfl rfl (by kernel_rfl) (fun _ _ _ h => h) (by kernel_rfl) (fun W hW => by go_simp) s1 ?_
      refine regS_take 11 59 (v2) rfl rfl (by kernel_rfl) (fun _ _ _ h => h) (by kernel_rfl) (fun W hW => by go_simp) s1 ?_
      refine regS_take 12 60 (.nilIface) rfl rfl (by kernel_rfl) (fun _ _ _ h => h) (by kernel_rfl) (fun W hW => by go_simp) s1 ?_
      refine regS_take 13 17 (v2) rfl rfl (by kernel_rfl) (fun _ _ _ h => h) (by kernel_rfl) (fun W hW => by go_simp) s1 ?_
      refine regS_take 14 18 (.nilIface) rfl rfl (by kernel_rfl) (fun _ _ _ h => h) (by kernel_rfl) (fun W hW => by go_simp) s1 ?_
      refine regS_end (by kernel_rfl) ?_
      simp only [Act.put, List.setIfInBounds_toArray, List.set_cons_succ, List.set_cons_zero]
      obtain ⟨F2, hF2e⟩ : ∃ F2, tk k (fnd ys tag (xsOf x.it)) = F2 := ⟨_, rfl⟩
      have HF2 : Hid (Fnds w6 v2 F2) := by rw [← hF2e]; exact hF2
      have hF2l : F2.length ≤ 60 := by rw [← hF2e, tk_len]; omega
      have HXS : Hid (tk k (X ++ F2) = XF ys tag k d' (i + 1)) := by
        have h0 := XF_succ (ys := ys) (tag := tag) (k := k) (d' := d') (i := i) (by rw [HDS.out]; exact hiN)
        rw [HX.out, HXE.out] at h0
        rw [← hF2e]; exact h0
      have HR6 : Hid (w6.ownsRow H4 25 2 (.slice av1 X.length cv1) X.length (flatF X)) := ownsRow_below HROW.out s1
      have HX6 : Hid (Blk w6 xb #[.slice x.ca x.co.length x.cc, .slice x.ia x.it.length x.ic] 68) := HXB.out.below s1 HXB.out.lt
      have HG6 : Hid (Blk w6 g (fl encR tl d') 99) := HBG.out.below s1 HBG.out.lt
      have HL6 : Hid (LF w6 lb g N (i + 1)) := HLF.out.below s1
      have HB6 : Hid (Below w.heap.size w w6) := HBEL.out.trans (s1.mono HBEL.out.size)
      have HZ6 : Hid (H4 ≤ w6.heap.size) := Nat.le_trans HSZ.out s1.size
      clear hF2 hF2e s1 HPC HXC HROW HXB HBG HLF HBEL HSZ HIT
      go_upto_region 14 with fail
      go_cut [11] from 64 to 68 (fun v wx => ∃ a3 n3 c3, v = .slice a3 n3 c3 ∧ Hid (n3 = (XF ys tag k d' (i + 1)).length) ∧ Hid (wx.ownsRow H4 25 2 (.slice a3 n3 c3) n3 (flatF (XF ys tag k d' (i + 1)))) ∧ Hid (XF ys tag k d' (i + 1) = [] → Value.slice a3 n3 c3 = .slice none 0 0) ∧ Hid (Below w.heap.size w wx ∧ H4 ≤ wx.heap.size) ∧ Hid (Blk wx xb #[.slice x.ca x.co.length x.cc, .slice x.ia x.it.length x.ic] 68) ∧ Hid (Blk wx g (fl encR tl d') 99) ∧ Hid (LF wx lb g N (i + 1)))
      case first =>
        have hr6 := HR6.out
        have hf6 := HF2.out
        have hz6 := HZ6.out
        go_wp2_with (first
          | (refine wpl_appF rfl _ _ 31 rfl H4 25 Tryd.underlying31 infoF (.slice av1 X.length cv1) v2 X F2 rfl hr6 rfl hf6 (by omega) hz6 ?_; intro v7 w7 ow7 gr7 hn7)
          | fail)
        have hxb7 := blk_grown HX6.out gr7 (blk_apart HX6.out HR6.out (by decide))
        have hg7 := blk_grown HG6.out gr7 (blk_apart HG6.out HR6.out (by decide))
        have hlf7 : LF w7 lb g N (i + 1) := by
          obtain ⟨q, c, h1, h2, h3⟩ := HL6.out
          exact ⟨q, c, blk_grown h1 gr7 (blk_apart h1 HR6.out (by decide)), h2, h3⟩
        have hb7 : Below w.heap.size w w7 := HB6.out.grown gr7 HB6.out.size (fun q hq => Nat.le_trans HW4.out (row_ownLt HR6.out q hq).1)
        have hz7 : H4 ≤ w7.heap.size := Nat.le_trans HZ6.out gr7.size
        by_cases hY : X ++ F2 = []
        · have hXe := (List.append_eq_nil_iff.1 hY).1
          have hFe := (List.append_eq_nil_iff.1 hY).2
          have hv7 := hn7 (HNIL.out hXe) hFe
          subst hv7
          have hX' : XF ys tag k d' (i + 1) = [] := by rw [← HXS.out, hY]; simp [tk, srt]
          refine (nearest_nil k w7 hk2).mono ?_
          rintro e w8 ⟨rfl, hw8⟩
          obtain rfl : w7 = w8 := hw8.symm
          clear ow7 gr7 hn7 hw8 hXe hFe hY
          go_wp2_with fail
          go_meet
          exact ⟨none, 0, 0, rfl, by unfold Hid; rw [hX']; rfl, by unfold Hid; rw [hX']; exact ⟨rfl, Or.inl ⟨rfl, rfl⟩⟩, fun _ => rfl, ⟨hb7, hz7⟩, hxb7, hg7, hlf7⟩
        · have hYl : 0 < (X ++ F2).length := List.length_pos_iff.2 hY
          have hYl2 : (X ++ F2).length ≤ 1000 := by rw [List.length_append]; omega
          obtain ⟨g7, cap7, cur7, rfl, hgB7, hgl7, _⟩ := own_parts ow7 (by omega)
          refine (nearest_any H4 g7 cap7 (X ++ F2) k w7 ow7 hYl hYl2).mono ?_
          rintro e w8 ⟨rfl, ow8, gr8⟩
          have hm8 : min k (X ++ F2).length = (XF ys tag k d' (i + 1)).length := by rw [← HXS.out, tk_len]
          rw [hm8, HXS.out] at ow8
          rw [hm8]
          have hxb8 := blk_grown hxb7 gr8 (blk_apart hxb7 ow7 (by decide))
          have hg8 := blk_grown hg7 gr8 (blk_apart hg7 ow7 (by decide))
          have hlf8 : LF w8 lb g N (i + 1) := by
            obtain ⟨q, c, h1, h2, h3⟩ := hlf7
            exact ⟨q, c, blk_grown h1 gr8 (blk_apart h1 ow7 (by decide)), h2, h3⟩
          have hb8 : Below w.heap.size w w8 := hb7.grown gr8 hb7.size (fun q hq => by injection hq with hq; subst hq; exact Nat.le_trans HW4.out hgB7)
          have hz8 : H4 ≤ w8.heap.size := Nat.le_trans hz7 gr8.size
          have HO8 : Hid _ := ow8
          have hne : XF ys tag k d' (i + 1) ≠ [] := fun e0 => by
            have h1 : min k (X ++ F2).length = 0 := by rw [hm8, e0]; rfl
            omega
          clear ow7 gr7 hn7 gr8 hgB7 hgl7 hY hYl hYl2 ow8
          go_wp2_with fail
          go_meet
          exact ⟨_, _, _, rfl, rfl, HO8.out, fun e0 => absurd e0 hne, ⟨hb8, hz8⟩, hxb8, hg8, hlf8⟩
      case rest =>
        obtain ⟨a3, n3, c3, rfl, HN3, HR7, HNL7, HB7, HX7, HG7, HL7⟩ := hcut
        obtain ⟨w8, hw8⟩ : ∃ x, x = wc := ⟨_, rfl⟩
        subst hw8
        have hn3 : n3 ≤ 60 := by rw [HN3.out]; unfold XF; rw [tk_len]; omega
        have HMONO : Hid (n3 ≠ k → X.length ≠ k) := fun h e => h (by rw [HN3.out, ← HXS.out, tk_len, List.length_append]; omega)
        clear HF2 HR6 HX6 HG6 HL6 HB6 HZ6 HNIL
        go_upto_if 72 with fail
        go_cut [13] from 72 to 78 (fun vF wx => ∃ F' : Int, vF = .int .i64 F' ∧ Hid (FarOk k (XF ys tag k d' (i + 1)) F') ∧ wx = w8)
        case first =>
          by_cases hkx : n3 = k
          · have hq : ((n3 : Int) == (k : Int)) = true := by rw [beq_iff_eq]; omega
            obtain ⟨k1, hk3⟩ : ∃ k1 : Nat, k = k1 + 1 := ⟨k - 1, by omega⟩
            have i1 : (k : Int) - 1 = (k1 : Int) := by omega
            have x1 : IntKind.i64.wrap (k1 : Int) = (k1 : Int) := by rw [IntKind.wrap_i64]; omega
            have i2 : (k1 : Int) < (n3 : Int) := by omega
            obtain ⟨gg, _, _, hv3, _, _, _⟩ := own_parts HR7.out (by omega)
            injection hv3 with hv31 hv32 hv33
            subst hv31 hv33
            obtain ⟨y, hy⟩ : ∃ y, (XF ys tag k d' (i + 1))[k1]? = some y := ⟨_, List.getElem?_eq_getElem (by rw [← HN3.out]; omega)⟩
            have cy : w8.cell? ⟨gg, k1 * 2 + 1, none⟩ = some (.int .i64 y.2) := row_cell HR7.out _ _ (flatF_cell _ _ _ hy).2
            have HY1 : Hid ((XF ys tag k d' (i + 1))[k - 1]? = some y) := by rw [show k - 1 = k1 from by omega]; exact hy
            have HKX : Hid (n3 = k) := hkx
            clear hkx hk3 hy
            go_wp2_with fail
            go_meet
            exact ⟨y.2, rfl, ⟨fun _ => ⟨y, HY1.out, rfl⟩, fun h => absurd (HN3.out.symm.trans HKX.out) h⟩, rfl⟩
          · have hq : ((n3 : Int) == (k : Int)) = false := by rw [beq_eq_false_iff_ne]; omega
            have HKX : Hid (n3 ≠ k) := hkx
            clear hkx
            go_wp2_with fail
            go_meet
            exact ⟨F, rfl, ⟨fun h => absurd (HN3.out.trans h) HKX.out, fun _ => HFAR.out.2 (HMONO.out HKX.out)⟩, rfl⟩
        case rest =>
        obtain ⟨F', rfl, HFAR', hwc⟩ := hcut
        obtain rfl : w8 = wc := hwc.symm
        clear hwc
        have c0 := HX7.out.cell 0
        have c1x := HX7.out.cell 1
        have xl : IntKind.i64.wrap ((lk : Int) + (x.it.length : Int)) = (lk : Int) + (x.it.length : Int) := by rw [IntKind.wrap_i64]; omega
        have a9 := below_alloc w8 (.cells #[.slice x.ca x.co.length x.cc, .slice x.ia x.it.length x.ic] 68)
        have j9 : Blk (w8.alloc (.cells #[.slice x.ca x.co.length x.cc, .slice x.ia x.it.length x.ic] 68)) w8.heap.size #[.slice x.ca x.co.length x.cc, .slice x.ia x.it.length x.ic] 68 := Blk.new _ _ _
        have hL9 := HL7.out.below a9
        have hG9 := HG7.out.below a9 HG7.out.lt
        have hR9 := ownsRow_below HR7.out a9
        have HNX : Hid _ := next_step lb g N (i + 1) tl d' F' (w8.alloc (.cells #[.slice x.ca x.co.length x.cc, .slice x.ia x.it.length x.ic] 68)) hG9 hL9 HDS.out (by omega)
        have hlb8 : lb < w8.heap.size := Nat.lt_of_lt_of_le HLBT.out.1 HB7.out.2
        have HR9 : Hid ((w8.alloc (.cells #[.slice x.ca x.co.length x.cc, .slice x.ia x.it.length x.ic] 68)).ownsRow H4 25 2 (.slice a3 n3 c3) n3 (flatF (XF ys tag k d' (i + 1)))) := hR9
        have HRL : Hid ((Value.slice a3 n3 c3).ownBlock ≠ some lb) := by
          obtain ⟨q, c, h1, _⟩ := hL9
          exact blk_apart h1 hR9 (by decide)
        have HB9 : Hid (Below w.heap.size w (w8.alloc (.cells #[.slice x.ca x.co.length x.cc, .slice x.ia x.it.length x.ic] 68))) := HB7.out.1.trans (a9.mono HB7.out.1.size)
        have HG9 : Hid (Blk (w8.alloc (.cells #[.slice x.ca x.co.length x.cc, .slice x.ia x.it.length x.ic] 68)) g (fl encR tl d') 99) := hG9
        have HJ9 : Hid _ := j9
        have HZ9 : Hid (H4 ≤ (w8.alloc (.cells #[.slice x.ca x.co.length x.cc, .slice x.ia x.it.length x.ic] 68)).heap.size) := Nat.le_trans HB7.out.2 a9.size
        have HG8 : Hid (g < w8.heap.size) := HG7.out.lt
        clear a9 j9 hL9 hG9 hR9 HL7 HG7 HX7 HR7
        go_wp2_with fail
        refine Calls.mono HNX.out ?_
        rintro e w9 ⟨⟨ok9, p1, m1, q1, p2, m2, q2, rfl, hon, hoff⟩, hu⟩
        have j9 := Blk.updG HJ9.out hu (by omega)
        have d0 := j9.cell 0
        have d1 := j9.cell 1
        have f0 : w9.frozen? ⟨w8.heap.size, 0, none⟩ = false := j9.frozen 0
        have e1 := (j9.set 0 (.slice p1 m1 q1)).cell 1
        have f1 : (w9.setCell ⟨w8.heap.size, 0, none⟩ (.slice p1 m1 q1)).frozen? ⟨w8.heap.size, 1, none⟩ = false := (j9.set 0 (.slice p1 m1 q1)).frozen 1
        have hj10 : Blk ((w9.setCell ⟨w8.heap.size, 0, none⟩ (.slice p1 m1 q1)).setCell ⟨w8.heap.size, 1, none⟩ (.slice p2 m2 q2)) w8.heap.size #[.slice p1 m1 q1, .slice p2 m2 q2] 68 := (j9.set 0 (.slice p1 m1 q1)).set 1 (.slice p2 m2 q2)
        have hu2 := updG_two w9 w8.heap.size (.slice p1 m1 q1) (.slice p2 m2 q2)
        have hr9 := own_kept HR9.out (updG_grown hu) (Or.inr HRL.out)
        have hr10 := own_kept hr9 (updG_grown hu2) (Or.inr (blk_apart j9 hr9 (by decide)))
        have hg10 := Blk.updG (Blk.updG HG9.out hu HLG.out.symm) hu2 (by have := HG8.out; omega)
        have hb9 := hu.below HB9.out HB9.out.size HLBT.out.2
        have hb10 := hu2.below hb9 hb9.size (Nat.le_trans HW4.out HB7.out.2)
        have HTI : Hid (TI w H4 lb g N tl d' ys tag k (.slice a3 n3 c3) (i + 1) w8.heap.size ok9 F' (lk + x.it.length) ((w9.setCell ⟨w8.heap.size, 0, none⟩ (.slice p1 m1 q1)).setCell ⟨w8.heap.size, 1, none⟩ (.slice p2 m2 q2))) := by
          refine ⟨hb10, Nat.le_trans HZ9.out (Nat.le_trans hu.size hu2.size), by rw [← HN3.out]; exact hr10, HNL7.out, HFAR'.out, ?_, hg10, fun h => ?_, fun h => ?_⟩
          · rw [AI_succ (by rw [HDS.out]; exact hiN), List.length_append, ← HLK.out, HXE.out]; rfl
          · obtain ⟨h1, h2, h3, _, h5⟩ := hon h
            refine ⟨h1, ?_, h5.updG hu2 (by omega)⟩
            rw [h2, h3] at hj10
            rw [h2, h3]
            exact hj10
          · exact ⟨by omega, (hoff h).1⟩
        clear hon hoff hu hu2 hr9 hr10 hg10 hb9 hb10 hj10 j9
        go_wp2_with fail
        exact ⟨⟨i + 1, w8.heap.size, ok9, F', lk + x.it.length, by go_num, rfl, rfl, rfl, HTI.out⟩, by simp [intOf]; omega⟩
end Go.Proofs.YtamalmgfhpneaaaDoor.Ce
namespace Go.Proofs.YtamalmgfhpneaaaDoor
open Go.RowKit Go.Extern.Stop Go.Stop Go.Extern
/-- The handle of a type. -/
abbrev hnd (t : Nat) : Value := .pointer (some ⟨2, t, none⟩)
theorem r_valueP (t : Addr) (w : World) : (ReflectliteValue.unpack (.iface 81 (.pointer (some t)))).run Tryd.prog w
    = .ok (.agg #[hnd 81, .pointer (some ⟨w.heap.size, 0, none⟩), .int .u64 150]) (w.alloc (.cells #[.pointer (some t)] 81)) := by kernel_rfl
theorem r_valueE (n : Int) (w : World) : (ReflectliteValue.unpack (.iface 32 (.int .i64 n))).run Tryd.prog w
    = .ok (.agg #[hnd 32, .pointer (some ⟨w.heap.size, 0, none⟩), .int .u64 130]) (w.alloc (.cells #[.int .i64 n] 32)) := by kernel_rfl
theorem r_typeP (a : Addr) (w : World) : (ReflectliteValue.methodAny (ReflectliteValue.valueError "reflectlite.Value.Type" 0) (fun t _ _ _ => ReflectliteType.toType t) #[.agg #[hnd 81, .pointer (some a), .int .u64 150]]).run Tryd.prog w
    = .ok (.iface 132 (.agg #[hnd 81])) w := by kernel_rfl
theorem r_mKind (h : Value) (w : World) : (Go.method 283 132 (.agg #[h]) "Kind").run Tryd.prog w = .ok (115, h) w := by kernel_rfl
theorem r_mElem (h : Value) (w : World) : (Go.method 283 132 (.agg #[h]) "Elem").run Tryd.prog w = .ok (127, .agg #[h]) w := by kernel_rfl
theorem r_mImpl (h : Value) (w : World) : (Go.method 283 132 (.agg #[h]) "Implements").run Tryd.prog w = .ok (128, .agg #[h]) w := by kernel_rfl
theorem r_mAssign (h : Value) (w : World) : (Go.method 283 132 (.agg #[h]) "AssignableTo").run Tryd.prog w = .ok (125, .agg #[h]) w := by kernel_rfl
theorem r_kindP (w : World) : ((ReflectliteType.abiMethod fun t => (fun a : Nat => Value.int IntKind.u8 (a : Int)) <$> Rtype.kind t) #[hnd 81]).run Tryd.prog w = .ok (.int .u8 22) w := by kernel_rfl
theorem r_kindE (w : World) : ((ReflectliteType.abiMethod fun t => (fun a : Nat => Value.int IntKind.u8 (a : Int)) <$> Rtype.kind t) #[hnd 32]).run Tryd.prog w = .ok (.int .u8 2) w := by kernel_rfl
theorem r_elemP (w : World) : (ReflectliteType.method ReflectliteType.elem #[.agg #[hnd 81]]).run Tryd.prog w = .ok (.iface 132 (.agg #[hnd 32])) w := by kernel_rfl
theorem r_implE (w : World) : (ReflectliteType.relation "Implements" ReflectliteType.implements_ #[.agg #[hnd 32], .iface 132 (.agg #[hnd 36])]).run Tryd.prog w = .ok (.bool true) w := by kernel_rfl
theorem r_typeOfE (v : Value) (w : World) : (ReflectliteType.typeOf #[.iface 32 v]).run Tryd.prog w = .ok (.iface 132 (.agg #[hnd 32])) w := by kernel_rfl
theorem r_assignE (w : World) : (ReflectliteType.relation "AssignableTo" ReflectliteType.assignableTo #[.agg #[hnd 32], .iface 132 (.agg #[hnd 32])]).run Tryd.prog w = .ok (.bool true) w := by kernel_rfl
theorem r_partsP (a : Addr) (w : World) : (ReflectliteValue.parts (.agg #[hnd 81, .pointer (some a), .int .u64 150])).run Tryd.prog w = .ok (some (81, a, 150)) w := by kernel_rfl
theorem r_partsE (a : Addr) (w : World) : (ReflectliteValue.parts (.agg #[hnd 32, .pointer (some a), .int .u64 130])).run Tryd.prog w = .ok (some (32, a, 130)) w := by kernel_rfl
theorem r_partsA (a : Addr) (w : World) : (ReflectliteValue.parts (.agg #[hnd 32, .pointer (some a), .int .u64 386])).run Tryd.prog w = .ok (some (32, a, 386)) w := by kernel_rfl
theorem r_elemT (w : World) : (Rtype.elem? 81).run Tryd.prog w = .ok (some 32) w := by kernel_rfl
theorem r_mkE (p : Addr) (w : World) : (ReflectliteValue.mk 32 p ReflectliteValue.flagAddr).run Tryd.prog w = .ok (.agg #[hnd 32, .pointer (some p), .int .u64 386]) w := by kernel_rfl
theorem r_directE (w : World) : (Rtype.directlyAssignable 32 32).run Tryd.prog w = .ok true w := by kernel_rfl
theorem r_sizeE (w : World) : (sizeOf 32).run Tryd.prog w = .ok 1 w := by kernel_rfl
end Go.Proofs.YtamalmgfhpneaaaDoor
