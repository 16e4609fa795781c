/-
  Part of the proof: VaultWhole is walked.
-/
import Derived.Test.YtkapkphhceknfaaGreatDoorB32
import Derived.Test.YtkapkphhceknfaaGreatDoorB16
import Derived.Deep.CutRange
namespace Go.Proofs.YtkapkphhceknfaaGreatDoor.Vt
open Go.RowKit
set_option maxRecDepth 100000 in
set_option maxHeartbeats 1000000 in
theorem whole_law (a : Option Addr) (cap : Nat) (L : List (Option Addr × Nat × List ByteArray)) (ma : Option Addr) (mcap : Nat) (ms : List ByteArray) (turn : Bool) (fu : Int) (ka : Option Addr) (kc : Nat) (ks : List Bool) (w : World) (hL : Lst w a L) (hl : L.length ≤ maxLen) (hM : Dv.Texts w (fun _ => False) ma ms) (hml : ms.length ≤ maxLen) (hms : ∀ s ∈ ms, s.size ≤ maxLen)
    (hks : ∀ i x, ks[i]? = some x → ∃ kb ko, ka = some ⟨kb, ko, none⟩ ∧ kb < w.heap.size ∧ w.cell? ⟨kb, ko + i, none⟩ = some (.bool x)) (hK : Sm.KB w) (hE : EB w) :
    Calls Tryz.prog 3 #[.slice a L.length cap, .slice ma ms.length mcap, .bool turn, .int .i64 fu, .slice ka ks.length kc] w fun e w' => e = .returned (.bool true) ∧ Below w.heap.size w w' := by
  cases hok : lsB L with
  | false =>
    go_enter Tryz.func3, Tryz.ntmps3
    go_wp2_with fail
    refine (lists_any a cap L w hL hl).mono ?_
    rintro e w' ⟨rfl, rfl⟩
    rw [hok]
    go_wp2_with fail
    go_ret
    exact ⟨rfl, Below.refl _ _⟩
  | true =>
    have s1 := Pg.below_alloc w (.cells #[.slice ma ms.length mcap] 23)
    have hL2 : Lst (w.alloc (.cells #[.slice ma ms.length mcap] 23)) (some ⟨w.heap.size, 0, none⟩) [(ma, mcap, ms)] := fun i x hx => by
      obtain rfl : i = 0 := by have := (List.getElem?_eq_some_iff.1 hx).1; simpa using this
      simp at hx
      subst hx
      exact ⟨w.heap.size, 0, rfl, by simp, by rw [(Blk.new w #[.slice ma ms.length mcap] 23).cell]; rfl, hM.chg ((Dv.Chg.refl w (fun _ => False)).below s1) (fun _ _ h => h), hml, hms⟩
    have Hl2 := lists_any (some ⟨w.heap.size, 0, none⟩) 1 [(ma, mcap, ms)] _ hL2 (show 1 ≤ maxLen by decide)
    have Hlists := lists_any a cap L w hL hl
    rw [hok] at Hlists
    have HL2 : Hid _ := Hl2
    clear Hl2 hL2
    cases hok2 : lsB [(ma, mcap, ms)] with
    | false =>
      go_enter Tryz.func3, Tryz.ntmps3
      go_wp2_with fail
      refine Hlists.mono ?_
      rintro e w' ⟨rfl, hw'⟩
      obtain rfl : w = w' := hw'.symm
      clear hw' Hlists
      go_wp2_with fail
      refine Calls.mono HL2.out ?_
      rintro e w' ⟨rfl, rfl⟩
      rw [hok2]
      go_wp2_with fail
      go_ret
      exact ⟨rfl, s1⟩
    | true =>
      by_cases hk80 : ks.length ≤ 80
      rotate_left
      · have hk80' : (80 : Int) < (ks.length : Int) := by omega
        rw [hok2] at HL2
        clear hok hL hl hok2 hM hms hml hks
        go_enter Tryz.func3, Tryz.ntmps3
        go_wp2_with fail
        refine Hlists.mono ?_
        rintro e w' ⟨rfl, hw'⟩
        obtain rfl : w = w' := hw'.symm
        clear hw' Hlists
        go_wp2_with fail
        refine Calls.mono HL2.out ?_
        rintro e w' ⟨rfl, rfl⟩
        go_wp2_with fail
        go_ret
        exact ⟨rfl, s1⟩
      have hk80' : (ks.length : Int) ≤ 80 := by omega
      obtain ⟨sec, hsec⟩ : ∃ sec : ByteArray, Hid (sec = ⟨#[48, 49, 50, 51, 52, 53, 54, 55, 56, 57, 97, 98, 99, 100, 101, 102]⟩) := ⟨_, rfl⟩
      have hs16 : sec.size = 16 := by rw [hsec.out]; rfl
      have hL8 := (lsB_ok hok).1
      have HMS : Hid (∀ s ∈ ms, s.size ≤ 200) := fun s hs => ((lsB_ok hok2).2 _ (List.mem_singleton.2 rfl)).2 s hs
      have hms6 : ms.length ≤ 6 := ((lsB_ok hok2).2 _ (List.mem_singleton.2 rfl)).1
      rw [hok2] at HL2
      have Hlaid := fun (w1 : World) (g1 : Below w.heap.size w w1) => laid_any a cap L w1 (hL.below g1) hok (hK.below g1) sec hsec.out
      have HLA : Hid _ := Hlaid
      have HPG : Hid (∀ w1, Below w.heap.size w w1 → Dv.Texts w1 (fun _ => False) ma ms) := fun w1 g1 => hM.chg ((Dv.Chg.refl w (fun _ => False)).below g1) (fun _ _ h => h)
      have HKS : Hid (∀ i x, ks[i]? = some x → ∃ kb ko, ka = some ⟨kb, ko, none⟩ ∧ kb < w.heap.size ∧ w.cell? ⟨kb, ko + i, none⟩ = some (.bool x)) := hks
      clear Hlaid hok hL hl hok2 hM hms hml hks
      go_enter Tryz.func3, Tryz.ntmps3
      go_wp2_with fail
      refine Hlists.mono ?_
      rintro e w' ⟨rfl, hw'⟩
      obtain rfl : w = w' := hw'.symm
      clear hw' Hlists
      go_wp2_with fail
      refine Calls.mono HL2.out ?_
      rintro e w' ⟨rfl, hw'⟩
      obtain rfl := hw'
      clear HL2
      go_wp2_with fail
      generalize w.alloc (.cells #[.slice ma ms.length mcap] 23) = wb at *
      refine (kept_any wb (hK.below s1)).mono ?_
      rintro e w1 ⟨rfl, g1'⟩
      have g1 := s1.trans (g1'.mono s1.size)
      clear g1' s1
      go_wp2_with fail
      refine Calls.mono (HLA.out w1 g1) ?_
      rintro e w2 ⟨D, C, VB, CB, nn, O, dv, lf, S, f, p, r, vH, vI, hs, rfl, hd, hhs, hnn, y, hy, hyp⟩
      have b2 := g1.trans (hd.bel.mono g1.size)
      have rH : w2.ownsRow w1.heap.size 23 1 vH (L.length + 1) (hs.map Hs.v) := by have h := hd.rowH; rwa [List.length_map, hhs] at h
      obtain ⟨gH, cH, rfl, _, gH', cellH⟩ := row_val rH (by omega)
      have cH1 : w2.cell? ⟨gH, L.length, none⟩ = some (.slice (some ⟨y.H, 0, none⟩) 32 y.hc) := cellH L.length _ (by rw [List.getElem?_map, hy]; rfl)
      have hHad := (hd.each _ y hy).had
      have hHadO := (hd.each _ y hy).hadO
      have hHl := (hd.each _ y hy).lt
      rw [hyp] at hHad
      obtain ⟨yS, yf, yp, yH, yc, yG⟩ := y
      simp only [Hs.v] at cH1 hHad hHadO hHl
      clear HLA cellH rH hy hyp
      go_wp2_with fail
      refine (slclone_any w1.heap.size yH yc (txt p) w2 hHad).mono ?_
      rintro e w3 ⟨⟨gA, cA, rfl, hA3, hgA⟩, g3⟩
      have hB3 : Aft w3 yH (txt p) := Aft.of_row (row_below hHad g3)
      have hd3 := hd.below g3
      have hOD := hd3.dev.own
      have lD := (hd.own D hd.dev.own).2
      have lC := hd.cnt.lt
      have lV := hd.vlt.blk.lt
      clear hHad cH1
      go_wp2_with fail
      refine (pickJ_any fu 40 w3 (by decide) (by decide)).mono ?_
      rintro e w4 ⟨j, rfl, hj, hw4⟩
      obtain rfl : w3 = w4 := hw4.symm
      clear hw4
      go_wp2_with fail
      refine (Dv.fuse_any D O S [] (-1) dv lf (j : Int) w3 hd3.dev (by omega)).mono ?_
      rintro e w5 ⟨rfl, ⟨l5, hD5⟩, hu5⟩
      have nVB : VB ≠ D := fun e => hd3.o1 (e ▸ hOD)
      have nC : C ≠ D := fun e => hd3.o2 (e ▸ hOD)
      have nCB : CB ≠ D := fun e => map_ne_cells hd3.vlt.map hd3.dev.blk e.symm
      have nA : gA ≠ D := by omega
      have nB : yH ≠ D := fun e => hHadO (Or.inl (e ▸ hOD))
      have hV5 := hd3.vlt.upd hu5 nVB nCB
      have hC5 : Dv.Cnt w5 C (L.length : Int) := hd3.cnt.upd hu5 nC
      have c5 : Dv.Chg w3 w5 (fun k => k = D) := (Dv.Chg.refl _ _).upd hu5 (Or.inl rfl)
      have hA5 := hA3.chg c5 nA
      have hB5 := hB3.chg c5 nB
      have hz1 := g1.size
      have hloD := (hd.own D hd.dev.own).1
      have lo3 : Below w.heap.size w w3 := g1.trans (hd3.bel.mono g1.size)
      have lo5 : Below w.heap.size w w5 := c5.to lo3 lo3.size (fun q hq => by subst hq; omega)
      have hX5 : Fz.At ⟨S, [], Dv.fuseTo (j : Int), false⟩ w5 O D := ⟨dv, l5, hD5⟩
      have hT := hd.tld
      have hz3 := g3.size
      have hz5 := c5.size
      have HO5 : Hid (∀ k, O k → w.heap.size ≤ k ∧ k < w5.heap.size) := fun k hk => by have := (hd3.own k hk).1; have := (hd3.own k hk).2; omega
      have HN : Hid (¬ O VB ∧ ¬ O C ∧ VB ≠ C ∧ ¬ O gA ∧ ¬ O yH ∧ w.heap.size ≤ C ∧ w.heap.size ≤ VB ∧ C ≠ gA ∧ C ≠ yH ∧ VB ≠ gA ∧ VB ≠ yH ∧ C < w5.heap.size) := ⟨hd.o1, hd.o2, hd.o3, fun h => by have := (hd.own gA h).2; omega, fun h => hHadO (Or.inl h), by have := hd.lo.1; omega, by have := hd.lo.2; omega, by omega, fun e => hHadO (Or.inr (Or.inl e.symm)), by omega, fun e => hHadO (Or.inr (Or.inr e.symm)), by omega⟩
      have HCC : Hid (w.heap.size ≤ C) := HN.out.2.2.2.2.2.1
      have HGA : Hid (gA ≠ yH ∧ w.heap.size ≤ gA) := ⟨by omega, by have := g1.size; have := hd.bel.size; omega⟩
      clear hd hd3 hD5 hu5 nVB nC nCB nA nB c5 hA3 hB3 hloD lo3 hHadO hHl hgA lD lC lV g3 hOD gH' b2 hz3 hz5 hj
      generalize Dv.fuseTo (j : Int) = F at *
      go_upto_if 62 with fail
      go_cut [18, 19, 20] from 62 to 84 (fun e18 _ _ wx => ∃ (t : Int → Option (Int × ByteArray)) (en : Int) (y : Fz), e18 = errF y.b ∧ Cutd w wx D C VB gA yH sec L.length S f p t en y ∧ Hid (1 ≤ en ∧ en ≤ 2))
      case first =>
        obtain ⟨o1, o2, o3, oA, oB, hlC, hlV, cA, cB, vA, vB, hlC5⟩ := HN.out
        have HN' : Hid _ := HN
        cases turn with
        | true =>
          obtain ⟨t, ht⟩ : ∃ t, Hid (t = trn p ((L.length + 1 : Nat) : Int) 32) := ⟨_, rfl⟩
          obtain ⟨y, hy⟩ : ∃ y, Hid (y = Fz.all ⟨S, [], F, false⟩ (sl (epoK sec 2) (nxF f t) t 32) ((L.length + 1) % 2) (Su.allT (supK sec) ((L.length + 1 : Nat) : Int) 2 (nxF f t) (rootP (nxP p t)))) := ⟨_, rfl⟩
          have HX : Hid _ := hX5
          clear hX5 o1 o2 o3 oA oB hlC hlV cA cB vA vB hlC5
          go_wp2_with fail
          obtain ⟨o1, o2, o3, oA, oB, hlC, hlV, cA, cB, vA, vB, hlC5⟩ := HN.out
          refine (turnF_any VB D C sec L.length f r CB nn p O ⟨S, [], F, false⟩ y w5 hV5 rfl rfl HX.out hC5 hT (by omega) (by omega) (by omega) (fun k hk => (HO5.out k hk).2) o1 o2 o3 (hK.below lo5) t ht.out hy.out).mono ?_
          rintro e w6 hdid
          have he := hdid.e
          subst he
          go_wp2_with fail
          go_meet
          refine ⟨t, 2, y, rfl, cutd_of hdid hy.out ?_ HO5.out o2 oA oB hlC hlV cA cB vA vB hlC5 hA5 (fun j hj => by rw [ht.out, txt_trn _ _ _ hj]) hB5 lo5, ⟨by decide, by decide⟩⟩
          refine nx_on_turn hT (by omega) (by decide) (by decide) (fun id hi => ?_) (fun id hi x hx => ?_) (fun i hi hx => ?_)
          · rw [ht.out]; unfold trn; rw [if_pos (by omega)]; rfl
          · rw [ht.out] at hx
            unfold trn at hx
            rw [if_pos (by omega)] at hx
            injection hx with hx
            subst hx
            exact ⟨by show 1 ≤ ((L.length + 1 : Nat) : Int); omega, by show ((L.length + 1 : Nat) : Int) ≤ _; omega, tld_rd hT id hi⟩
          · rw [ht.out] at hx
            unfold trn at hx
            by_cases e : 0 ≤ i ∧ i < ((32 : Nat) : Int)
            · omega
            · rw [if_neg e] at hx; cases hx
        | false =>
          have HX : Hid _ := hX5
          clear hX5 o1 o2 o3 oA oB hlC hlV cA cB vA vB hlC5
          go_wp2_with fail
          refine (pages_any ma mcap ms (L.length : Int) w5 (HPG.out w5 lo5) (by omega) (by omega) (by omega)).mono ?_
          rintro e w6 ⟨⟨rfl, mM⟩, g6⟩
          obtain ⟨t3, ht3⟩ : ∃ t, Hid (w5.heap.size = t) := ⟨_, rfl⟩
          rw [ht3.out] at mM
          rw [ht3.out]
          obtain ⟨g, hg⟩ : ∃ g, Hid (pgF ms (L.length : Int) ms.length = g) := ⟨_, rfl⟩
          have HG : Hid (∀ i s, g i = some s → (0 ≤ i ∧ i < 32) ∧ s.size ≤ 200) := fun i s h => by rw [← hg.out] at h; exact ⟨(pgF_some h).1, HMS.out s (pgF_some h).2⟩
          rw [hg.out] at mM
          have hA6 := hA5.below g6
          have h36 : Hid (t3 < w6.heap.size) := mM.lt
          go_wp2_with (first
            | (refine wpl_rangeV rfl 38 _ rfl und3 9 undS (.map (some t3)) ms.length (sv g) rfl (Or.inr ⟨_, rfl, mM⟩) ?_; intro w7 cnt7 hR7 hc7 hb7 hz7)
            | fail)
          obtain ⟨R, hR⟩ : ∃ R, Hid (R = w6.heap.size) := ⟨_, rfl⟩
          rw [← hR.out] at hR7
          rw [← hR.out]
          (try simp only [Act.put, List.setIfInBounds_toArray, List.set_cons_succ, List.set_cons_zero])
          have hA7 : Aft w7 gA (mid p g (fun i => (sv g i).isSome)) := (hA6.below hb7).congr fun j _ => (mid_start p g j).symm
          have c7 : Dv.Chg w5 w7 (fun k => k = gA) := ((Dv.Chg.refl w5 _).below g6).below hb7
          have hlA : Hid (gA < w5.heap.size) := hA5.lt
          have hRg : Hid (w5.heap.size ≤ R ∧ gA ≠ R ∧ t3 ≠ gA) := by have h1 := hR.out; have h2 := g6.size; have h3 := hlA.out; have h4 := ht3.out; exact ⟨by omega, by omega, by omega⟩
          have HB5 : Hid (Aft w5 yH (txt p)) := hB5
          clear mM hA6 g6 hb7 hz7 hB5
          go_loopw [] (fun wr => ∃ (left : Int → Bool) (cnt : Nat), RngV Tryz.prog wr (.map (some t3)) R ms.length (sv g) left cnt ∧ Aft wr gA (mid p g left) ∧ Dv.Chg w5 wr (fun k => k = gA)) (fun wr => rleft wr R)
          case atStart => exact ⟨_, _, hR7, hA7, c7⟩
          case round =>
            clear hR7 hA7 c7 hc7
            obtain ⟨left, cnt, hRr, hAr, cr⟩ := hrel
            have hm0 : Hid _ := hRr.left_eq
            rcases hRr.next und3 0 with ⟨hdn, hrun⟩ | ⟨i, u, w8, cnt8, hi, hle, hf, hrun, hR8, hlt, hu, hen⟩
            · have HDN : Hid _ := hdn
              clear hdn hRr hm0
              obtain ⟨o1, o2, o3, oA, oB, hlC, hlV, cA, cB, vA, vB, hlC5⟩ := HN.out
              have hVr : Vlt wr VB D C sec (L.length : Int) 1 f r CB nn p false := hV5.same (cr.block VB hV5.blk.lt vA) (cr.block CB hV5.map.lt (fun e => by
                obtain ⟨cur, hcur, _⟩ := hA5
                exact map_ne_cells hV5.map hcur e.symm))
              have hCr : Dv.Cnt wr C (L.length : Int) := hC5.chg cr cA
              have hXr : Fz.At ⟨S, [], F, false⟩ wr O D := by
                obtain ⟨v9, l9, h9⟩ := HX.out
                exact ⟨v9, l9, h9.chg cr (fun k hk e => oA (e ▸ hk))⟩
              have hBr := Aft.chg HB5.out cr (fun e => HGA.out.1 e.symm)
              have lor : Below w.heap.size w wr := cr.to lo5 lo5.size (fun q hq => by rw [hq]; exact HGA.out.2)
              have hzr := cr.size
              clear o1 o2 o3 oA oB hlC hlV cA cB vA vB hlC5 cr
              go_wp2_with fail
              refine (pages_any ma mcap ms (L.length : Int) wr (HPG.out wr lor) (by omega) (by omega) (by omega)).mono ?_
              rintro e wp ⟨⟨rfl, mp⟩, gp⟩
              obtain ⟨t9, ht9⟩ : ∃ t, Hid (wr.heap.size = t) := ⟨_, rfl⟩
              rw [hg.out, ht9.out] at mp
              rw [ht9.out]
              obtain ⟨t, ht⟩ : ∃ t, Hid (t = tel g p ((L.length + 1 : Nat) : Int)) := ⟨_, rfl⟩
              obtain ⟨y, hy⟩ : ∃ y, Hid (y = Fz.all ⟨S, [], F, false⟩ (sl (epoK sec 1) (nxF f t) t 32) ((L.length + 1) % 2) (Su.allT (supK sec) ((L.length + 1 : Nat) : Int) 1 (nxF f t) (rootP (nxP p t)))) := ⟨_, rfl⟩
              have hVp := hVr.below gp hVr.blk.lt hVr.map.lt
              have hCp := hCr.below gp hCr.lt
              have hXp : Fz.At ⟨S, [], F, false⟩ wp O D := by obtain ⟨v9, l9, h9⟩ := hXr; exact ⟨v9, l9, h9.below gp⟩
              have HXP : Hid _ := hXp
              have hAp := hAr.below gp
              have hBp := hBr.below gp
              have lop := lor.trans (gp.mono lor.size)
              have hzp := gp.size
              clear hVr hCr hXr hAr hBr hXp gp
              go_wp2_with fail
              obtain ⟨o1, o2, o3, oA, oB, hlC, hlV, cA, cB, vA, vB, hlC5⟩ := HN.out
              have hOp : ∀ k, O k → w.heap.size ≤ k ∧ k < wp.heap.size := fun k hk => ⟨(HO5.out k hk).1, by have := (HO5.out k hk).2; omega⟩
              refine (tellF_any VB D C sec L.length f r CB nn p (.map (some t9)) ms.length g O ⟨S, [], F, false⟩ y wp hVp (Or.inr ⟨_, rfl, mp⟩) HG.out rfl rfl HXP.out hCp hT (by omega) (by omega) (by omega) (fun k hk => (hOp k hk).2) o1 o2 o3 (hK.below lop) t ht.out hy.out).mono ?_
              rintro e w9 hdid
              have he := hdid.e
              subst he
              go_wp2_with fail
              go_meet
              refine ⟨t, 1, y, rfl, cutd_of hdid hy.out ?_ hOp o2 oA oB hlC hlV cA cB vA vB (by omega) hAp (fun j hj => by rw [ht.out, txt_tel, mid_end p g left j (HDN.out _ (kOk_small (by omega) (by omega)))]) hBp lop, ⟨by decide, by decide⟩⟩
              refine nx_on_tell hT (by omega) (fun id hi x hx => ?_) (fun i hi hx => ?_)
              · rw [ht.out] at hx
                have h1 := tel_some hx
                have h2 := (HG.out _ _ h1.2).2
                omega
              · rw [ht.out] at hx
                obtain ⟨x, hx⟩ := Option.isSome_iff_exists.1 hx
                exact (HG.out _ _ (tel_some hx).2).1
            · obtain ⟨s, hgi, rfl⟩ := sv_inv hf
              have hm5 : Hid _ := hR8.left_eq
              have hik := (HG.out i s hgi).1
              obtain ⟨ii, rfl⟩ : ∃ ii : Nat, i = (ii : Int) := ⟨i.toNat, by omega⟩
              have hA8 : Aft w8 gA (mid p g left) := hAr.chg ((Dv.Chg.refl wr (fun k => k = R)).upd hu (Or.inl rfl)) hRg.out.2.1
              have c8 : Dv.Chg w5 w8 (fun k => k = gA) := cr.upd hu (Or.inr hRg.out.1)
              have ck := hA8.cell ii (by omega)
              have fk := hA8.frozen ii
              have hii : (ii : Int) < 32 := by omega
              have HAF : Hid (Aft (w8.setCell ⟨gA, ii, none⟩ (.string s)) gA (mid p g (fun k => left k && !decide (k = (ii : Int))))) := (hA8.set ii s (by omega)).congr fun j _ => mid_step p g left ii s hle hgi j
              have HCG : Hid (Dv.Chg w5 (w8.setCell ⟨gA, ii, none⟩ (.string s)) (fun k => k = gA)) := c8.setCell (Or.inl rfl) _
              have HRN : Hid (RngV Tryz.prog (w8.setCell ⟨gA, ii, none⟩ (.string s)) (.map (some t3)) R ms.length (sv g) (fun k => left k && !decide (k = (ii : Int))) cnt8) := hR8.same (fun b hb => by
                injection hb with hb
                injection hb with hb
                subst hb
                exact (setCell_upd w8 gA ii (.string s)).block t3 hRg.out.2.2) ((setCell_upd w8 gA ii (.string s)).block R (Ne.symm hRg.out.2.1))
              have HLT : Hid (cnt8 < cnt) := hlt
              generalize mid p g left ii = x at *
              clear hA8 c8 hAr cr hRr hf hgi hlt hR8 hu
              go_wp2_with fail
              refine ⟨⟨_, _, HRN.out, HAF.out, HCG.out⟩, ?_⟩
              rw [HRN.out.left_eq, hm0.out]; exact HLT.out
      case rest =>
      obtain ⟨t, en, y, rfl, hc, hen⟩ := hcut
      obtain ⟨hOn, hst, ⟨O', ⟨v6, lf6, hD6⟩, hOo, nOC, nOA, nOB⟩, hC6, hA6, hB6, lo6, ⟨_, cA, cB⟩, hcrash, hgood⟩ := hc
      have HEN : Hid (1 ≤ en ∧ en ≤ 2) := hen
      have HOo : Hid (∀ k, O' k → w.heap.size ≤ k ∧ k < wc.heap.size) := hOo
      have HNO : Hid (¬ O' C ∧ ¬ O' gA ∧ ¬ O' yH ∧ C ≠ gA ∧ C ≠ yH) := ⟨nOC, nOA, nOB, cA, cB⟩
      have HCR : Hid (∀ kp, (y.b = true ∧ Kp S (Dv.loseS y.S y.W kp y.W.length) f) ∨ Dv.loseS y.S y.W kp y.W.length = nxS S sec (L.length + 1) en f p t) := hcrash
      have HGD : Hid (y.b = false → ∀ kp, Dv.loseS y.S y.W kp y.W.length = nxS S sec (L.length + 1) en f p t) := hgood
      have HON : Hid (On (nxS S sec (L.length + 1) en f p t) [] sec (L.length + 1) en (nxF f t) (nxP p t)) := hOn
      have HT : Hid (Tld S sec L.length f p) := hT
      have HRP : Hid (∀ j : Nat, j < 32 → (rd p j).2.size ≤ 200) := fun j hj => tld_rd hT j hj
      have HRD : Hid (∀ j : Nat, j < 32 → (rd (nxP p t) j).2.size ≤ 200) := fun j hj => on_rd hOn j hj
      have HBits : Hid (∀ W', Below w.heap.size w W' → ∀ i x, ks[i]? = some x → ∃ kb ko, ka = some ⟨kb, ko, none⟩ ∧ kb < W'.heap.size ∧ ¬ O' kb ∧ W'.cell? ⟨kb, ko + i, none⟩ = some (.bool x)) := fun W' hW i x hx => by
        obtain ⟨kb, ko, h1, h2, h3⟩ := HKS.out i x hx
        exact ⟨kb, ko, h1, Nat.lt_of_lt_of_le h2 hW.size, fun h => by have := (hOo kb h).1; omega, (World.cell?_of_block (hW.block kb h2)).trans h3⟩
      clear hOn hen hOo nOC nOA nOB cA cB hcrash hgood hT hV5 hC5 hA5 hB5 lo5 hX5 HO5 HN HGA HKS
      cases hyb : y.b with
      | true =>
        rw [hyb] at hC6
        rw [show errF true = .iface 41 (.int .i64 14) from rfl]
        obtain ⟨st, hst1, hst2⟩ := hst hyb
        clear hst HGD
        go_wp2_with fail
        refine (tell_some 14 wc (hE.below lo6)).mono ?_
        rintro e w7 ⟨rfl, g7⟩
        go_wp2_with fail
        refine (tell_stuck VB D C sec st hst1 w7 (hst2.below g7 hst2.lt)).mono ?_
        rintro e w8 ⟨rfl, hw8⟩
        obtain rfl : w7 = w8 := hw8.symm
        clear hw8
        go_wp2_with fail
        refine (tell_some 6 w7 (hE.below (lo6.trans (g7.mono lo6.size)))).mono ?_
        rintro e w8 ⟨rfl, g8⟩
        have g68 := g7.trans (g8.mono g7.size)
        have lo8 := lo6.trans (g68.mono lo6.size)
        have hD8 := hD6.below g68
        have hC8 : Dv.Cnt w8 C (L.length : Int) := Blk.below hC6 g68 hC6.lt
        have hA8 := hA6.below g68
        have hB8 := hB6.below g68
        have z68 : Hid (wc.heap.size ≤ w8.heap.size) := g68.size
        clear g7 g8 g68 hst1 hst2 hD6 hC6 hA6 hB6 lo6
        go_wp2_with fail
        refine (Dv.crash_any D O' y.S y.W y.F v6 lf6 w8 hD8 ka kc ks (by omega) (HBits.out w8 lo8)).mono ?_
        rintro e w9 ⟨rfl, ⟨l9, hD9⟩, c9⟩
        have hC9 : Dv.Cnt w9 C (L.length : Int) := Blk.chg hC8 c9 HNO.out.1
        have hA9 := hA8.chg c9 HNO.out.2.1
        have hB9 := hB8.chg c9 HNO.out.2.2.1
        have lo9 : Below w.heap.size w w9 := c9.to lo8 lo8.size (fun q hq => (HOo.out q hq).1)
        have hO9 : Hid (∀ k, O' k → w.heap.size ≤ k ∧ k < w9.heap.size) := fun k hk => by have := (HOo.out k hk); have := c9.size; have := z68.out; omega
        have hcr := HCR.out (fun i => ks.getD i false)
        generalize Dv.loseS y.S y.W (fun i => ks.getD i false) y.W.length = S9 at *
        clear hD8 hC8 hA8 hB8 lo8 c9 z68 HOo HCR HBits
        rcases hcr with ⟨_, hk⟩ | hnx
        · have hop := fun (s' : ByteArray) (h : s' = sec) => show Calls Tryz.prog 15 #[.pointer (some ⟨D, 0, none⟩), .pointer (some ⟨C, 0, none⟩), .string s'] w9 _ from h ▸ open_kp D C O' S S9 _ l9 sec L.length f p w9 hD9 hC9 hs16 (hK.below lo9) HT.out hk
          have HO : Hid _ := hop
          have HD9 : Hid _ := hD9
          clear hop hk hA9 HRD HON hD9
          go_wp2_with fail
          refine Calls.mono (HO.out _ hsec.out.symm) ?_
          rintro e wa ⟨⟨VB8, CB8, n8, f8, r8, rfl, hVa, hVB8, hn8⟩, ga⟩
          rw [← hsec.out] at hVa
          have hDa := Dv.Dev.below HD9.out ga
          have hCa : Dv.Cnt wa C (L.length : Int) := Blk.below hC9 ga hC9.lt
          have hAa := hB9.below ga
          have loa := lo9.trans (ga.mono lo9.size)
          have hCl : Hid (C < w9.heap.size) := hC9.lt
          have hOa : Hid (∀ k, O' k → w.heap.size ≤ k ∧ k < w9.heap.size) := hO9
          have HVB : Hid (w9.heap.size ≤ VB8) := hVB8
          have H9w : Hid (w.heap.size ≤ w9.heap.size) := lo9.size
          have Hga : Hid (w9.heap.size ≤ wa.heap.size) := ga.size
          clear HO HD9 hC9 hB9 lo9 ga hVB8 hO9
          have hne : ¬ ((L.length : Int) = (L.length : Int) + 1) := by omega
          go_wp2_with fail
          refine (count_any wa VB8 D C sec (L.length : Int) 1 _ _ CB8 n8 _ false hVa).mono ?_
          rintro e wb ⟨rfl, hwb⟩
          obtain rfl : wa = wb := hwb.symm
          clear hwb
          go_wp2_with fail
          refine (all_any wa VB8 D C sec (L.length : Int) 1 _ _ CB8 n8 _ false hVa).mono ?_
          rintro e wb ⟨⟨vb, rfl, owb⟩, gb⟩
          obtain ⟨Hb, cb, rfl, _, _, _⟩ := row_val owb (by decide)
          have hVb := hVa.below gb hVa.blk.lt hVa.map.lt
          go_wp2_with fail
          refine (aft_rows owb (hAa.below gb) (fun _ _ => rfl)).mono ?_
          rintro e wf ⟨rfl, gf⟩
          have gbf := gb.trans (gf.mono gb.size)
          have hCf : Dv.Cnt wf C (L.length : Int) := Blk.below hCa gbf hCa.lt
          have hVf := hVb.below gf hVb.blk.lt hVb.map.lt
          have hDf := hDa.below gbf
          have hmk := mkMapS
          obtain ⟨wg, hrg, mg, grg, zg⟩ := (mapF_made Tryz.prog wf).update (t := 38) und3 undS (by decide) (i := 0) (by decide) (.string ⟨#[122]⟩)
          rw [g0_sv] at mg
          have ug := upd_of_grown grg zg
          have sg : Below wf.heap.size wf wg := below_upd (Pg.below_alloc wf (.map #[] 0)) ug (Nat.le_refl _)
          have hVg := hVf.below sg hVf.blk.lt hVf.map.lt
          have hDg := hDf.below sg
          have hCg : Dv.Cnt wg C (L.length : Int) := Blk.below hCf sg hCf.lt
          have log := loa.trans ((gbf.trans (sg.mono gbf.size)).mono loa.size)
          have zgf : Hid (wa.heap.size ≤ wg.heap.size) := by have := sg.size; have := gbf.size; unfold Hid; omega
          clear hVa hVb hVf hDa hDf hCa hCf owb hAa gb gf gbf sg ug
          go_wp2_with (first
            | (refine wpl_insertW (by kernel_rfl) rfl 38 _ _ _ rfl (.map (some wf.heap.size)) (.int .i64 0) (.string ⟨#[122]⟩) rfl rfl rfl wg hrg ?_)
            | fail)
          refine (tell_z VB8 D C sec (L.length : Int) 1 _ _ CB8 n8 _ (.map (some wf.heap.size)) O' _ _ _ wg hVg (Or.inr ⟨_, rfl, mg⟩) hDg hCg (by omega) (by omega) (by omega) (by decide) (by decide) HRP.out (by omega) (fun q hq => by have := (hOa.out q hq).2; have := Hga.out; have := zgf.out; omega) (fun h => by have := (hOa.out _ h).2; have := HVB.out; omega) HNO.out.1 (by have := HVB.out; have := hCl.out; omega) (hK.below log)).mono ?_
          rintro e wh ⟨rfl, ch⟩
          go_wp2_with fail
          go_ret
          exact ⟨rfl, ch.to log log.size (fun q hq => by
            rcases hq with hq | hq | hq
            · exact (hOa.out q hq).1
            · rw [hq]; exact HCC.out
            · rw [hq]; have := HVB.out; have := H9w.out; omega)⟩
        · subst hnx
          have hop := fun (s' : ByteArray) (h : s' = sec) => show Calls Tryz.prog 15 #[.pointer (some ⟨D, 0, none⟩), .pointer (some ⟨C, 0, none⟩), .string s'] w9 _ from h ▸ open_ahead D C O' _ [] (-1) _ l9 sec L.length en (nxF f t) (nxP p t) w9 hD9 hC9 (by decide) hs16 (hK.below lo9) (by omega) HON.out
          have HO : Hid _ := hop
          have HD9 : Hid _ := hD9
          have HNO2 : Hid (∀ k, O' k → ¬ k = C) := fun k hk e => HNO.out.1 (e ▸ hk)
          clear hop hB9 hD9 HRP HON HT
          go_wp2_with fail
          refine Calls.mono (HO.out _ hsec.out.symm) ?_
          rintro e wa ⟨⟨VB8, CB8, rfl, hVa, hVB8, _⟩, hCa, ca⟩
          rw [← hsec.out] at hVa
          have hDa := Dv.Dev.chg HD9.out ca HNO2.out
          have hAa := hA9.chg ca (Ne.symm HNO.out.2.2.2.1)
          have loa := ca.to lo9 lo9.size (fun q hq => by rw [hq]; exact HCC.out)
          have hCl : Hid (C < w9.heap.size) := hC9.lt
          have hOa : Hid (∀ k, O' k → w.heap.size ≤ k ∧ k < w9.heap.size) := hO9
          have HVB : Hid (w9.heap.size ≤ VB8) := hVB8
          have H9w : Hid (w.heap.size ≤ w9.heap.size) := lo9.size
          have Hga : Hid (w9.heap.size ≤ wa.heap.size) := ca.size
          clear HO HD9 hC9 hA9 lo9 ca hVB8 hO9 HNO2
          go_wp2_with fail
          refine (count_any wa VB8 D C sec ((L.length : Int) + 1) en _ _ CB8 32 _ false hVa).mono ?_
          rintro e wb ⟨rfl, hwb⟩
          obtain rfl : wa = wb := hwb.symm
          clear hwb
          go_wp2_with fail
          refine (all_any wa VB8 D C sec ((L.length : Int) + 1) en _ _ CB8 32 _ false hVa).mono ?_
          rintro e wb ⟨⟨vb, rfl, owb⟩, gb⟩
          obtain ⟨Hb, cb, rfl, _, _, _⟩ := row_val owb (by decide)
          have hVb := hVa.below gb hVa.blk.lt hVa.map.lt
          go_wp2_with fail
          refine (aft_rows owb (hAa.below gb) (fun _ _ => rfl)).mono ?_
          rintro e wf ⟨rfl, gf⟩
          have gbf := gb.trans (gf.mono gb.size)
          have hCf : Dv.Cnt wf C ((L.length : Int) + 1) := Blk.below hCa gbf hCa.lt
          have hVf := hVb.below gf hVb.blk.lt hVb.map.lt
          have hDf := hDa.below gbf
          go_wp2_with fail
          refine (Dv.get_any C _ wf hCf).mono ?_
          rintro e wd ⟨rfl, hwd⟩
          obtain rfl : wf = wd := hwd.symm
          clear hwd
          have hmk := mkMapS
          obtain ⟨wg, hrg, mg, grg, zg⟩ := (mapF_made Tryz.prog wf).update (t := 38) und3 undS (by decide) (i := 0) (by decide) (.string ⟨#[122]⟩)
          rw [g0_sv] at mg
          have ug := upd_of_grown grg zg
          have sg : Below wf.heap.size wf wg := below_upd (Pg.below_alloc wf (.map #[] 0)) ug (Nat.le_refl _)
          have hVg := hVf.below sg hVf.blk.lt hVf.map.lt
          have hDg := hDf.below sg
          have hCg : Dv.Cnt wg C ((L.length : Int) + 1) := Blk.below hCf sg hCf.lt
          have log := loa.trans ((gbf.trans (sg.mono gbf.size)).mono loa.size)
          have zgf : Hid (wa.heap.size ≤ wg.heap.size) := by have := sg.size; have := gbf.size; unfold Hid; omega
          clear hVa hVb hVf hDa hDf hCa hCf owb hAa gb gf gbf sg ug
          go_wp2_with (first
            | (refine wpl_insertW (by kernel_rfl) rfl 38 _ _ _ rfl (.map (some wf.heap.size)) (.int .i64 0) (.string ⟨#[122]⟩) rfl rfl rfl wg hrg ?_)
            | fail)
          refine (tell_z VB8 D C sec ((L.length : Int) + 1) en _ _ CB8 32 _ (.map (some wf.heap.size)) O' _ _ _ wg hVg (Or.inr ⟨_, rfl, mg⟩) hDg hCg (by omega) (by omega) (by omega) HEN.out.1 HEN.out.2 HRD.out (by omega) (fun q hq => by have := (hOa.out q hq).2; have := Hga.out; have := zgf.out; omega) (fun h => by have := (hOa.out _ h).2; have := HVB.out; omega) HNO.out.1 (by have := HVB.out; have := hCl.out; omega) (hK.below log)).mono ?_
          rintro e wh ⟨rfl, ch⟩
          go_wp2_with fail
          go_ret
          exact ⟨rfl, ch.to log log.size (fun q hq => by
            rcases hq with hq | hq | hq
            · exact (hOa.out q hq).1
            · rw [hq]; exact HCC.out
            · rw [hq]; have := HVB.out; have := H9w.out; omega)⟩
      | false =>
        rw [hyb] at hC6
        rw [show errF false = .nilIface from rfl]
        clear hst HCR
        have z68 : Hid (wc.heap.size ≤ wc.heap.size) := Nat.le_refl _
        have hC8 : Dv.Cnt wc C ((L.length : Int) + 1) := by
          have h : Dv.Cnt wc C ((L.length + 1 : Nat) : Int) := hC6
          rwa [show ((L.length + 1 : Nat) : Int) = (L.length : Int) + 1 from by omega] at h
        clear hC6
        go_wp2_with fail
        refine (Dv.crash_any D O' y.S y.W y.F v6 lf6 wc hD6 ka kc ks (by omega) (HBits.out wc lo6)).mono ?_
        rintro e w9 ⟨rfl, ⟨l9, hD9⟩, c9⟩
        have hC9 : Dv.Cnt w9 C ((L.length : Int) + 1) := Blk.chg hC8 c9 HNO.out.1
        have hA9 := hA6.chg c9 HNO.out.2.1
        have lo9 : Below w.heap.size w w9 := c9.to lo6 lo6.size (fun q hq => (HOo.out q hq).1)
        have hO9 : Hid (∀ k, O' k → w.heap.size ≤ k ∧ k < w9.heap.size) := fun k hk => by have := (HOo.out k hk); have := c9.size; omega
        have hnx := HGD.out hyb (fun i => ks.getD i false)
        generalize Dv.loseS y.S y.W (fun i => ks.getD i false) y.W.length = S9 at *
        subst hnx
        obtain ⟨x8, hx8, hx8'⟩ := nx_sup (en := en) (t := t) HT.out
        have hC9' : Dv.Cnt w9 C ((L.length + 1 : Nat) : Int) := by rw [show ((L.length + 1 : Nat) : Int) = (L.length : Int) + 1 from by omega]; exact hC9
        have hop := fun (s' : ByteArray) (h : s' = sec) => show Calls Tryz.prog 15 #[.pointer (some ⟨D, 0, none⟩), .pointer (some ⟨C, 0, none⟩), .string s'] w9 _ from h ▸ open_some D C O' _ [] (-1) _ l9 sec (L.length + 1) x8 en (nxF f t) (nxP p t) w9 hD9 hC9' (by decide) hs16 (hK.below lo9) hx8 hx8' HON.out
        have HO : Hid _ := hop
        have HD9 : Hid _ := hD9
        clear hD6 hC8 hA6 hB6 lo6 c9 z68 HOo HBits HGD hx8 hx8' hC9' hop hD9 HRP HON HT
        go_wp2_with fail
        refine Calls.mono (HO.out _ hsec.out.symm) ?_
        rintro e wa ⟨⟨VB8, CB8, rfl, hVa', hVB8, _⟩, ga⟩
        rw [← hsec.out] at hVa'
        have hVa : Vlt wa VB8 D C sec ((L.length : Int) + 1) en (nxF f t) (rootP (nxP p t)) CB8 32 (nxP p t) false := by
          rw [show (L.length : Int) + 1 = ((L.length + 1 : Nat) : Int) from by omega]; exact hVa'
        have hDa := Dv.Dev.below HD9.out ga
        have hCa : Dv.Cnt wa C ((L.length : Int) + 1) := Blk.below hC9 ga hC9.lt
        have hAa := hA9.below ga
        have loa := lo9.trans (ga.mono lo9.size)
        have hCl : Hid (C < w9.heap.size) := hC9.lt
        have hOa : Hid (∀ k, O' k → w.heap.size ≤ k ∧ k < w9.heap.size) := hO9
        have HVB : Hid (w9.heap.size ≤ VB8) := hVB8
        have H9w : Hid (w.heap.size ≤ w9.heap.size) := lo9.size
        have Hga : Hid (w9.heap.size ≤ wa.heap.size) := ga.size
        clear HO HD9 hC9 hA9 lo9 ga hVB8 hO9 hVa'
        go_wp2_with fail
        refine (count_any wa VB8 D C sec ((L.length : Int) + 1) en _ _ CB8 32 _ false hVa).mono ?_
        rintro e wb ⟨rfl, hwb⟩
        obtain rfl : wa = wb := hwb.symm
        clear hwb
        go_wp2_with fail
        refine (all_any wa VB8 D C sec ((L.length : Int) + 1) en _ _ CB8 32 _ false hVa).mono ?_
        rintro e wb ⟨⟨vb, rfl, owb⟩, gb⟩
        obtain ⟨Hb, cb, rfl, _, _, _⟩ := row_val owb (by decide)
        have hVb := hVa.below gb hVa.blk.lt hVa.map.lt
        go_wp2_with fail
        refine (aft_rows owb (hAa.below gb) (fun _ _ => rfl)).mono ?_
        rintro e wf ⟨rfl, gf⟩
        have gbf := gb.trans (gf.mono gb.size)
        have hCf : Dv.Cnt wf C ((L.length : Int) + 1) := Blk.below hCa gbf hCa.lt
        have hVf := hVb.below gf hVb.blk.lt hVb.map.lt
        have hDf := hDa.below gbf
        go_wp2_with fail
        refine (Dv.get_any C _ wf hCf).mono ?_
        rintro e wd ⟨rfl, hwd⟩
        obtain rfl : wf = wd := hwd.symm
        clear hwd
        have hmk := mkMapS
        obtain ⟨wg, hrg, mg, grg, zg⟩ := (mapF_made Tryz.prog wf).update (t := 38) und3 undS (by decide) (i := 0) (by decide) (.string ⟨#[122]⟩)
        rw [g0_sv] at mg
        have ug := upd_of_grown grg zg
        have sg : Below wf.heap.size wf wg := below_upd (Pg.below_alloc wf (.map #[] 0)) ug (Nat.le_refl _)
        have hVg := hVf.below sg hVf.blk.lt hVf.map.lt
        have hDg := hDf.below sg
        have hCg : Dv.Cnt wg C ((L.length : Int) + 1) := Blk.below hCf sg hCf.lt
        have log := loa.trans ((gbf.trans (sg.mono gbf.size)).mono loa.size)
        have zgf : Hid (wa.heap.size ≤ wg.heap.size) := by have := sg.size; have := gbf.size; unfold Hid; omega
        clear hVa hVb hVf hDa hDf hCa hCf owb hAa gb gf gbf sg ug
        go_wp2_with (first
          | (refine wpl_insertW (by kernel_rfl) rfl 38 _ _ _ rfl (.map (some wf.heap.size)) (.int .i64 0) (.string ⟨#[122]⟩) rfl rfl rfl wg hrg ?_)
          | fail)
        refine (tell_z VB8 D C sec ((L.length : Int) + 1) en _ _ CB8 32 _ (.map (some wf.heap.size)) O' _ _ _ wg hVg (Or.inr ⟨_, rfl, mg⟩) hDg hCg (by omega) (by omega) (by omega) HEN.out.1 HEN.out.2 HRD.out (by omega) (fun q hq => by have := (hOa.out q hq).2; have := Hga.out; have := zgf.out; omega) (fun h => by have := (hOa.out _ h).2; have := HVB.out; omega) HNO.out.1 (by have := HVB.out; have := hCl.out; omega) (hK.below log)).mono ?_
        rintro e wh ⟨rfl, ch⟩
        go_wp2_with fail
        go_ret
        exact ⟨rfl, ch.to log log.size (fun q hq => by
          rcases hq with hq | hq | hq
          · exact (hOa.out q hq).1
          · rw [hq]; exact HCC.out
          · rw [hq]; have := HVB.out; have := H9w.out; omega)⟩
end Go.Proofs.YtkapkphhceknfaaGreatDoor.Vt
