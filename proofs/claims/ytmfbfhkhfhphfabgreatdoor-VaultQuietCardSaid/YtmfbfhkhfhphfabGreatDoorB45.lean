/-
  Part of the proof: VaultQuiet is walked.
-/
import Derived.Test.YtmfbfhkhfhphfabGreatDoorB44
namespace Go.Proofs.YtmfbfhkhfhphfabGreatDoor.Vt
open Go.RowKit
/-- The first k pages' texts. -/
def smF (p : Int → Option (Int × ByteArray)) (k : Nat) (i : Int) : Option ByteArray := if 0 ≤ i ∧ i < (k : Int) then some (txt p i.toNat) else none
theorem smF_step (p : Int → Option (Int × ByteArray)) (k : Nat) : (fun j => if j = (k : Int) then some (Value.string (txt p k)) else sv (smF p k) j) = sv (smF p (k + 1)) := by
  funext j
  unfold sv smF
  by_cases e : j = (k : Int)
  · subst e; rw [if_pos rfl, if_pos (by omega)]; rfl
  · rw [if_neg e]
    by_cases e2 : 0 ≤ j ∧ j < (k : Int)
    · rw [if_pos e2, if_pos (by omega)]
    · rw [if_neg e2, if_neg (by omega)]
theorem smF_tel (p : Int → Option (Int × ByteArray)) (c : Int) : tel (smF p 32) p c = fun _ => none := by
  funext i
  unfold tel smF
  by_cases e : 0 ≤ i ∧ i < ((32 : Nat) : Int)
  · rw [if_pos e]
    have h : (txt p i.toNat) = (rd p i).2 := by unfold txt; rw [Int.toNat_of_nonneg e.1]
    simp [h]
  · rw [if_neg e]; rfl
theorem tel_isSome (g : Int → Option ByteArray) (p : Int → Option (Int × ByteArray)) (c c' : Int) (i : Int) : (tel g p c i).isSome = (tel g p c' i).isSome := by
  unfold tel
  cases g i with
  | none => rfl
  | some s => simp only [Option.bind_some]; split <;> rfl
theorem oth_step {left : Int → Bool} {T : Nat → Bool} {ii : Nat} (hl : left (ii : Int) = true) (hi : ii < 32) : cntB (fun j : Nat => !(left (j : Int) && !decide ((j : Int) = (ii : Int))) && T j) 32 = cntB (fun j : Nat => !left (j : Int) && T j) 32 + (if T ii then 1 else 0) := by
  have h := cntB_add (q := fun j : Nat => !left (j : Int) && T j) (q' := fun j : Nat => !(left (j : Int) && !decide ((j : Int) = (ii : Int))) && T j) (i := ii) (by simp [hl]) (fun j hj => by
    have : ¬ (j : Int) = (ii : Int) := by omega
    simp [this]) (n := 32) hi
  rw [h]
  simp
theorem tel_told {g : Int → Option ByteArray} {p : Int → Option (Int × ByteArray)} {c : Int} {ii : Nat} {s : ByteArray} (h : g (ii : Int) = some s) : (tel g p c (ii : Int)).isSome = !decide (s.toList = (txt p ii).toList) := by
  unfold tel
  rw [h, Option.bind_some]
  show (if s.toList = (txt p ii).toList then none else some (c, s)).isSome = _
  by_cases e : s.toList = (txt p ii).toList
  · rw [if_pos e, decide_eq_true e]; rfl
  · rw [if_neg e, decide_eq_false e]; rfl
theorem smF_ok {S : Nat → Nat → UInt8} {sec : ByteArray} {n : Nat} {f : Nat → Bool} {p : Int → Option (Int × ByteArray)} (h : Tld S sec n f p) : ∀ i s, smF p 32 i = some s → (0 ≤ i ∧ i < 32) ∧ s.size ≤ 200 := fun i s hs => by
  unfold smF at hs
  by_cases e : 0 ≤ i ∧ i < ((32 : Nat) : Int)
  · rw [if_pos e] at hs
    injection hs with hs
    subst hs
    refine ⟨by omega, ?_⟩
    unfold txt rd
    cases hx : p ((i.toNat : Nat) : Int) with
    | none => exact Nat.zero_le _
    | some x => have := (h.pgs.some' i.toNat (by omega) x hx).2.2.2; simpa using this
  · rw [if_neg e] at hs; cases hs
theorem busy_told {w w' : World} {O O' : Nat → Prop} {C VB g : Nat} (hO : ∀ k, O' k → Dv.gro O w w' k) (hg : g < w.heap.size) (h : ¬ Busy O C VB g) : ¬ Busy O' C VB g := fun hx => by
  rcases hx with hx | hx
  · rcases hO g hx with h1 | h1
    · exact h (Or.inl h1)
    · omega
  · exact h (Or.inr hx)
set_option maxRecDepth 100000 in
set_option maxHeartbeats 400000 in
theorem quiet_any (a : Option Addr) (cap : Nat) (L : List (Option Addr × Nat × List ByteArray)) (ma : Option Addr) (mcap : Nat) (ms : List ByteArray) (w : World) (hL : Lst w a L) (hl : L.length ≤ maxLen) (hM : Dv.Texts w (fun _ => False) ma ms) (hml : ms.length ≤ maxLen) (hms : ∀ s ∈ ms, s.size ≤ maxLen) (hK : Sm.KB w) :
    Calls Tryz.prog 5 #[.slice a L.length cap, .slice ma ms.length mcap] w fun e w' => e = .returned (.bool true) ∧ Below w.heap.size w w' := by
  cases hok : lsB L with
  | false =>
    go_enter Tryz.func5, Tryz.ntmps5
    go_wp2_with fail
    refine (lists_any a cap L w hL hl).mono ?_
    rintro e w' ⟨rfl, rfl⟩
    rw [hok]
    go_wp2_with fail
    go_ret
    exact ⟨rfl, Below.refl _ _⟩
  | true =>
    have s1 := Pg.below_alloc w (.cells #[.slice ma ms.length mcap] 30)
    have hL2 : Lst (w.alloc (.cells #[.slice ma ms.length mcap] 30)) (some ⟨w.heap.size, 0, none⟩) [(ma, mcap, ms)] := fun i x hx => by
      obtain rfl : i = 0 := by have := (List.getElem?_eq_some_iff.1 hx).1; simpa using this
      simp at hx
      subst hx
      exact ⟨w.heap.size, 0, rfl, by simp, by rw [(Blk.new w #[.slice ma ms.length mcap] 30).cell]; rfl, hM.chg ((Dv.Chg.refl w (fun _ => False)).below s1) (fun _ _ h => h), hml, hms⟩
    have Hl2 := lists_any (some ⟨w.heap.size, 0, none⟩) 1 [(ma, mcap, ms)] _ hL2 (show 1 ≤ maxLen by decide)
    have Hlists := lists_any a cap L w hL hl
    rw [hok] at Hlists
    have HL2 : Hid _ := Hl2
    clear Hl2 hL2
    cases hok2 : lsB [(ma, mcap, ms)] with
    | false =>
      go_enter Tryz.func5, Tryz.ntmps5
      go_wp2_with fail
      refine Hlists.mono ?_
      rintro e w' ⟨rfl, hw'⟩
      obtain rfl : w = w' := hw'.symm
      clear hw' Hlists
      go_wp2_with fail
      refine Calls.mono HL2.out ?_
      rintro e w' ⟨rfl, rfl⟩
      rw [hok2]
      go_wp2_with fail
      go_ret
      exact ⟨rfl, s1⟩
    | true =>
      obtain ⟨sec, hsec⟩ : ∃ sec : ByteArray, Hid (sec = ⟨#[48, 49, 50, 51, 52, 53, 54, 55, 56, 57, 97, 98, 99, 100, 101, 102]⟩) := ⟨_, rfl⟩
      have hs16 : sec.size = 16 := by rw [hsec.out]; rfl
      have hL8 := (lsB_ok hok).1
      have HMS : Hid (∀ s ∈ ms, s.size ≤ 200) := fun s hs => ((lsB_ok hok2).2 _ (List.mem_singleton.2 rfl)).2 s hs
      have hms6 : ms.length ≤ 6 := ((lsB_ok hok2).2 _ (List.mem_singleton.2 rfl)).1
      rw [hok2] at HL2
      have Hlaid := fun (w1 : World) (g1 : Below w.heap.size w w1) => laid_any a cap L w1 (hL.below g1) hok (hK.below g1) sec hsec.out
      have HLA : Hid _ := Hlaid
      have HPG : Hid (∀ w1, Below w.heap.size w w1 → Dv.Texts w1 (fun _ => False) ma ms) := fun w1 g1 => hM.chg ((Dv.Chg.refl w (fun _ => False)).below g1) (fun _ _ h => h)
      clear Hlaid hok hL hl hok2 hM hms hml
      go_enter Tryz.func5, Tryz.ntmps5
      go_wp2_with fail
      refine Hlists.mono ?_
      rintro e w' ⟨rfl, hw'⟩
      obtain rfl : w = w' := hw'.symm
      clear hw' Hlists
      go_wp2_with fail
      refine Calls.mono HL2.out ?_
      rintro e w' ⟨rfl, hw'⟩
      obtain rfl := hw'
      clear HL2
      go_wp2_with fail
      generalize w.alloc (.cells #[.slice ma ms.length mcap] 30) = wb at *
      refine (kept_any wb (hK.below s1)).mono ?_
      rintro e w1 ⟨rfl, g1'⟩
      have g1 := s1.trans (g1'.mono s1.size)
      clear g1' s1
      go_wp2_with fail
      refine Calls.mono (HLA.out w1 g1) ?_
      rintro e w2 ⟨D, C, VB, CB, nn, O, dv, lf, S, f, p, r, vH, vI, hs, rfl, hd, hhs, hnn, y, hy, hyp⟩
      have b2 := g1.trans (hd.bel.mono g1.size)
      have rH : w2.ownsRow w1.heap.size 30 1 vH (L.length + 1) (hs.map Hs.v) := by have h := hd.rowH; rwa [List.length_map, hhs] at h
      obtain ⟨gH, cH, rfl, _, gH', cellH⟩ := row_val rH (by omega)
      have cH1 : w2.cell? ⟨gH, L.length, none⟩ = some (.slice (some ⟨y.H, 0, none⟩) 32 y.hc) := cellH L.length _ (by rw [List.getElem?_map, hy]; rfl)
      have hHad := (hd.each _ y hy).had
      rw [hyp] at hHad
      obtain ⟨yS, yf, yp, yH, yc, yG⟩ := y
      simp only [Hs.v] at cH1 hHad
      have hmk := mkMapS
      have m0 : MapF Tryz.prog (w2.alloc (.map #[] 0)) w2.heap.size 0 (sv (smF p 0)) := (mapF_made Tryz.prog w2).congr fun i _ => by unfold sv smF; rw [if_neg (by omega)]; rfl
      have s3 := Pg.below_alloc w2 (.map #[] 0)
      have hw2' := b2.size
      clear HLA cellH rH hy hyp
      go_wp2_with fail
      have b3 := b2.trans (s3.mono b2.size)
      generalize w2.alloc (.map #[] 0) = w3 at *
      obtain ⟨tB, htB⟩ : ∃ t, Hid (w2.heap.size = t) := ⟨_, rfl⟩
      rw [htB.out] at m0
      rw [htB.out]
      clear hmk
      have m0l := m0.lt
      refine (pages_any ma mcap ms 3 w3 (HPG.out w3 b3) (by omega) (by omega) (by omega)).mono ?_
      rintro e w4 ⟨⟨rfl, mM⟩, g4⟩
      obtain ⟨t3, ht3⟩ : ∃ t, Hid (w3.heap.size = t) := ⟨_, rfl⟩
      have m4 := m0.below g4 m0.lt
      have s4 := s3.trans (g4.mono s3.size)
      rw [ht3.out] at mM
      rw [ht3.out]
      clear m0 g4 b3 s3
      obtain ⟨g, hg⟩ : ∃ g, Hid (pgF ms 3 ms.length = g) := ⟨_, rfl⟩
      have HG : Hid (∀ i s, g i = some s → (0 ≤ i ∧ i < 32) ∧ s.size ≤ 200) := fun i s h => by rw [← hg.out] at h; exact ⟨(pgF_some h).1, HMS.out s (pgF_some h).2⟩
      rw [hg.out] at mM
      go_wp2_with (first
        | (refine wpl_rangeV rfl 31 _ rfl und3 9 undS (.map (some t3)) ms.length (sv g) rfl (Or.inr ⟨_, rfl, mM⟩) ?_; intro w5 cnt5 hR5 hc5 hb5 hz5)
        | fail)
      obtain ⟨R, hR⟩ : ∃ R, Hid (R = w4.heap.size) := ⟨_, rfl⟩
      rw [← hR.out] at hR5
      rw [← hR.out]
      (try simp only [Act.put, List.setIfInBounds_toArray, List.set_cons_succ, List.set_cons_zero])
      have m5 := m4.below hb5 m4.lt
      have s5 := s4.trans (hb5.mono s4.size)
      have hRw : Hid (w2.heap.size ≤ R ∧ tB < R) := by have h1 := hR.out; have h2 := s4.size; have h3 := m4.lt; exact ⟨by omega, by omega⟩
      have h00 : Hid (cntB (fun j : Nat => !(sv g (j : Int)).isSome && (tel g p 0 (j : Int)).isSome) 32 = 0) := cntB_none fun j _ => by
        unfold sv tel
        cases g (j : Int) <;> rfl
      clear m4 s4 hb5 hz5 mM
      go_loopw [11] (fun c wr => ∃ (left : Int → Bool) (cnt : Nat), c = .int .i64 (cntB (fun j : Nat => !left (j : Int) && (tel g p 0 (j : Int)).isSome) 32 : Nat) ∧ RngV Tryz.prog wr (.map (some t3)) R ms.length (sv g) left cnt ∧ MapF Tryz.prog wr tB 0 (sv (smF p 0)) ∧ Below w2.heap.size w2 wr) (fun _ wr => rleft wr R)
      case atStart => exact ⟨_, _, by rw [h00.out]; rfl, hR5, m5, s5⟩
      case round =>
        clear hR5 m5 s5 hc5 h00
        obtain ⟨left, cnt, rfl, hRr, mr, hbr⟩ := hrel
        have hm0 : Hid _ := hRr.left_eq
        rcases hRr.next und3 0 with ⟨hdn, hrun⟩ | ⟨i, u, w5, cnt5, hi, hle, hf, hrun, hR5, hlt, hu, hen⟩
        · have hOT : cntB (fun j : Nat => !left (j : Int) && (tel g p 0 (j : Int)).isSome) 32 = cntB (fun j : Nat => (tel g p 0 (j : Int)).isSome) 32 := cntB_congr fun j hj => by rw [hdn _ (kOk_small (by omega) (by omega))]; rfl
          rw [hOT]
          obtain ⟨OT, hOT'⟩ : ∃ o, Hid (cntB (fun j : Nat => (tel g p 0 (j : Int)).isSome) 32 = o) := ⟨_, rfl⟩
          rw [hOT'.out]
          clear hOT hdn hRr hm0
          have cHr : wr.cell? ⟨gH, L.length, none⟩ = some (.slice (some ⟨yH, 0, none⟩) 32 yc) := (World.cell?_of_block (hbr.block gH gH')).trans cH1
          go_wp2_with fail
          have s6 := hbr
          go_loopw [70] (fun i wq => ∃ k : Nat, k ≤ 32 ∧ i = .int .i64 k ∧ MapF Tryz.prog wq tB k (sv (smF p k)) ∧ Below w2.heap.size w2 wq) (fun i _ => 32 - (intOf i).toNat)
          case atStart => exact ⟨0, by omega, rfl, mr, s6⟩
          case round =>
            clear mr s6 hbr cHr hrun
            obtain ⟨k, hk, rfl, mq, hbq⟩ := hrel
            by_cases hlt : k < 32
            · obtain ⟨_, _, e9, _, cYr⟩ := Tr.own_tx (row_below hHad hbq) k hlt
              injection e9 with e9
              injection e9 with e9 e10
              subst e9 e10
              rw [Nat.zero_add] at cYr
              have hst := smF_step p k
              have HST : Hid _ := hst
              clear hst
              have hlt' : (k : Int) < 32 := by omega
              generalize txt p k = x at *
              go_wp2_with (first
                | (refine wpl_putF rfl rfl 31 _ _ _ rfl und3 9 undS tB k (sv (smF p k)) (k : Int) (.string x) rfl rfl rfl mq (by omega) (kOk_small (by omega) hlt') ?_; intro w7 m7 hu7')
                | fail)
              have hu7 : Upd wr w7 tB := ⟨hu7'.os, hu7'.tape, hu7'.output, hu7'.size, hu7'.block⟩
              rw [HST.out] at m7
              have htB' := htB.out
              exact ⟨⟨k + 1, by omega, by go_num, m7, below_upd hbq hu7 (by omega)⟩, by simp [intOf]; omega⟩
            · obtain rfl : k = 32 := by omega
              have hd6 := hd.below hbq
              clear hd cH1 hHad gH'
              go_wp2_with fail
              refine (Dv.image_any D O S [] (-1) dv lf wr hd6.dev).mono ?_
              rintro e w6 ⟨rfl, BA, g6⟩
              obtain ⟨GA, hGA⟩ : ∃ G, Hid (wr.heap.size = G) := ⟨_, rfl⟩
              have nA : ¬ Busy O C VB wr.heap.size := fun hx => by have := (hd6.busy _ hx).2; omega
              have hd7 := hd6.below g6
              have m7 := mq.below g6 mq.lt
              have b7 : Below w.heap.size w w6 := g1.trans (hd7.bel.mono g1.size)
              rw [hGA.out] at BA nA
              rw [hGA.out]
              clear hd6 mq g6 hbq b2 hlt hk m0l hw2'
              go_wp2_with fail
              refine (tell_tldX VB D C sec L.length f r CB nn p (.map (some tB)) 32 (smF p 32) O S dv lf w6 hd7.vlt (Or.inr ⟨_, rfl, m7⟩) (smF_ok hd7.tld) hd7.dev hd7.cnt hd7.tld (by omega) (by omega) (by omega) (fun q hq => (hd7.own q hq).2) hd7.o1 hd7.o2 hd7.o3 (hK.below b7) (fun _ => none) (smF_tel _ _).symm).mono ?_
              rintro e w8 ⟨rfl, r1, CB1, n1, O1, v1, l1, hV8, hn8, hT8, hD8, hO8, hC8, C8⟩
              rw [nxP_none, nxF_none] at hV8 hT8
              have hd8 := hd7.told hV8 hT8 hD8 hO8 hC8 C8
              have BA8 := BA.chg C8 nA
              have nA8 := busy_told hO8 BA.lt nA
              have hne : bks S ((L.length + 1) % 2) ≠ bks (nxS S sec (L.length + 1) 1 f p fun _ => none) ((L.length + 1) % 2) := fun e => by
                obtain ⟨x, hx, hx'⟩ := hd7.tld.old
                have h := hx' _ (sup_one hx (on_sup (hT8.on (by omega))) e)
                omega
              have hz : cntB (difB S (nxS S sec (L.length + 1) 1 f p fun _ => none)) 64 = 0 := by
                have h := dif_count (sec := sec) (m := L.length + 1) (en := 1) (f := f) (p := p) hd7.tld.low (t := fun _ => none) (fun id _ x hx => by cases hx) (by omega) 32 (by decide)
                rw [cntB_none (q := fun id => (none : Option (Int × ByteArray)).isSome) fun _ _ => rfl] at h
                exact h
              generalize nxS S sec (L.length + 1) 1 f p (fun _ => none) = S1 at *
              have HNE : Hid _ := hne
              have HZ : Hid _ := hz
              clear hd7 hV8 hT8 hD8 hO8 hC8 C8 BA nA hne hz m7 b7
              go_wp2_with fail
              refine (Dv.image_any D O1 S1 [] (-1) v1 l1 w8 hd8.dev).mono ?_
              rintro e w9 ⟨rfl, BB, g9⟩
              obtain ⟨GB, hGB⟩ : ∃ G, Hid (w8.heap.size = G) := ⟨_, rfl⟩
              have nB : ¬ Busy O1 C VB w8.heap.size := fun hx => by have := (hd8.busy _ hx).2; omega
              have hd9 := hd8.below g9
              have BA9 := BA8.below g9 BA8.lt
              have b9 : Below w.heap.size w w9 := g1.trans (hd9.bel.mono g1.size)
              rw [hGB.out] at BB nB
              rw [hGB.out]
              clear hd8 BA8 g9
              go_wp2_with fail
              refine (pages_any ma mcap ms 3 w9 (HPG.out w9 b9) (by omega) (by omega) (by omega)).mono ?_
              rintro e wa ⟨⟨rfl, mM⟩, ga⟩
              obtain ⟨ta, hta⟩ : ∃ t, Hid (w9.heap.size = t) := ⟨_, rfl⟩
              rw [hg.out, hta.out] at mM
              rw [hta.out]
              have hda := hd9.below ga
              have BAa := BA9.below ga BA9.lt
              have BBa := BB.below ga BB.lt
              have ba : Below w.heap.size w wa := g1.trans (hda.bel.mono g1.size)
              clear hd9 BA9 BB b9 ga
              go_wp2_with fail
              refine (tell_tldX VB D C sec (L.length + 1) f r1 CB1 n1 p (.map (some ta)) ms.length g O1 S1 v1 l1 wa hda.vlt (Or.inr ⟨_, rfl, mM⟩) HG.out hda.dev hda.cnt hda.tld (by omega) (by omega) (by omega) (fun q hq => (hda.own q hq).2) hda.o1 hda.o2 hda.o3 (hK.below ba) _ rfl).mono ?_
              rintro e wb ⟨rfl, r2, CB2, n2, O2, v2, l2, hVb, hnb, hTb, hDb, hOb, hCb, Cb⟩
              have hdb := hda.told hVb hTb hDb hOb hCb Cb
              have BAb := BAa.chg Cb nA8
              have nAb := busy_told hOb BAa.lt nA8
              have BBb := BBa.chg Cb nB
              have nBb := busy_told hOb BBa.lt nB
              have hc2 : cntB (difB S1 (nxS S1 sec (L.length + 1 + 1) 1 f p (tel g p ((L.length + 1 + 1 : Nat) : Int)))) 64 = OT := by
                have h := dif_count (sec := sec) (m := L.length + 1 + 1) (en := 1) (f := f) (p := p) hda.tld.low (t := tel g p ((L.length + 1 + 1 : Nat) : Int)) (fun id _ x hx => (tel_some hx).1) (by omega) 32 (by decide)
                rw [← hOT'.out, cntB_congr (n := 32) (q := fun j : Nat => (tel g p 0 (j : Int)).isSome) fun j _ => tel_isSome g p 0 ((L.length + 1 + 1 : Nat) : Int) (j : Int)]
                exact h
              generalize nxS S1 sec (L.length + 1 + 1) 1 f p (tel g p ((L.length + 1 + 1 : Nat) : Int)) = S2 at *
              generalize nxF f (tel g p ((L.length + 1 + 1 : Nat) : Int)) = f2 at *
              generalize nxP p (tel g p ((L.length + 1 + 1 : Nat) : Int)) = p2 at *
              have HC2 : Hid _ := hc2
              clear hda hVb hTb hDb hOb hCb Cb BAa BBa nA8 nB ba mM hc2
              go_wp2_with fail
              refine (Dv.image_any D O2 S2 [] (-1) v2 l2 wb hdb.dev).mono ?_
              rintro e wc ⟨rfl, BC, gc⟩
              obtain ⟨GC, hGC⟩ : ∃ G, Hid (wb.heap.size = G) := ⟨_, rfl⟩
              have nC : ¬ Busy O2 C VB wb.heap.size := fun hx => by have := (hdb.busy _ hx).2; omega
              have hdc := hdb.below gc
              have BAc := BAb.below gc BAb.lt
              have BBc := BBb.below gc BBb.lt
              have bc : Below w.heap.size w wc := g1.trans (hdc.bel.mono g1.size)
              rw [hGC.out] at BC nC
              rw [hGC.out]
              clear hdb BAb BBb gc
              go_wp2_with fail
              refine (turn_S VB D C sec (L.length + 1 + 1) f2 r2 CB2 n2 p2 O2 S2 v2 l2 wc hdc.vlt hdc.dev hdc.cnt hdc.tld (by omega) (by omega) (by omega) (fun q hq => (hdc.own q hq).2) hdc.o1 hdc.o2 hdc.o3 (hK.below bc)).mono ?_
              rintro e wd ⟨rfl, ⟨S3, O3, v3, l3, hDd, hOd, hc3⟩, Cd⟩
              have HC3 : Hid _ := hc3
              have BAd := BAc.chg Cd nAb
              have BBd := BBc.chg Cd nBb
              have BCd := BC.chg Cd nC
              have bd : Below w.heap.size w wd := Cd.to bc bc.size (fun q hq => by have := (hdc.busy q hq).1; have := g1.size; omega)
              have HI : Hid (∀ W', Below wd.heap.size wd W' → (Blk W' GA (Dv.ts 66 fun k => sb 256 (S k)) 9 ∧ Blk W' GB (Dv.ts 66 fun k => sb 256 (S1 k)) 9 ∧ Blk W' GC (Dv.ts 66 fun k => sb 256 (S2 k)) 9) ∧ Dv.Dev W' O3 D S3 [] (-1) v3 l3) := fun W' h => ⟨⟨BAd.below h BAd.lt, BBd.below h BBd.lt, BCd.below h BCd.lt⟩, hDd.below h⟩
              clear hdc hDd hOd hc3 Cd BAc BBc BC nAb nBb nC bc BAd BBd BCd
              go_wp2_with fail
              have s0 : Below wd.heap.size wd wd.drew := below_drewN (Below.refl _ _) 1
              refine regS_in 30 (fun W' => Below wd.heap.size wd W') Tr.mixed rfl ?_
              refine regS_take 0 97 (.func (.func 25) #[] #[]) rfl rfl (by kernel_rfl) (fun _ _ _ h => h) (by kernel_rfl) (fun w hs' => by go_simp) s0 ?_
              refine regS_take 1 98 (.slice (some ⟨GA, 0, none⟩) 66 66) rfl rfl (by kernel_rfl) (fun _ _ _ h => h) (by kernel_rfl) (fun w hs' => by go_simp) s0 ?_
              refine regS_take 2 99 (.slice (some ⟨GB, 0, none⟩) 66 66) rfl rfl (by kernel_rfl) (fun _ _ _ h => h) (by kernel_rfl) (fun w hs' => by go_simp) s0 ?_
              try simp only [Act.put, List.setIfInBounds_toArray, List.set_cons_succ, List.set_cons_zero]
              refine regS_one 3 rfl (by kernel_rfl) (by kernel_rfl) (fun K hK' => ?_)
              go_wp2_with fail
              refine (chg_any GA GB S S1 wd.drew (HI.out _ s0).1.1 (HI.out _ s0).1.2.1).mono ?_
              rintro e we ⟨rfl, gx3⟩
              have s1 := s0.trans (gx3.mono s0.size)
              refine hK' _ _ s1 ?_
              clear hK' K
              rw [HZ.out]
              refine regS_take 4 101 (.bool true) rfl rfl (by kernel_rfl) (fun _ _ _ h => h) (by kernel_rfl) (fun w hs' => by go_simp) s1 ?_
              refine regS_take 5 102 (.bool true) rfl rfl (by kernel_rfl) (fun _ _ _ h => h) (by kernel_rfl) (fun w hs' => by go_simp) s1 ?_
              refine regS_take 6 103 (.slice (some ⟨GA, 0, none⟩) 66 66) rfl rfl (by kernel_rfl) (fun _ _ _ h => h) (by kernel_rfl) (fun w hs' => by go_simp) s1 ?_
              refine regS_take 7 104 (.slice (some ⟨GA, 0, none⟩) 2 66) rfl rfl (by kernel_rfl) (fun _ _ _ h => h) (by kernel_rfl) (fun w hs' => by go_simp) s1 ?_
              refine regS_take 8 105 (.slice (some ⟨GB, 0, none⟩) 66 66) rfl rfl (by kernel_rfl) (fun _ _ _ h => h) (by kernel_rfl) (fun w hs' => by go_simp) s1 ?_
              refine regS_take 9 106 (.slice (some ⟨GB, 0, none⟩) 2 66) rfl rfl (by kernel_rfl) (fun _ _ _ h => h) (by kernel_rfl) (fun w hs' => by go_simp) s1 ?_
              try simp only [Act.put, List.setIfInBounds_toArray, List.set_cons_succ, List.set_cons_zero]
              refine regS_one 10 rfl (by kernel_rfl) (by kernel_rfl) (fun K hK' => ?_)
              go_wp2_with fail
              refine (eq2_ne GA GB 66 66 S S1 we (HI.out _ s1).1.1 (HI.out _ s1).1.2.1 ((L.length + 1) % 2) (by omega) HNE.out).mono ?_
              rintro e wf ⟨rfl, gx10⟩
              have s2 := s1.trans (gx10.mono s1.size)
              refine hK' _ _ s2 ?_
              clear hK' K
              refine regS_take 11 108 (.bool true) rfl rfl (by kernel_rfl) (fun _ _ _ h => h) (by kernel_rfl) (fun w hs' => by go_simp) s2 ?_
              refine regS_take 12 109 (.bool true) rfl rfl (by kernel_rfl) (fun _ _ _ h => h) (by kernel_rfl) (fun w hs' => by go_simp) s2 ?_
              refine regS_take 13 110 (.bool true) rfl rfl (by kernel_rfl) (fun _ _ _ h => h) (by kernel_rfl) (fun w hs' => by go_simp) s2 ?_
              refine regS_take 14 111 (.func (.func 25) #[] #[]) rfl rfl (by kernel_rfl) (fun _ _ _ h => h) (by kernel_rfl) (fun w hs' => by go_simp) s2 ?_
              refine regS_take 15 112 (.slice (some ⟨GB, 0, none⟩) 66 66) rfl rfl (by kernel_rfl) (fun _ _ _ h => h) (by kernel_rfl) (fun w hs' => by go_simp) s2 ?_
              refine regS_take 16 113 (.slice (some ⟨GC, 0, none⟩) 66 66) rfl rfl (by kernel_rfl) (fun _ _ _ h => h) (by kernel_rfl) (fun w hs' => by go_simp) s2 ?_
              refine regS_take 18 115 (.int .i64 (OT : Int)) rfl rfl (by kernel_rfl) (fun _ _ _ h => h) (by kernel_rfl) (fun w hs' => by go_simp) s2 ?_
              try simp only [Act.put, List.setIfInBounds_toArray, List.set_cons_succ, List.set_cons_zero]
              refine regS_one 17 rfl (by kernel_rfl) (by kernel_rfl) (fun K hK' => ?_)
              go_wp2_with fail
              refine (chg_any GB GC S1 S2 wf (HI.out _ s2).1.2.1 (HI.out _ s2).1.2.2).mono ?_
              rintro e wg ⟨rfl, gx17⟩
              have s3 := s2.trans (gx17.mono s2.size)
              refine hK' _ _ s3 ?_
              clear hK' K
              rw [HC2.out]
              refine regS_take 19 116 (.bool true) rfl rfl (by kernel_rfl) (fun _ _ _ h => h) (by kernel_rfl) (fun w hs' => by go_simp) s3 ?_
              refine regS_take 20 117 (.bool true) rfl rfl (by kernel_rfl) (fun _ _ _ h => h) (by kernel_rfl) (fun w hs' => by go_simp) s3 ?_
              refine regS_take 21 118 (.bool true) rfl rfl (by kernel_rfl) (fun _ _ _ h => h) (by kernel_rfl) (fun w hs' => by go_simp) s3 ?_
              refine regS_take 22 119 (.func (.func 25) #[] #[]) rfl rfl (by kernel_rfl) (fun _ _ _ h => h) (by kernel_rfl) (fun w hs' => by go_simp) s3 ?_
              refine regS_take 23 120 (.slice (some ⟨GC, 0, none⟩) 66 66) rfl rfl (by kernel_rfl) (fun _ _ _ h => h) (by kernel_rfl) (fun w hs' => by go_simp) s3 ?_
              refine regS_take 24 121 (.pointer (some ⟨D, 0, none⟩)) rfl rfl (by kernel_rfl) (fun _ _ _ h => h) (by kernel_rfl) (fun w hs' => by go_simp) s3 ?_
              try simp only [Act.put, List.setIfInBounds_toArray, List.set_cons_succ, List.set_cons_zero]
              refine regS_one 25 rfl (by kernel_rfl) (by kernel_rfl) (fun K hK' => ?_)
              go_wp2_with fail
              refine (Dv.image_any D O3 S3 [] (-1) v3 l3 wg (HI.out _ s3).2).mono ?_
              rintro e wh ⟨rfl, BD, gx25⟩
              have s4 := s3.trans (gx25.mono s3.size)
              refine hK' _ _ s4 ?_
              clear hK' K
              try simp only [Act.put, List.setIfInBounds_toArray, List.set_cons_succ, List.set_cons_zero]
              refine regS_one 26 rfl (by kernel_rfl) (by kernel_rfl) (fun K hK' => ?_)
              go_wp2_with fail
              refine (chg_any GC wg.heap.size S2 S3 wh (HI.out _ s4).1.2.2 BD).mono ?_
              rintro e wi ⟨rfl, gx26⟩
              have s5 := s4.trans (gx26.mono s4.size)
              refine hK' _ _ s5 ?_
              clear hK' K
              rw [HC3.out]
              refine regS_take 27 124 (.bool true) rfl rfl (by kernel_rfl) (fun _ _ _ h => h) (by kernel_rfl) (fun w hs' => by go_simp) s5 ?_
              refine regS_take 28 125 (.bool true) rfl rfl (by kernel_rfl) (fun _ _ _ h => h) (by kernel_rfl) (fun w hs' => by go_simp) s5 ?_
              refine regS_take 29 4 (.bool true) rfl rfl (by kernel_rfl) (fun _ _ _ h => h) (by kernel_rfl) (fun w hs' => by go_simp) s5 ?_
              refine regS_end (by kernel_rfl) ?_
              try simp only [Act.put, List.setIfInBounds_toArray, List.set_cons_succ, List.set_cons_zero]
              go_wp2_with fail
              go_ret
              exact ⟨rfl, bd.trans (s5.mono bd.size)⟩
        · obtain ⟨s, hgi, rfl⟩ := sv_inv hf
          have hm5 : Hid _ := hR5.left_eq
          have hik := (HG.out i s hgi).1
          obtain ⟨ii, rfl⟩ : ∃ ii : Nat, i = (ii : Int) := ⟨i.toNat, by omega⟩
          have s5 := below_upd hbr hu hRw.out.1
          have m5 := mr.upd hu (by have := hRw.out.2; omega)
          have cHr : w5.cell? ⟨gH, L.length, none⟩ = some (.slice (some ⟨yH, 0, none⟩) 32 yc) := (World.cell?_of_block (s5.block gH gH')).trans cH1
          obtain ⟨_, _, e9, _, cYr⟩ := Tr.own_tx (row_below hHad s5) ii (by omega)
          injection e9 with e9
          injection e9 with e9 e10
          subst e9 e10
          rw [Nat.zero_add] at cYr
          have hcn := oth_step (T := fun j : Nat => (tel g p 0 (j : Int)).isSome) hle (show ii < 32 by omega)
          have hcl := cntB_le (fun j : Nat => !left (j : Int) && (tel g p 0 (j : Int)).isSome) 32
          have HC : Hid _ := hcn
          have HT : Hid _ := tel_told (p := p) (c := 0) hgi
          have HLT : Hid (cnt5 < cnt) := hlt
          have HM : Hid (RngV Tryz.prog w5 (.map (some t3)) R ms.length (sv g) (fun j => left j && !decide (j = (ii : Int))) cnt5 ∧ MapF Tryz.prog w5 tB 0 (sv (smF p 0)) ∧ Below w2.heap.size w2 w5) := ⟨hR5, m5, s5⟩
          clear hcn hR5 m5 s5 hRr mr hbr hHad hd hf hgi hlt
          obtain ⟨c0, hc0⟩ : ∃ c, Hid (cntB (fun j : Nat => !left (j : Int) && (tel g p 0 (j : Int)).isSome) 32 = c) := ⟨_, rfl⟩
          rw [hc0.out] at hcl
          rw [hc0.out]
          by_cases hx : s.toList = (txt p ii).toList
          · obtain rfl := toL_inj hx
            clear hx
            go_wp2_with fail
            exact ⟨⟨_, _, by rw [HC.out, hc0.out, HT.out]; simp, HM.out.1, HM.out.2.1, HM.out.2.2⟩, by rw [hm5.out, hm0.out]; exact HLT.out⟩
          · have HT2 : Hid ((tel g p 0 (ii : Int)).isSome = true) := by unfold Hid; rw [HT.out, decide_eq_false hx]; rfl
            clear HT
            generalize txt p ii = x at *
            go_wp2_with fail
            · exact ⟨⟨_, _, by rw [HC.out, hc0.out, HT2.out]; rfl, HM.out.1, HM.out.2.1, HM.out.2.2⟩, by rw [hm5.out, hm0.out]; exact HLT.out⟩
            · exfalso; rename_i h; simp [hx] at h
end Go.Proofs.YtmfbfhkhfhphfabGreatDoor.Vt
