/-
  Part of the proof: NearFinds is walked as far as both answers.
-/
import Derived.Test.YtamalmgfhpneaaaDoorB24
namespace Go.Proofs.YtamalmgfhpneaaaDoor.Nf
open Go.RowKit
open It Nr Ce
theorem compare_all (x y : ByteArray × Int) (w : World) : Calls Tryd.prog 7 #[.agg #[.string x.1, .int .i64 x.2], .agg #[.string y.1, .int .i64 y.2]] w fun e w' => e = .returned (.int .i64 (cfF x y)) ∧ Below w.heap.size w w' := by
  refine (compare_any x y w).mono ?_
  rintro e w' ⟨he, os, rfl⟩
  exact ⟨he, below_grow (Below.refl _ _) os (Nat.le_refl _)⟩
/-- The number of what a call answers. -/
def eN (b : Bool) : Int := if b then 0 else 1
theorem bareE (b : Bool) (w : World) (hE : EB w) : Calls Tryd.prog 13 #[ev b, .int .i64 (eN b)] w fun e w' => e = .returned (.bool true) ∧ Below w.heap.size w w' := by
  cases b with
  | true => exact (bare_nil w).mono fun e w' ⟨h1, h2⟩ => ⟨h1, by rw [h2]; exact Below.refl _ _⟩
  | false => exact bare_some w 1 hE
theorem right_all {x : Itm} {d : Int} (h : rightB x d = true) : (1 ≤ d ∧ d ≤ 8) ∧ (x.nums.length : Int) = d ∧ x.nums.all numB = true := by
  simp only [rightB, dimB, Bool.and_eq_true, decide_eq_true_eq] at h
  exact ⟨h.1.1.1.1, h.1.1.1.2, h.2⟩
theorem refTop_any (dim : Int) (a : Option Addr) (c : Nat) (L : List ItD) (b : Option Addr) (d : Nat) (ys : List Int) (k : Int) (tag : ByteArray) (w : World) (h : Its w a L) (hl : L.length ≤ 100) (hy : Ints w b ys) (hyl : ys.length ≤ maxLen)
    (hnum : ∀ x ∈ L, x.x.nums.all numB = true ∧ x.x.nums.length ≤ 100) :
    Calls Tryd.prog 11 #[.int .i64 dim, .slice a L.length c, .slice b ys.length d, .int .i64 k, .string tag] w fun e w' => (∃ v, e = .returned (.tuple #[v, .int .i64 (eN (askB dim ys k))]) ∧ Fnds w' v (XK (askB dim ys k) ys tag k L)) ∧ Below w.heap.size w w' := by
  cases hask : askB dim ys k with
  | true => exact refTop_ok dim a c L b d ys k tag w h hl hy hyl hask hnum
  | false =>
    refine (refTop_no dim a L.length c b d ys k tag w hy hyl hask).mono ?_
    rintro e w' ⟨rfl, rfl⟩
    exact ⟨⟨_, rfl, none, 0, rfl, Nat.le_refl _, fun i x hx => by cases hx⟩, Below.refl _ _⟩
set_option maxRecDepth 100000 in
set_option maxHeartbeats 8000000 in
theorem near_main (dim : Int) (a : Option Addr) (c : Nat) (ds : List ItD) (b : Option Addr) (d : Nat) (ys : List Int) (k : Int) (tag xn yn : ByteArray) (xf yf : Int) (w : World) (hE : EB w) (h : Its w a ds) (hl : ds.length ≤ maxLen) (hy : Ints w b ys) (hyl : ys.length ≤ 12) (ht : tag.size ≤ 60) (hxn : xn.size ≤ 60) (hyn : yn.size ≤ 60) :
    Calls Tryd.prog 3 #[.int .i64 dim, .slice a ds.length c, .slice b ys.length d, .int .i64 k, .string tag, .agg #[.string xn, .int .i64 xf], .agg #[.string yn, .int .i64 yf]] w fun e w' => e = .returned (.bool true) ∧ Below w.heap.size w w' := by
  have hyl' : ¬ (12 : Int) < (ys.length : Int) := by omega
  have hym : ys.length ≤ maxLen := by unfold maxLen; omega
  have a1 := below_alloc w (.cells #[.string xn, .int .i64 xf] 25)
  have a2 := below_alloc (w.alloc (.cells #[.string xn, .int .i64 xf] 25)) (.cells #[.string yn, .int .i64 yf] 25)
  have jx0 : Blk (w.alloc (.cells #[.string xn, .int .i64 xf] 25)) w.heap.size #[.string xn, .int .i64 xf] 25 := Blk.new w _ _
  have jx := jx0.below a2 jx0.lt
  have jy : Blk ((w.alloc (.cells #[.string xn, .int .i64 xf] 25)).alloc (.cells #[.string yn, .int .i64 yf] 25)) (w.heap.size + 1) #[.string yn, .int .i64 yf] 25 := Blk.new' _ _ _ (by simp)
  have b0 := a1.trans (a2.mono a1.size)
  obtain ⟨W, hW⟩ : ∃ W, (w.alloc (.cells #[.string xn, .int .i64 xf] 25)).alloc (.cells #[.string yn, .int .i64 yf] 25) = W := ⟨_, rfl⟩
  rw [hW] at b0 jx jy
  have HW : Hid _ := hW
  have H1 : Hid _ := short_any a c ds W (h.below b0) hl
  have HL1 : Hid (∀ W, Calls Tryd.prog 6 #[.string tag] W fun e w' => e = .returned (.bool false) ∧ w' = W) := fun W => by
    have := long_any tag W (by unfold maxLen; omega)
    rwa [decide_eq_false (by omega)] at this
  have HL2 : Hid (∀ W, Calls Tryd.prog 6 #[.string xn] W fun e w' => e = .returned (.bool false) ∧ w' = W) := fun W => by
    have := long_any xn W (by unfold maxLen; omega)
    rwa [decide_eq_false (by omega)] at this
  have HL3 : Hid (∀ W, Calls Tryd.prog 6 #[.string yn] W fun e w' => e = .returned (.bool false) ∧ w' = W) := fun W => by
    have := long_any yn W (by unfold maxLen; omega)
    rwa [decide_eq_false (by omega)] at this
  have HE : Hid (∀ W', Below w.heap.size w W' → EB W') := fun W' hb => hE.below hb
  have HYW : Hid (∀ W', Below w.heap.size w W' → Ints W' b ys) := fun W' hb => hy.below hb
  have HIW : Hid (∀ W', Below w.heap.size w W' → Its W' a ds) := fun W' hb => h.below hb
  have hx0 := jx.cell 0
  have hx1 := jx.cell 1
  have hy0 := jy.cell 0
  have hy1 := jy.cell 1
  have HJX : Hid (∀ W', Below W.heap.size W W' → Blk W' w.heap.size #[.string xn, .int .i64 xf] 25) := fun W' hb => jx.below hb jx.lt
  have HJY : Hid (∀ W', Below W.heap.size W W' → Blk W' (w.heap.size + 1) #[.string yn, .int .i64 yf] 25) := fun W' hb => jy.below hb jy.lt
  clear a1 a2 jx0 jx jy hE hy h hW
  go_enter Tryd.func3, Tryd.ntmps3
  go_wp2_with fail
  rw [HW.out]
  refine Calls.mono H1.out ?_
  rintro e w' ⟨⟨sh, rfl, hsh⟩, hw'⟩
  obtain rfl : W = w' := hw'.symm
  clear hw' H1 HW
  cases sh with
  | false =>
    go_wp2_with fail
    go_ret
    exact ⟨rfl, b0⟩
  | true =>
    have hl65 := hsh rfl
    clear hsh hl
    go_wp2_with fail
    refine Calls.mono (HL1.out _) ?_
    rintro e w' ⟨rfl, hw'⟩
    obtain rfl : W = w' := hw'.symm
    clear hw' HL1
    go_wp2_with fail
    refine Calls.mono (HL2.out _) ?_
    rintro e w' ⟨rfl, hw'⟩
    obtain rfl : W = w' := hw'.symm
    clear hw' HL2
    go_wp2_with fail
    refine Calls.mono (HL3.out _) ?_
    rintro e w' ⟨rfl, hw'⟩
    obtain rfl : W = w' := hw'.symm
    clear hw' HL3
    go_wp2_with fail
    refine (compare_all (xn, xf) (yn, yf) W).mono ?_
    rintro e w3 ⟨rfl, g3⟩
    have b3 := b0.trans (g3.mono b0.size)
    go_upto_region 4 with fail
    obtain ⟨n, HN⟩ : ∃ n, Hid (cfF (xn, xf) (yn, yf) = n) := ⟨_, rfl⟩
    rw [HN.out]
    go_cut [87] from 47 to 87 (fun v wx => v = .bool false ∧ Below w3.heap.size w3 wx)
    case first =>
      have hx3 := HJX.out w3 g3
      have hy3 := HJY.out w3 g3
      have hx0 := hx3.cell 0
      have hx1 := hx3.cell 1
      have hy0 := hy3.cell 0
      have hy1 := hy3.cell 1
      have HR1 : Hid _ := ask_any dim b d ys k w3 (HYW.out w3 b3) hym
      have HR2 : Hid _ := refAsk_any dim b d ys k w3 (HYW.out w3 b3) hym
      obtain ⟨r, hr⟩ : ∃ r, askB dim ys k = r := ⟨_, rfl⟩
      rw [hr] at HR1 HR2
      clear hr hx3 hy3 HJX HJY HYW HIW HE g3
      have hn := HN.out
      clear HN
      by_cases h1 : xf < yf
      · have hn1 : n < 0 := by rw [← hn, cfF_neg, ltF_iff]; exact Or.inl h1
        have hn0 : (n == 0) = false := by rw [beq_eq_false_iff_ne]; omega
        have hxy : (xf == yf) = false := by rw [beq_eq_false_iff_ne]; omega
        clear hn
        go_wp2_with fail
        refine Calls.mono HR1.out ?_
        rintro e w' ⟨rfl, hw'⟩
        obtain rfl : w3 = w' := hw'.symm
        clear hw'
        go_wp2_with fail
        refine Calls.mono HR2.out ?_
        rintro e w' ⟨rfl, hw'⟩
        obtain rfl : w3 = w' := hw'.symm
        clear hw'
        go_wp2_with fail
        go_meet
        exact ⟨rfl, Below.refl _ _⟩
      · by_cases h2 : xf = yf
        · subst h2
          have hcb : n = Lib.compareBytes xn.data.toList yn.data.toList := by rw [← hn]; unfold cfF; rw [if_pos rfl]
          have hbl : Op.bytesLess xn.toList yn.toList = decide (n < 0) := by rw [less_cmp, Lib.toList_data, Lib.toList_data, hcb]
          by_cases h3 : n < 0
          · rw [decide_eq_true h3] at hbl
            have hn0 : (n == 0) = false := by rw [beq_eq_false_iff_ne]; omega
            have hxy : (xn.toList == yn.toList) = false := by
              rw [beq_eq_false_iff_ne]; intro e
              have := tl_inj e
              subst this
              rw [(cfF_zero (xn, xf) (xn, xf)).2 rfl] at hn
              omega
            clear hn hcb
            go_wp2_with fail
            refine Calls.mono HR1.out ?_
            rintro e w' ⟨rfl, hw'⟩
            obtain rfl : w3 = w' := hw'.symm
            clear hw'
            go_wp2_with fail
            refine Calls.mono HR2.out ?_
            rintro e w' ⟨rfl, hw'⟩
            obtain rfl : w3 = w' := hw'.symm
            clear hw'
            go_wp2_with fail
            go_meet
            exact ⟨rfl, Below.refl _ _⟩
          · rw [decide_eq_false h3] at hbl
            by_cases h4 : n = 0
            · have hxy : xn = yn := by
                have := (cfF_zero (xn, xf) (yn, xf)).1 (by rw [hn]; exact h4)
                exact congrArg Prod.fst this
              subst hxy h4
              clear hn hcb
              go_wp2_with fail
              refine Calls.mono HR1.out ?_
              rintro e w' ⟨rfl, hw'⟩
              obtain rfl : w3 = w' := hw'.symm
              clear hw'
              go_wp2_with fail
              refine Calls.mono HR2.out ?_
              rintro e w' ⟨rfl, hw'⟩
              obtain rfl : w3 = w' := hw'.symm
              clear hw'
              go_wp2_with fail
              go_meet
              exact ⟨rfl, Below.refl _ _⟩
            · have hn0 : (n == 0) = false := by rw [beq_eq_false_iff_ne]; omega
              have hxy : (xn.toList == yn.toList) = false := by
                rw [beq_eq_false_iff_ne]; intro e
                have := tl_inj e
                subst this
                rw [(cfF_zero (xn, xf) (xn, xf)).2 rfl] at hn
                omega
              clear hn hcb
              go_wp2_with fail
              refine Calls.mono HR1.out ?_
              rintro e w' ⟨rfl, hw'⟩
              obtain rfl : w3 = w' := hw'.symm
              clear hw'
              go_wp2_with fail
              refine Calls.mono HR2.out ?_
              rintro e w' ⟨rfl, hw'⟩
              obtain rfl : w3 = w' := hw'.symm
              clear hw'
              go_wp2_with fail
              go_meet
              exact ⟨rfl, Below.refl _ _⟩
        · have hn1 : ¬ n < 0 := by
            rw [← hn, cfF_neg, ltF_iff]; rintro (h | h)
            · exact h1 h
            · exact h2 h.1
          have hn0 : (n == 0) = false := by
            rw [beq_eq_false_iff_ne, ← hn]; intro h
            exact h2 (congrArg Prod.snd ((cfF_zero _ _).1 h))
          have hxy : (xf == yf) = false := by rw [beq_eq_false_iff_ne]; exact h2
          clear hn
          go_wp2_with fail
          refine Calls.mono HR1.out ?_
          rintro e w' ⟨rfl, hw'⟩
          obtain rfl : w3 = w' := hw'.symm
          clear hw'
          go_wp2_with fail
          refine Calls.mono HR2.out ?_
          rintro e w' ⟨rfl, hw'⟩
          obtain rfl : w3 = w' := hw'.symm
          clear hw'
          go_wp2_with fail
          go_meet
          exact ⟨rfl, Below.refl _ _⟩
    case rest =>
    obtain ⟨rfl, g4⟩ := hcut
    obtain ⟨w4, hw4⟩ : ∃ x, x = wc := ⟨_, rfl⟩
    subst hw4
    have b4 := b3.trans (g4.mono b3.size)
    have HRI : Hid _ := lright_any dim a c ds w4 (HIW.out w4 b4) (by omega)
    clear HN HJX HJY g3 g4 b3 hx0 hx1 hy0 hy1 b0 hxn hyn ht
    go_wp2_with fail
    refine Calls.mono HRI.out ?_
    rintro e w5 ⟨⟨rb, rfl, hrb⟩, g5⟩
    have b5 := b4.trans (g5.mono b4.size)
    clear HRI g5
    cases rb with
    | false =>
      go_wp2_with fail
      go_ret
      exact ⟨rfl, b5⟩
    | true =>
      have hall := hrb rfl
      clear hrb
      have HN1 : Hid (∀ x ∈ ds, x.x.nums.all numB = true ∧ x.x.nums.length ≤ 100) := fun x hx => by
        obtain ⟨hd, hl, hz⟩ := right_all (hall x hx)
        exact ⟨hz, by omega⟩
      have HN2 : Hid (∀ x ∈ ds, x.x.nums.all numB = true ∧ 0 < x.x.nums.length ∧ x.x.nums.length ≤ 100) := fun x hx => by
        obtain ⟨hd, hl, hz⟩ := right_all (hall x hx)
        exact ⟨hz, by omega, by omega⟩
      clear hall
      obtain ⟨ask, hask⟩ : ∃ ask, askB dim ys k = ask := ⟨_, rfl⟩
      have HYN : Hid (ask = true → ys.all numB = true) := fun h => by
        rw [h] at hask
        unfold askB at hask; rw [Bool.and_eq_true] at hask; exact hask.2
      have HXL : Hid ((XK ask ys tag k ds).length ≤ 1000) := Nat.le_trans (XK_len ask ys tag k ds) (by omega)
      have HT1 := refTop_any dim a c ds b d ys k tag w5 (HIW.out w5 b5) (by omega) (HYW.out w5 b5) hym HN1.out
      have HASK : Hid (askB dim ys k = ask) := hask
      rw [hask] at HT1
      have H1 : Hid _ := HT1
      clear HT1 hask b4
      obtain ⟨N, hN⟩ : ∃ N, Hid (eN ask = N) := ⟨_, rfl⟩
      rw [hN.out] at H1
      go_wp2_with fail
      refine Calls.mono H1.out ?_
      rintro e w6 ⟨⟨v1, rfl, hF1⟩, g6⟩
      have b6 := b5.trans (g6.mono b5.size)
      have HF1 : Hid (∀ W, Below w6.heap.size w6 W → Fnds W v1 (XK ask ys tag k ds)) := fun W hW => Fnds.below hF1 hW
      have HT2 := topN dim a c ds b d ys k tag w6 (HIW.out w6 b6) (by omega) (HYW.out w6 b6) hym HN1.out
      rw [HASK.out] at HT2
      obtain ⟨E, hE⟩ : ∃ E, Hid (ev ask = E) := ⟨_, rfl⟩
      rw [hE.out] at HT2
      have H2 : Hid _ := HT2
      have HBR : Hid (∀ W, Below w.heap.size w W → Calls Tryd.prog 13 #[E, .int .i64 N] W fun e w' => e = .returned (.bool true) ∧ Below W.heap.size W w') := fun W hW => by
        have := bareE ask W (HE.out W hW)
        rw [hE.out, hN.out] at this
        exact this
      clear hF1 HT2 H1 g6 b5
      go_wp2_with fail
      refine Calls.mono H2.out ?_
      rintro e w7 ⟨⟨v2, rfl, hF2⟩, g7⟩
      have b67 := g7
      have b7 := b6.trans (g7.mono b6.size)
      have HF2 : Hid (∀ W, Below w7.heap.size w7 W → Fnds W v2 (XK ask ys tag k ds)) := fun W hW => Fnds.below hF2 hW
      clear hF2 H2 g7
      go_wp2_with fail
      refine (HBR.out w7 b7).mono ?_
      rintro e w8 ⟨rfl, g8⟩
      have b68 := b67.trans (g8.mono b67.size)
      have b8 := b6.trans (b68.mono b6.size)
      have H3 : Hid _ := sameF_any v2 v1 _ w8 (HF2.out w8 g8) (HF1.out w8 b68) HXL.out
      clear g8 b67 b7
      go_wp2_with fail
      refine Calls.mono H3.out ?_
      rintro e w9 ⟨rfl, n9, h9⟩
      have g9 : Below w8.heap.size w8 w9 := by rw [h9]; exact below_drewN (Below.refl _ _) n9
      have b69 := b68.trans (g9.mono b68.size)
      have b9 := b6.trans (b69.mono b6.size)
      clear h9 g9 H3 HF2 b68 b8
      go_upto_region 12 with fail
      go_cut [141] from 120 to 141 (fun v wx => v = .bool false ∧ Below w9.heap.size w9 wx)
      case first =>
        have s0 : Below w9.heap.size w9 w9.drew := below_drewN (Below.refl _ _) 1
        cases ask with
        | false =>
          have hn1 : N = 1 := hN.out.symm
          have hn0 : (N == 0) = false := by rw [hn1]; rfl
          clear hn1
          go_wp2_with fail
          refine regS_in 22 (fun W => Below w9.heap.size w9 W) mixed rfl ?_
          refine regS_take 0 120 (.int .i64 N) rfl rfl (by kernel_rfl) (fun _ _ _ h => h) (by kernel_rfl) (fun W hW => by go_simp) s0 ?_
          refine regS_take 1 121 (.bool false) rfl rfl (by kernel_rfl) (fun _ _ _ h => h) (by kernel_rfl) (fun W hW => by go_simp) s0 ?_
          refine regS_take 2 122 (.bool false) rfl rfl (by kernel_rfl) (fun _ _ _ h => h) (by kernel_rfl) (fun W hW => by go_simp) s0 ?_
          refine regS_skip 3 123 rfl rfl (by kernel_rfl) (fun _ _ _ h => h) (by kernel_rfl) s0 ?_
          refine regS_skip 4 124 rfl rfl (by kernel_rfl) (fun _ _ _ h => h) (by kernel_rfl) s0 ?_
          refine regS_skip 5 125 rfl rfl (by kernel_rfl) (fun _ _ _ h => h) (by kernel_rfl) s0 ?_
          refine regS_take 6 126 (.bool false) rfl rfl (by kernel_rfl) (fun _ _ _ h => h) (by kernel_rfl) (fun W hW => by go_simp) s0 ?_
          refine regS_take 7 127 (.bool false) rfl rfl (by kernel_rfl) (fun _ _ _ h => h) (by kernel_rfl) (fun W hW => by go_simp) s0 ?_
          refine regS_skip 8 128 rfl rfl (by kernel_rfl) (fun _ _ _ h => h) (by kernel_rfl) s0 ?_
          refine regS_skip 9 129 rfl rfl (by kernel_rfl) (fun _ _ _ h => h) (by kernel_rfl) s0 ?_
          refine regS_skip 10 130 rfl rfl (by kernel_rfl) (fun _ _ _ h => h) (by kernel_rfl) s0 ?_
          refine regS_skip 11 131 rfl rfl (by kernel_rfl) (fun _ _ _ h => h) (by kernel_rfl) s0 ?_
          refine regS_skip 12 132 rfl rfl (by kernel_rfl) (fun _ _ _ h => h) (by kernel_rfl) s0 ?_
          refine regS_skip 13 133 rfl rfl (by kernel_rfl) (fun _ _ _ h => h) (by kernel_rfl) s0 ?_
          refine regS_skip 14 134 rfl rfl (by kernel_rfl) (fun _ _ _ h => h) (by kernel_rfl) s0 ?_
          refine regS_skip 15 135 rfl rfl (by kernel_rfl) (fun _ _ _ h => h) (by kernel_rfl) s0 ?_
          refine regS_skip 16 136 rfl rfl (by kernel_rfl) (fun _ _ _ h => h) (by kernel_rfl) s0 ?_
          refine regS_skip 17 137 rfl rfl (by kernel_rfl) (fun _ _ _ h => h) (by kernel_rfl) s0 ?_
          refine regS_skip 18 138 rfl rfl (by kernel_rfl) (fun _ _ _ h => h) (by kernel_rfl) s0 ?_
          refine regS_skip 19 139 rfl rfl (by kernel_rfl) (fun _ _ _ h => h) (by kernel_rfl) s0 ?_
          refine regS_skip 20 140 rfl rfl (by kernel_rfl) (fun _ _ _ h => h) (by kernel_rfl) s0 ?_
          refine regS_take 21 141 (.bool false) rfl rfl (by kernel_rfl) (fun _ _ _ h => h) (by kernel_rfl) (fun W hW => by go_simp) s0 ?_
          refine regS_end (by kernel_rfl) ?_
          simp only [Act.put, List.setIfInBounds_toArray, List.set_cons_succ, List.set_cons_zero]
          go_wp2_with fail
          go_meet
          exact ⟨rfl, s0⟩
        | true =>
          have hn1 : N = 0 := hN.out.symm
          have hn0 : (N == 0) = true := by rw [hn1]; rfl
          clear hn1
          by_cases hd0 : 0 < ds.length
          · have hd0' : (0 : Int) < (ds.length : Int) := by omega
            obtain ⟨x, hx⟩ : ∃ x, ds[0]? = some x := ⟨_, List.getElem?_eq_getElem hd0⟩
            obtain ⟨g, o, rfl, _, _, q3, q4⟩ := (HIW.out w9 b9) 0 x hx
            have hnm := HN1.out x (List.mem_of_getElem? hx)
            have HQ3 : Hid (∀ W, Below w9.heap.size w9 W → W.cell? ⟨g, o + 2, none⟩ = some x.val) := fun W hW => by
              obtain ⟨g', o', e, _, _, q, _⟩ := (HIW.out W (b9.trans (hW.mono b9.size))) 0 x hx
              injection e with e
              injection e with e1 e2
              subst e1 e2
              rw [Nat.zero_mul, Nat.add_zero] at q
              exact q
            have HQ4 : Hid (∀ W, Below w9.heap.size w9 W → Ints W x.a x.x.nums) := fun W hW => (q4.1).below hW
            obtain ⟨⟨nm, tg, zs⟩, xa, xc⟩ := x
            simp only [ItD.val] at HQ3 HQ4 hnm
            obtain ⟨fr, hfr⟩ : ∃ fr, farI zs ys = fr := ⟨_, rfl⟩
            have HF1 : Hid (∀ W, Below w9.heap.size w9 W → Calls Tryd.prog 15 #[.slice xa zs.length xc, .slice b ys.length d] W fun e w' => e = .returned (.int .i64 fr) ∧ Below W.heap.size W w') := fun W hW => by
              have := far_any xa b xc d zs ys W (HQ4.out W hW) (HYW.out W (b9.trans (hW.mono b9.size))) hnm.2 hnm.1 (HYN.out rfl)
              rw [hfr] at this
              exact this.mono fun e w' ⟨h1, n, h2⟩ => ⟨h1, by rw [h2]; exact below_drewN (Below.refl _ _) n⟩
            have HF2 : Hid (∀ W, Below w9.heap.size w9 W → Calls Tryd.prog 16 #[.slice xa zs.length xc, .slice b ys.length d] W fun e w' => e = .returned (.int .i64 fr) ∧ Below W.heap.size W w') := fun W hW => by
              have := refFar_any xa b xc d zs ys W (HQ4.out W hW) (HYW.out W (b9.trans (hW.mono b9.size))) hnm.2 hnm.1 (HYN.out rfl)
              rw [hfr] at this
              exact this.mono fun e w' ⟨h1, n, h2⟩ => ⟨h1, by rw [h2]; exact below_drewN (Below.refl _ _) n⟩
            clear hfr q3 q4 hx hnm HQ4
            go_wp2_with fail
            refine regS_in 22 (fun W => Below w9.heap.size w9 W) mixed rfl ?_
            refine regS_take 0 120 (.int .i64 N) rfl rfl (by kernel_rfl) (fun _ _ _ h => h) (by kernel_rfl) (fun W hW => by go_simp) s0 ?_
            refine regS_take 1 121 (.bool true) rfl rfl (by kernel_rfl) (fun _ _ _ h => h) (by kernel_rfl) (fun W hW => by go_simp) s0 ?_
            refine regS_take 2 122 (.bool true) rfl rfl (by kernel_rfl) (fun _ _ _ h => h) (by kernel_rfl) (fun W hW => by go_simp) s0 ?_
            refine regS_take 3 123 (.slice (some ⟨g, o, none⟩) ds.length c) rfl rfl (by kernel_rfl) (fun _ _ _ h => h) (by kernel_rfl) (fun W hW => by go_simp) s0 ?_
            refine regS_take 4 124 (.int .i64 ds.length) rfl rfl (by kernel_rfl) (fun _ _ _ h => h) (by kernel_rfl) (fun W hW => by go_simp) s0 ?_
            refine regS_take 5 125 (.bool true) rfl rfl (by kernel_rfl) (fun _ _ _ h => h) (by kernel_rfl) (fun W hW => by go_simp) s0 ?_
            refine regS_take 6 126 (.bool true) rfl rfl (by kernel_rfl) (fun _ _ _ h => h) (by kernel_rfl) (fun W hW => by go_simp) s0 ?_
            refine regS_take 7 127 (.bool true) rfl rfl (by kernel_rfl) (fun _ _ _ h => h) (by kernel_rfl) (fun W hW => by go_simp) s0 ?_
            simp only [Act.put, List.setIfInBounds_toArray, List.set_cons_succ, List.set_cons_zero]
            refine regS_take 8 128 (.slice (some ⟨g, o, none⟩) ds.length c) rfl rfl (by kernel_rfl) (fun _ _ _ h => h) (by kernel_rfl) (fun W hW => by go_simp) s0 ?_
            refine regS_take 9 129 (.pointer (some ⟨g, o, none⟩)) rfl rfl (by kernel_rfl) (fun _ _ _ h => h) (by kernel_rfl) (fun W hW => by go_simp) s0 ?_
            refine regS_take 10 130 (.pointer (some ⟨g, o + 2, none⟩)) rfl rfl (by kernel_rfl) (fun _ _ _ h => h) (by kernel_rfl) (fun W hW => by go_simp) s0 ?_
            refine regS_take 11 131 (.slice xa zs.length xc) rfl rfl (by kernel_rfl) (fun _ _ _ h => h) (by kernel_rfl) (fun W hW => by have a0 := HQ3.out W hW; go_simp) s0 ?_
            refine regS_take 12 132 (.slice b ys.length d) rfl rfl (by kernel_rfl) (fun _ _ _ h => h) (by kernel_rfl) (fun W hW => by go_simp) s0 ?_
            simp only [Act.put, List.setIfInBounds_toArray, List.set_cons_succ, List.set_cons_zero]
            refine regS_take 14 134 (.slice (some ⟨g, o, none⟩) ds.length c) rfl rfl (by kernel_rfl) (fun _ _ _ h => h) (by kernel_rfl) (fun W hW => by go_simp) s0 ?_
            refine regS_take 15 135 (.pointer (some ⟨g, o, none⟩)) rfl rfl (by kernel_rfl) (fun _ _ _ h => h) (by kernel_rfl) (fun W hW => by go_simp) s0 ?_
            refine regS_take 16 136 (.pointer (some ⟨g, o + 2, none⟩)) rfl rfl (by kernel_rfl) (fun _ _ _ h => h) (by kernel_rfl) (fun W hW => by go_simp) s0 ?_
            refine regS_take 17 137 (.slice xa zs.length xc) rfl rfl (by kernel_rfl) (fun _ _ _ h => h) (by kernel_rfl) (fun W hW => by have a0 := HQ3.out W hW; go_simp) s0 ?_
            refine regS_take 18 138 (.slice b ys.length d) rfl rfl (by kernel_rfl) (fun _ _ _ h => h) (by kernel_rfl) (fun W hW => by go_simp) s0 ?_
            simp only [Act.put, List.setIfInBounds_toArray, List.set_cons_succ, List.set_cons_zero]
            refine regS_one 13 rfl (by kernel_rfl) (by kernel_rfl) (fun K hK => ?_)
            go_wp2_with fail
            refine (Hid.out HF1 _ s0).mono ?_
            rintro e wa ⟨rfl, ga⟩
            have sa := s0.trans (ga.mono s0.size)
            refine hK _ _ sa ?_
            clear hK K
            refine regS_one 19 rfl (by kernel_rfl) (by kernel_rfl) (fun K hK => ?_)
            go_wp2_with fail
            refine (Hid.out HF2 _ sa).mono ?_
            rintro e wb ⟨rfl, gb⟩
            have sb := sa.trans (gb.mono sa.size)
            refine hK _ _ sb ?_
            clear hK K
            refine regS_take 20 140 (.bool false) rfl rfl (by kernel_rfl) (fun _ _ _ h => h) (by kernel_rfl) (fun W hW => by go_simp) sb ?_
            refine regS_take 21 141 (.bool false) rfl rfl (by kernel_rfl) (fun _ _ _ h => h) (by kernel_rfl) (fun W hW => by go_simp) sb ?_
            refine regS_end (by kernel_rfl) ?_
            simp only [Act.put, List.setIfInBounds_toArray, List.set_cons_succ, List.set_cons_zero]
            go_wp2_with fail
            go_meet
            exact ⟨rfl, sb⟩
          · have hd0' : ¬ (0 : Int) < (ds.length : Int) := by omega
            go_wp2_with fail
            refine regS_in 22 (fun W => Below w9.heap.size w9 W) mixed rfl ?_
            refine regS_take 0 120 (.int .i64 N) rfl rfl (by kernel_rfl) (fun _ _ _ h => h) (by kernel_rfl) (fun W hW => by go_simp) s0 ?_
            refine regS_take 1 121 (.bool true) rfl rfl (by kernel_rfl) (fun _ _ _ h => h) (by kernel_rfl) (fun W hW => by go_simp) s0 ?_
            refine regS_take 2 122 (.bool true) rfl rfl (by kernel_rfl) (fun _ _ _ h => h) (by kernel_rfl) (fun W hW => by go_simp) s0 ?_
            refine regS_take 3 123 (.slice a ds.length c) rfl rfl (by kernel_rfl) (fun _ _ _ h => h) (by kernel_rfl) (fun W hW => by go_simp) s0 ?_
            refine regS_take 4 124 (.int .i64 ds.length) rfl rfl (by kernel_rfl) (fun _ _ _ h => h) (by kernel_rfl) (fun W hW => by go_simp) s0 ?_
            refine regS_take 5 125 (.bool false) rfl rfl (by kernel_rfl) (fun _ _ _ h => h) (by kernel_rfl) (fun W hW => by go_simp) s0 ?_
            refine regS_take 6 126 (.bool false) rfl rfl (by kernel_rfl) (fun _ _ _ h => h) (by kernel_rfl) (fun W hW => by go_simp) s0 ?_
            refine regS_take 7 127 (.bool false) rfl rfl (by kernel_rfl) (fun _ _ _ h => h) (by kernel_rfl) (fun W hW => by go_simp) s0 ?_
            refine regS_skip 8 128 rfl rfl (by kernel_rfl) (fun _ _ _ h => h) (by kernel_rfl) s0 ?_
            refine regS_skip 9 129 rfl rfl (by kernel_rfl) (fun _ _ _ h => h) (by kernel_rfl) s0 ?_
            refine regS_skip 10 130 rfl rfl (by kernel_rfl) (fun _ _ _ h => h) (by kernel_rfl) s0 ?_
            refine regS_skip 11 131 rfl rfl (by kernel_rfl) (fun _ _ _ h => h) (by kernel_rfl) s0 ?_
            refine regS_skip 12 132 rfl rfl (by kernel_rfl) (fun _ _ _ h => h) (by kernel_rfl) s0 ?_
            refine regS_skip 13 133 rfl rfl (by kernel_rfl) (fun _ _ _ h => h) (by kernel_rfl) s0 ?_
            refine regS_skip 14 134 rfl rfl (by kernel_rfl) (fun _ _ _ h => h) (by kernel_rfl) s0 ?_
            refine regS_skip 15 135 rfl rfl (by kernel_rfl) (fun _ _ _ h => h) (by kernel_rfl) s0 ?_
            refine regS_skip 16 136 rfl rfl (by kernel_rfl) (fun _ _ _ h => h) (by kernel_rfl) s0 ?_
            refine regS_skip 17 137 rfl rfl (by kernel_rfl) (fun _ _ _ h => h) (by kernel_rfl) s0 ?_
            refine regS_skip 18 138 rfl rfl (by kernel_rfl) (fun _ _ _ h => h) (by kernel_rfl) s0 ?_
            refine regS_skip 19 139 rfl rfl (by kernel_rfl) (fun _ _ _ h => h) (by kernel_rfl) s0 ?_
            refine regS_skip 20 140 rfl rfl (by kernel_rfl) (fun _ _ _ h => h) (by kernel_rfl) s0 ?_
            refine regS_take 21 141 (.bool false) rfl rfl (by kernel_rfl) (fun _ _ _ h => h) (by kernel_rfl) (fun W hW => by go_simp) s0 ?_
            refine regS_end (by kernel_rfl) ?_
            simp only [Act.put, List.setIfInBounds_toArray, List.set_cons_succ, List.set_cons_zero]
            go_wp2_with fail
            go_meet
            exact ⟨rfl, s0⟩
      case rest =>
      obtain ⟨rfl, g10⟩ := hcut
      obtain ⟨w10, hw10⟩ : ∃ x, x = wc := ⟨_, rfl⟩
      subst hw10
      have b610 := b69.trans (g10.mono b69.size)
      have b10 := b6.trans (b610.mono b6.size)
      clear b69 b9 g10 HYN
      by_cases hd1 : dim < 1
      · go_wp2_with fail
        go_ret
        exact ⟨rfl, b10⟩
      by_cases hd8 : 8 < dim
      · go_wp2_with fail
        go_ret
        exact ⟨rfl, b10⟩
      have H4 : Hid _ := new_any dim a c ds w10 (HIW.out w10 b10) (by omega) HN1.out
      clear HN1
      go_wp2_with fail
      refine Calls.mono H4.out ?_
      rintro e w11 ⟨⟨p, v, os, rfl, hp, hr, hs, hpm, hol⟩, g11⟩
      have b611 := b610.trans (g11.mono b610.size)
      have b11 := b6.trans (b611.mono b6.size)
      have hok : ∀ x ∈ ds, x.Ok w11 := fun x hx => by
        obtain ⟨i, hi⟩ := List.getElem?_of_mem hx
        obtain ⟨_, _, _, _, _, _, q⟩ := (HIW.out w11 b11) i x hi
        exact q
      have HT3 := topC p dim v os w10.heap.size ds b d ys k tag w11 hp hr hs hpm (by omega) hol hok HN2.out (HYW.out w11 b11) hym
      rw [HASK.out, hE.out] at HT3
      have H5 : Hid _ := HT3
      clear HT3 hp hr hs hpm hol H4 g11 b610 b10 hok HN2
      go_wp2_with fail
      refine Calls.mono H5.out ?_
      rintro e w12 ⟨⟨v3, lk, rfl, hF3, hlk1, hlk2⟩, g12⟩
      have b612 := b611.trans (g12.mono b611.size)
      have b12 := b6.trans (b612.mono b6.size)
      have HF3 : Hid (∀ W, Below w12.heap.size w12 W → Fnds W v3 (XK ask ys tag k ds)) := fun W hW => Fnds.below hF3 hW
      clear hF3 H5 g12 b611 b11
      go_wp2_with fail
      refine (HBR.out w12 b12).mono ?_
      rintro e w13 ⟨rfl, g13⟩
      have b613 := b612.trans (g13.mono b612.size)
      have b13 := b6.trans (b613.mono b6.size)
      have H6 : Hid _ := sameF_any v3 v1 _ w13 (HF3.out w13 g13) (HF1.out w13 b613) HXL.out
      clear g13 b612 b12
      go_wp2_with fail
      refine Calls.mono H6.out ?_
      rintro e w14 ⟨rfl, n14, h14⟩
      have b14 : Below w.heap.size w w14 := by rw [h14]; exact below_drewN b13 n14
      clear h14
      go_wp2_with fail
      go_ret
      exact ⟨rfl, b14⟩
end Go.Proofs.YtamalmgfhpneaaaDoor.Nf
