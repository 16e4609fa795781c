/-
  Part of the proof: the reference's Top is walked.
-/
import Derived.Test.YtamalmgfhpneaaaDoorB23
namespace Go.Proofs.YtamalmgfhpneaaaDoor.Nf
open Go.RowKit
open It Nr Ce
theorem refTop_no (dim : Int) (a : Option Addr) (n c : Nat) (b : Option Addr) (d : Nat) (ys : List Int) (k : Int) (tag : ByteArray) (w : World) (hy : Ints w b ys) (hyl : ys.length ≤ maxLen) (hask : askB dim ys k = false) :
    Calls Tryd.prog 11 #[.int .i64 dim, .slice a n c, .slice b ys.length d, .int .i64 k, .string tag] w fun e w' => e = .returned (.tuple #[.slice none 0 0, .int .i64 1]) ∧ w' = w := by
  have HA : Hid _ := refAsk_any dim b d ys k w hy hyl
  rw [hask] at HA
  clear hask
  go_enter Tryd.func11, Tryd.ntmps11
  go_wp2_with fail
  refine Calls.mono HA.out ?_
  rintro e w' ⟨rfl, hw'⟩
  obtain rfl : w = w' := hw'.symm
  clear hw'
  go_wp2_with fail
  go_ret2
  exact ⟨rfl, rfl⟩
/-- How long a slice is. -/
def lenV : Value → Nat
  | .slice _ n _ => n
  | _ => 0
set_option maxRecDepth 100000 in
set_option maxHeartbeats 8000000 in
theorem refTop_ok (dim : Int) (a : Option Addr) (c : Nat) (ds : List ItD) (b : Option Addr) (d : Nat) (ys : List Int) (k : Int) (tag : ByteArray) (w : World) (h : Its w a ds) (hl : ds.length ≤ 100) (hy : Ints w b ys) (hyl : ys.length ≤ maxLen) (hask : askB dim ys k = true)
    (hnum : ∀ x ∈ ds, x.x.nums.all numB = true ∧ x.x.nums.length ≤ 100) :
    Calls Tryd.prog 11 #[.int .i64 dim, .slice a ds.length c, .slice b ys.length d, .int .i64 k, .string tag] w fun e w' => (∃ v, e = .returned (.tuple #[v, .int .i64 0]) ∧ Fnds w' v (tk k.toNat (fnd ys tag (xsOf ds)))) ∧ Below w.heap.size w w' := by
  have hk : 1 ≤ k ∧ k ≤ 60 := by simp [askB] at hask; exact ⟨hask.1.1.2, hask.1.2⟩
  have hyn : ys.all numB = true := by unfold askB at hask; rw [Bool.and_eq_true] at hask; exact hask.2
  have HK : Hid (1 ≤ k ∧ k ≤ 60) := hk
  have HYN : Hid (ys.all numB = true) := hyn
  have HN : Hid (∀ x ∈ ds, x.x.nums.all numB = true ∧ x.x.nums.length ≤ 100) := hnum
  have HA0 : Calls Tryd.prog 9 #[.int .i64 dim, .slice b ys.length d, .int .i64 k] w fun e w' => e = .returned (.bool true) ∧ w' = w := by
    have := refAsk_any dim b d ys k w hy hyl
    rw [hask] at this
    exact this
  have HA : Hid _ := HA0
  clear hk hyn hnum HA0 hask
  go_enter Tryd.func11, Tryd.ntmps11
  go_wp2_with fail
  refine Calls.mono HA.out ?_
  rintro e w' ⟨rfl, hw'⟩
  obtain rfl : w = w' := hw'.symm
  clear hw' HA
  go_wp2_with fail
  have hxl : (xsOf ds).length = ds.length := by simp [xsOf]
  go_loopw [13, 25] (fun v i wr => ∃ m : Nat, m ≤ ds.length ∧ i = .int .i64 m ∧ wr.ownsRow w.heap.size 25 2 v (fnd ys tag ((xsOf ds).take m)).length (flatF (fnd ys tag ((xsOf ds).take m))) ∧ (fnd ys tag ((xsOf ds).take m) = [] → v = .slice none 0 0) ∧ Below w.heap.size w wr) (fun _ i _ => ds.length - (intOf i).toNat)
  case atStart => exact ⟨0, by omega, rfl, ⟨rfl, Or.inl ⟨rfl, rfl⟩⟩, fun _ => rfl, Below.refl _ _⟩
  case round =>
    obtain ⟨m, hm, rfl, ow, hnil, br⟩ := hrel
    by_cases hlt : m < ds.length
    · have hr := h.below br
      have hyr := hy.below br
      have hdm : ds[m]? = some ds[m] := List.getElem?_eq_getElem hlt
      obtain ⟨g, o, rfl, q1, q2, q3, q4⟩ := hr m ds[m] hdm
      have hxk : (xsOf ds)[m]? = some ds[m].x := by unfold xsOf; rw [List.getElem?_map, hdm]; rfl
      have HST : Hid _ := fnd_step (ys := ys) (tag := tag) hxk
      have hnm := HN.out _ (List.mem_of_getElem? hdm)
      have hll : (fnd ys tag ((xsOf ds).take m)).length ≤ 100 := by have := fnd_len ys tag ((xsOf ds).take m); rw [List.length_take] at this; omega
      have HNIL : Hid _ := hnil
      generalize ds[m] = x at *
      obtain ⟨⟨nm, tg, zs⟩, xa, xc⟩ := x
      simp only [ItD.val] at q1 q2 q3 hxk hnm
      have q5 : Ints wr xa zs := q4.1
      have hlt' : (m : Int) < (ds.length : Int) := by omega
      generalize fnd ys tag ((xsOf ds).take m) = F at *
      obtain ⟨F', hF'⟩ : ∃ F', Hid (fnd ys tag ((xsOf ds).take (m + 1)) = F') := ⟨_, rfl⟩
      have s1 := below_alloc wr (.cells #[.string nm, .string tg, .slice xa zs.length xc] 43)
      have b1 := br.trans (s1.mono br.size)
      clear hr hnil hxk hdm q4
      by_cases ht : tagP tag ⟨nm, tg, zs⟩ = true
      · have HS2 : Hid (F' = F ++ [(nm, farI zs ys)]) := by
          have h := HST.out
          rw [hF'.out, if_pos ht] at h
          exact h
        have hgo : tag.toList = [] ∨ (¬ tag.toList = [] ∧ tg.toList = tag.toList) := by
          unfold tagP at ht
          rw [Bool.or_eq_true, decide_eq_true_eq, decide_eq_true_eq] at ht
          by_cases e : tag.toList = []
          · exact Or.inl e
          · exact Or.inr ⟨e, ht.resolve_left e⟩
        clear ht HST
        have jb : Blk (wr.alloc (.cells #[.string nm, .string tg, .slice xa zs.length xc] 43)) wr.heap.size #[.string nm, .string tg, .slice xa zs.length xc] 43 := Blk.new wr _ _
        obtain ⟨w2, hw2⟩ : ∃ w2, Hid (wr.alloc (.cells #[.string nm, .string tg, .slice xa zs.length xc] 43) = w2) := ⟨_, rfl⟩
        have HW2 : Hid (∀ W', Below w2.heap.size w2 W' → Blk W' wr.heap.size #[.string nm, .string tg, .slice xa zs.length xc] 43) := fun W' hb => by rw [← hw2.out] at hb; exact jb.below hb jb.lt
        have s1' : Below wr.heap.size wr w2 := by rw [← hw2.out]; exact s1
        have b1' : Below w.heap.size w w2 := br.trans (s1'.mono br.size)
        have ow2 := ownsRow_below ow s1'
        have q52 := q5.below s1'
        have hy2 := hyr.below s1'
        have hwz := b1'.size
        rcases hgo with hgo | ⟨hgo, hgo2⟩ <;> (
          go_wp2_with fail
          rw [hw2.out]
          refine region_s [(0, true), (1, true), (2, false), (3, true), (4, false), (5, true)] [6, 7, 8] [9, 10] (fun W' => Below w2.heap.size w2 W') mixed (by kernel_rfl) (fun _ _ _ _ _ h => h) (below_drewN (Below.refl _ _) 1) ?_
          refine lead_pure _ rfl _ rfl rfl u13 (fun w' => by go_simp) ?_
          refine lead_pure _ rfl _ rfl rfl (.pointer (some ⟨wr.heap.size, 0, none⟩)) (fun w' => by go_simp) ?_
          refine lead_read _ rfl _ rfl rfl (.string nm) (fun w' hS => by have c0 := (HW2.out w' hS).cell 0; go_simp) ?_
          refine lead_pure _ rfl _ rfl rfl (.pointer (some ⟨wr.heap.size, 2, none⟩)) (fun w' => by go_simp) ?_
          refine lead_read _ rfl _ rfl rfl (.slice xa zs.length xc) (fun w' hS => by have c0 := (HW2.out w' hS).cell 2; go_simp) ?_
          refine lead_pure _ rfl _ rfl rfl (.slice b ys.length d) (fun w' => by go_simp) ?_
          simp only [lead_nil_eq]
          simp only [Act.put, List.setIfInBounds_toArray, List.set_cons_succ, List.set_cons_zero]
          have sd : Below w2.heap.size w2 w2.drew := below_drewN (Below.refl _ _) 1
          refine mid_cons _ rfl rfl fun K hK => ?_
          go_wp2_with fail
          refine (refFar_any xa b xc d zs ys _ (q52.below sd) (hy2.below sd) hnm.2 hnm.1 HYN.out).mono ?_
          rintro e W2 ⟨rfl, n2, rfl⟩
          have s3 : Below w2.heap.size w2 (w2.drew.drewN n2) := below_drewN sd n2
          refine hK _ _ s3 ?_
          clear hK K
          generalize w2.drew.drewN n2 = w3 at *
          generalize farI zs ys = fr at *
          refine mid_cons _ rfl rfl fun K hK => ?_
          go_wp2_with fail
          refine hK _ _ s3 ?_
          clear hK K
          refine mid_cons _ rfl rfl fun K hK => ?_
          go_wp2_with fail
          have s4 := below_alloc w3 (.cells #[.string nm, .int .i64 fr] 25)
          have s34 := s3.trans (s4.mono s3.size)
          refine hK _ _ s34 ?_
          clear hK K
          simp only [mid_nil_eq]
          simp only [List.filterMap_cons, List.getElem?_toArray, List.getElem?_cons_succ, List.getElem?_cons_zero, List.filterMap_nil]
          have ow4 := ownsRow_below ow2 s34
          have b4 := b1'.trans (s34.mono b1'.size)
          have hz4 := b4.size
          refine wpl_pushZ rfl _ _ 31 rfl w.heap.size 25 (.agg #[.string ByteArray.empty, .int .i64 0]) 2 24 Tryd.underlying31 infoF rfl (by decide) u13 F.length (flatF F) rfl ow4 w3.heap.size 1 [.string nm, .int .i64 fr] rfl 25 (Blk.new w3 _ _) rfl (fun u hu => by simp at hu; rcases hu with rfl | rfl <;> rfl) (by omega) (by decide) hz4 ?_
          intro g6 c6 w6 ow6 gr6 hat6 hlt6
          go_wp2_with fail
          refine ⟨⟨m + 1, by omega, by go_num, ?_, ?_, row_grownBelow b4 ow4 gr6 b4.size⟩, by simp [intOf]; omega⟩
          · rw [hF'.out, HS2.out, List.length_append, flatF_snoc]; exact ow6
          · rw [hF'.out, HS2.out]; intro h; simp at h)
      · have HS2 : Hid (F' = F) := by
          have h := HST.out
          rw [hF'.out, if_neg ht, List.append_nil] at h
          exact h
        have hno : ¬ tag.toList = [] ∧ ¬ tg.toList = tag.toList := by
          unfold tagP at ht
          rw [Bool.or_eq_true, decide_eq_true_eq, decide_eq_true_eq] at ht
          exact ⟨fun e => ht (Or.inl e), fun e => ht (Or.inr e)⟩
        obtain ⟨hgo, hgo2⟩ := hno
        have hge : tag.toList.isEmpty = false := by simpa using hgo
        have hg2 : (tag.toList == tg.toList) = false := by simpa using fun e : tag.toList = tg.toList => hgo2 e.symm
        have hgo3 : ¬ tag.toList = tg.toList := fun e => hgo2 e.symm
        clear ht HST
        go_wp2_with fail
        refine ⟨⟨m + 1, by omega, by go_num, ?_, ?_, b1⟩, by simp [intOf]; omega⟩
        · rw [hF'.out, HS2.out]; exact ownsRow_below ow s1
        · rw [hF'.out, HS2.out]; exact HNIL.out
    · have hm' : m = ds.length := by omega
      subst hm'
      rw [List.take_of_length_le (by rw [hxl]; omega)] at ow hnil
      have hll : (fnd ys tag (xsOf ds)).length ≤ 100 := by have := fnd_len ys tag (xsOf ds); omega
      obtain ⟨F, hF⟩ : ∃ F, Hid (fnd ys tag (xsOf ds) = F) := ⟨_, rfl⟩
      rw [hF.out] at ow hnil hll
      have hq := HK.out
      clear hxl h hy HN HYN hyl hl
      clear hq
      obtain ⟨kk, hkk⟩ : ∃ kk : Nat, k = (kk : Int) := ⟨k.toNat, by have := HK.out; omega⟩
      subst hkk
      have HKK : Hid ((kk : Int).toNat = kk ∧ kk ≤ 60) := ⟨by omega, by have := HK.out; omega⟩
      clear HK
      clear hnil
      have hwb := br.size
      go_wp2_with fail
      go_loopw [12, 13] (fun vo va wq => ∃ O A : List (ByteArray × Int), wq.ownsRow w.heap.size 25 2 vo O.length (flatF O) ∧ wq.ownsRow w.heap.size 25 2 va A.length (flatF A) ∧ (vo.ownBlock = none ∨ vo.ownBlock ≠ va.ownBlock) ∧ Hid (srt F = O ++ srt A) ∧ O.length ≤ kk ∧ A.length ≤ 100 ∧ Below w.heap.size w wq) (fun _ va _ => lenV va)
      case atStart => exact ⟨[], F, ⟨rfl, Or.inl ⟨rfl, rfl⟩⟩, ow, Or.inl rfl, rfl, Nat.zero_le _, hll, br⟩
      case round =>
        clear ow hll br hwb
        obtain ⟨O, A, owO, owA, hap, HSF, hOk, hA100, br⟩ := hrel
        obtain ⟨W0, rfl⟩ : ∃ W0, W0 = wr := ⟨_, rfl⟩
        obtain ⟨ao, co, rfl⟩ := own_slice owO
        obtain ⟨aa, ca, rfl⟩ := own_slice owA
        by_cases hO : O.length < kk
        · have hO' : (O.length : Int) < (kk : Int) := by omega
          by_cases hA : 0 < A.length
          · have hA' : (0 : Int) < (A.length : Int) := by omega
            obtain ⟨g, cap, cur, hv, hgB, hgl, hh, hc1, hc2, hsz, hcur⟩ := own_parts owA (by omega)
            injection hv with hv1 _ hv3
            subst hv1 hv3
            have hFn := fnds_own owA
            have HC : Hid (∀ W, Below W0.heap.size W0 W → ∀ j x, A[j]? = some x → W.cell? ⟨g, j * 2, none⟩ = some (.string x.1) ∧ W.cell? ⟨g, j * 2 + 1, none⟩ = some (.int .i64 x.2)) := fun W hW j x hx => by
              obtain ⟨_, _, e1, _, q⟩ := Fnds.below hFn hW
              injection e1 with e1 e2 e3
              subst e1
              obtain ⟨g', o', e4, _, q1, q2⟩ := q j x hx
              injection e4 with e4
              injection e4 with e4 e5
              subst e4 e5
              rw [Nat.zero_add] at q1 q2
              exact ⟨q1, q2⟩
            clear hh hcur hsz hFn
            go_wp2_with fail
            go_loopw [16, 59] (fun bv iv wq => ∃ t bb : Nat, t ≤ A.length ∧ bv = .int .i64 bb ∧ iv = .int .i64 t ∧ bb < A.length ∧ Hid (∀ j y x, j < t → A[j]? = some y → A[bb]? = some x → ltF y x = false) ∧ Below W0.heap.size W0 wq) (fun _ iv _ => A.length - (intOf iv).toNat)
            case atStart => exact ⟨0, 0, by omega, rfl, rfl, by omega, fun j y x hj => by omega, Below.refl _ _⟩
            case round =>
              obtain ⟨t, bb, ht, rfl, rfl, hbb, HM, bq⟩ := hrel
              by_cases hlt : t < A.length
              · obtain ⟨x, hx⟩ : ∃ x, A[t]? = some x := ⟨_, List.getElem?_eq_getElem hlt⟩
                obtain ⟨y, hy⟩ : ∃ y, A[bb]? = some y := ⟨_, List.getElem?_eq_getElem hbb⟩
                obtain ⟨xn, xf⟩ := x
                obtain ⟨yn, yf⟩ := y
                have HX : Hid (A[t]? = some (xn, xf)) := hx
                have HY : Hid (A[bb]? = some (yn, yf)) := hy
                have hlt' : (t : Int) < (A.length : Int) := by omega
                have hbb' : (bb : Int) < (A.length : Int) := by omega
                clear hx hy
                go_wp2_with fail
                refine region_s [(0, true), (1, true), (2, true), (3, false), (4, true), (5, true), (6, true), (7, false)] [8] [] (fun W' => Below W0.heap.size W0 W') mixed (by kernel_rfl) (fun _ _ _ _ _ h => h) (below_drewN bq 1) ?_
                refine lead_pure _ rfl _ rfl rfl (.slice (some ⟨g, 0, none⟩) A.length ca) (fun w' => by go_simp) ?_
                refine lead_pure _ rfl _ rfl rfl (.int .i64 t) (fun w' => by go_simp) ?_
                refine lead_pure _ rfl _ rfl rfl (.pointer (some ⟨g, t * 2, none⟩)) (fun w' => by go_simp) ?_
                refine lead_read _ rfl _ rfl rfl (.agg #[.string xn, .int .i64 xf]) (fun w' hS => by obtain ⟨c0, c1⟩ := HC.out w' hS t _ HX.out; go_simp) ?_
                refine lead_pure _ rfl _ rfl rfl (.slice (some ⟨g, 0, none⟩) A.length ca) (fun w' => by go_simp) ?_
                refine lead_pure _ rfl _ rfl rfl (.int .i64 bb) (fun w' => by go_simp) ?_
                refine lead_pure _ rfl _ rfl rfl (.pointer (some ⟨g, bb * 2, none⟩)) (fun w' => by go_simp) ?_
                refine lead_read _ rfl _ rfl rfl (.agg #[.string yn, .int .i64 yf]) (fun w' hS => by obtain ⟨c0, c1⟩ := HC.out w' hS bb _ HY.out; go_simp) ?_
                simp only [lead_nil_eq]
                simp only [Act.put, List.setIfInBounds_toArray, List.set_cons_succ, List.set_cons_zero]
                refine mid_cons _ rfl rfl fun K hK => ?_
                have HA : Hid _ := ahead_any (xn, xf) (yn, yf) (wr.drewN 1)
                obtain ⟨r, hr⟩ : ∃ r, Hid (ltF (xn, xf) (yn, yf) = r) := ⟨_, rfl⟩
                rw [hr.out] at HA
                go_wp2_with fail
                refine Calls.mono HA.out ?_
                rintro e w2 ⟨rfl, g2⟩
                have b0 : Below W0.heap.size W0 (wr.drewN 1) := below_drewN bq 1
                have b2 := b0.trans (g2.mono b0.size)
                refine hK _ _ b2 ?_
                clear hK K HA g2 b0
                simp only [mid_nil_eq]
                simp only [List.getElem?_toArray, List.filterMap_nil]
                cases r with
                | true =>
                  go_wp2_with fail
                  refine ⟨⟨t + 1, t, by omega, rfl, by go_num, hlt, ?_, b2⟩, by simp [intOf]; omega⟩
                  intro j u v hj hu hv
                  rw [HX.out] at hv
                  obtain rfl := Option.some.inj hv
                  by_cases e : j = t
                  · subst e
                    rw [HX.out] at hu
                    obtain rfl := Option.some.inj hu
                    exact ltF_irrefl _
                  · have h1 := HM.out j u _ (by omega) hu HY.out
                    cases h2 : ltF u (xn, xf) with
                    | false => rfl
                    | true => rw [ltF_trans _ _ _ h2 hr.out] at h1; cases h1
                | false =>
                  go_wp2_with fail
                  refine ⟨⟨t + 1, bb, by omega, rfl, by go_num, hbb, ?_, b2⟩, by simp [intOf]; omega⟩
                  intro j u v hj hu hv
                  by_cases e : j = t
                  · subst e
                    rw [HX.out] at hu
                    rw [HY.out] at hv
                    obtain rfl := Option.some.inj hu
                    obtain rfl := Option.some.inj hv
                    exact hr.out
                  · exact HM.out j u v (by omega) hu hv
              · obtain rfl : t = A.length := by omega
                obtain ⟨y, hy⟩ : ∃ y, A[bb]? = some y := ⟨_, List.getElem?_eq_getElem hbb⟩
                have HPK : Hid (srt A = y :: srt (cutAt A bb)) := srt_pick hy fun u hu => by
                  obtain ⟨j, hj⟩ := List.getElem?_of_mem hu
                  exact HM.out j u y (List.getElem?_eq_some_iff.1 hj).1 hj hy
                have HLN : Hid ((cutAt A bb).length + 1 = A.length) := cutAt_len hbb
                obtain ⟨yn, yf⟩ := y
                have hbb' : (bb : Int) < (A.length : Int) := by omega
                obtain ⟨c0, c1⟩ := HC.out wr bq bb _ hy
                have owO2 := ownsRow_below owO bq
                have owA2 := ownsRow_below owA bq
                have b2 := br.trans (bq.mono br.size)
                have hz2 := b2.size
                have hgl2 : g < wr.heap.size := Nat.lt_of_lt_of_le hgl bq.size
                have HAP : Hid (Value.ownBlock (.slice ao O.length co) = none ∨ Value.ownBlock (.slice ao O.length co) ≠ some g) := hap
                clear hy HM owO owA HC hap
                have s3 := below_alloc wr (.cells #[.string yn, .int .i64 yf] 25)
                have b3 := b2.trans (s3.mono hz2)
                have owO3 := ownsRow_below owO2 s3
                have owA3 := ownsRow_below owA2 s3
                have hz3 := b3.size
                have hol : O.length < 100000 := by have := HKK.out.2; omega
                clear owO2 owA2
                go_wp2_with (first
                  | (refine wpl_pushZ rfl _ _ 31 rfl w.heap.size 25 (.agg #[.string ByteArray.empty, .int .i64 0]) 2 24 Tryd.underlying31 infoF rfl (by decide) (.slice ao O.length co) O.length (flatF O) rfl owO3 wr.heap.size 1 [.string yn, .int .i64 yf] rfl 25 (Blk.new wr _ _) rfl (fun u hu => by simp at hu; rcases hu with rfl | rfl <;> rfl) (by omega) (by decide) hz3 ?_; intro g6 c6 w6 ow6 gr6 hat6 hlt6)
                  | fail)
                have b6 := row_grownBelow b3 owO3 gr6 b3.size
                have owA6 := own_kept owA3 gr6 (Or.inr (fun e => by
                  rcases HAP.out with h1 | h1
                  · rw [h1] at e; cases e
                  · exact h1 e.symm))
                have hne : g6 ≠ g := by
                  rcases hat6 with h1 | h1
                  · intro e
                    subst e
                    rcases HAP.out with h2 | h2
                    · rw [h2] at h1; cases h1
                    · exact h2 h1
                  · have : g6 = wr.heap.size + 1 := by rw [h1]; simp
                    omega
                have HNE : Hid (g6 ≠ g) := hne
                have e6 : flatF (O ++ [(yn, yf)]) = flatF O ++ [.string yn, .int .i64 yf] := flatF_snoc _ _
                have l6 : (O ++ [(yn, yf)]).length = O.length + 1 := by simp
                rw [← e6, ← l6] at ow6
                have OW6 : Hid (w6.ownsRow w.heap.size 25 2 (.slice (some ⟨g6, 0, none⟩) (O.length + 1) c6) (O ++ [(yn, yf)]).length (flatF (O ++ [(yn, yf)]))) := by rw [l6] at ow6 ⊢; exact ow6
                have hz6 := b6.size
                have hbc : bb ≤ ca := by omega
                have hbc1 : bb + 1 ≤ ca := by omega
                have hwr : IntKind.i64.wrap ((bb : Int) + 1) = (bb : Int) + 1 := by rw [IntKind.wrap_i64]; omega
                clear s3 b3 owO3 owA3 gr6 hat6 hlt6 hne e6 l6 ow6 b2 HAP hz3
                go_wp2_with fail
                refine region_s [(0, true), (1, true), (2, true), (3, true), (4, true), (5, true), (6, true)] [] [7, 8] (fun W' => Below w6.heap.size w6 W') mixed (by kernel_rfl) (fun _ _ _ _ _ h => h) (below_drewN (Below.refl _ _) 1) ?_
                refine lead_pure _ rfl _ rfl rfl (.slice (some ⟨g, 0, none⟩) A.length ca) (fun w' => by go_simp) ?_
                refine lead_pure _ rfl _ rfl rfl (.int .i64 bb) (fun w' => by go_simp) ?_
                refine lead_pure _ rfl _ rfl rfl (.slice (some ⟨g, 0, none⟩) bb ca) (fun w' => by go_simp) ?_
                refine lead_pure _ rfl _ rfl rfl (.slice (some ⟨g, 0, none⟩) A.length ca) (fun w' => by go_simp) ?_
                refine lead_pure _ rfl _ rfl rfl (.int .i64 bb) (fun w' => by go_simp) ?_
                refine lead_pure _ rfl _ rfl rfl (.int .i64 ((bb + 1 : Nat) : Int)) (fun w' => by go_simp) ?_
                refine lead_pure _ rfl _ rfl rfl (.slice (some (if ca = bb + 1 then ⟨g, 0, none⟩ else ⟨g, (bb + 1) * 2, none⟩)) (A.length - (bb + 1)) (ca - (bb + 1))) (fun w' => by go_simp; rw [if_pos ⟨by omega, by omega⟩]; split <;> rfl) ?_
                simp only [lead_nil_eq]
                simp only [Act.put, List.setIfInBounds_toArray, List.set_cons_succ, List.set_cons_zero]
                simp only [mid_nil_eq]
                simp only [List.filterMap_cons, List.getElem?_toArray, List.getElem?_cons_succ, List.getElem?_cons_zero, List.filterMap_nil]
                have sd : Below w6.heap.size w6 w6.drew := below_drewN (Below.refl _ _) 1
                refine wpl_cutF rfl _ _ 31 rfl w.heap.size Tryd.underlying31 infoF g ca bb A hbb (ownsRow_below owA6 sd) rfl rfl ?_
                intro w8 ow8 gr8
                have b8 := row_grownBelow (b6.trans (sd.mono b6.size)) (ownsRow_below owA6 sd) gr8 (b6.trans (sd.mono b6.size)).size
                have owO8 := own_kept (ownsRow_below OW6.out sd) gr8 (Or.inr (fun e => HNE.out (by injection e)))
                go_wp2_with fail
                refine ⟨⟨O ++ [(yn, yf)], cutAt A bb, owO8, ow8, Or.inr (fun e => HNE.out (by injection e)), ?_, ?_, ?_, b8⟩, ?_⟩
                · show srt F = (O ++ [(yn, yf)]) ++ srt (cutAt A bb)
                  rw [HSF.out, HPK.out]; simp
                · simp; omega
                · have := HLN.out; omega
                · show (cutAt A bb).length < A.length
                  have := HLN.out; omega
          · have hA' : ¬ (0 : Int) < (A.length : Int) := by omega
            have hA0 : A = [] := List.length_eq_zero_iff.1 (by omega)
            have HT : Hid (tk kk F = O) := by
              unfold Hid tk
              rw [HSF.out, hA0, show srt [] = [] from by simp [srt], List.append_nil, List.take_of_length_le (by omega)]
            have hFn := fnds_own owO
            clear owO owA
            go_wp2_with fail
            go_ret2
            rw [hF.out, HT.out]
            exact ⟨⟨_, rfl, hFn⟩, br⟩
        · have hO' : ¬ (O.length : Int) < (kk : Int) := by omega
          have HT : Hid (tk kk F = O) := by
            unfold Hid tk
            rw [HSF.out, List.take_append_of_le_length (by omega), List.take_of_length_le (by omega)]
          have hFn := fnds_own owO
          clear owO owA
          go_wp2_with fail
          go_ret2
          rw [hF.out, HT.out]
          exact ⟨⟨_, rfl, hFn⟩, br⟩
end Go.Proofs.YtamalmgfhpneaaaDoor.Nf
