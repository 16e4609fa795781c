/-
  Part of the proof: the reference's Right, Far and order; what the law asks of items; what is found is compared.
  Part of the proof: the reference's Far and order are walked.
  Part of the proof: what the law asks of items; what is found is compared.
  Part of the proof: plain: the nearest one by one; one is taken out of a row in place.
-/
import Derived.Test.YtamalmgfhpneaaaDoorB22
namespace Go.Proofs.YtamalmgfhpneaaaDoor.Nf
open Go.RowKit
open It Nr Ce
theorem rightR (x : Itm) (d : Int) : rightB x d = (nameB x.name && tagB x.tag && dimB d && decide ((x.nums.length : Int) = d) && x.nums.all numB) := by
  unfold rightB
  cases dimB d <;> cases decide ((x.nums.length : Int) = d) <;> cases nameB x.name <;> cases tagB x.tag <;> cases x.nums.all numB <;> rfl
set_option maxRecDepth 100000 in
set_option maxHeartbeats 2000000 in
theorem refRight_any (x : ItD) (d : Int) (w : World) (h : x.Ok w) : Calls Tryd.prog 32 #[.agg x.arr, .int .i64 d] w fun e w' => e = .returned (.bool (rightB x.x d)) ∧ Below w.heap.size w w' := by
  obtain ⟨h1, h2, h3, h4, _⟩ := h
  rw [rightR]
  unfold ItD.arr ItD.val
  obtain ⟨⟨nm, tg, zs⟩, a, c⟩ := x
  simp only at h1 h2 h3 h4 ⊢
  have hl : zs.length ≤ 9223372036854775807 := h2
  have hb := below_alloc w (.cells #[.string nm, .string tg, .slice a zs.length c] 43)
  obtain ⟨W, hW⟩ : ∃ W, w.alloc (.cells #[.string nm, .string tg, .slice a zs.length c] 43) = W := ⟨_, rfl⟩
  have HN : Hid _ := refName_any nm W h3
  have HT : Hid _ := refName_any tg W h4
  have HI : Hid _ := in_any d 1 8 W
  have HC : Hid _ := coords_any a c zs W (by rw [← hW]; exact h1.below hb) h2
  have ei : (decide (1 ≤ d) && decide (d ≤ 8)) = dimB d := rfl
  rw [ei] at HI
  have j : Blk W w.heap.size #[.string nm, .string tg, .slice a zs.length c] 43 := by rw [← hW]; exact Blk.new _ _ _
  have c0 := j.cell 0
  have c1 := j.cell 1
  have c2 := j.cell 2
  have HB : Hid (Below w.heap.size w W) := by rw [← hW]; exact hb
  clear ei hb h1 j
  obtain ⟨b1, e1⟩ : ∃ b1, nameB nm = b1 := ⟨_, rfl⟩
  obtain ⟨b2, e2⟩ : ∃ b2, nameB tg = b2 := ⟨_, rfl⟩
  obtain ⟨b3, e3⟩ : ∃ b3, dimB d = b3 := ⟨_, rfl⟩
  obtain ⟨b5, e5⟩ : ∃ b5, zs.all numB = b5 := ⟨_, rfl⟩
  have HTG : Hid (tagB tg = (decide (tg.size = 0) || b2)) := by rw [← e2]; rfl
  rw [HTG.out]
  rw [e1] at HN ⊢
  rw [e2] at HT
  rw [e3] at HI ⊢
  rw [e5] at HC ⊢
  clear e1 e2 e3 e5 HTG
  cases b1 with
  | false =>
    go_enter Tryd.func32, Tryd.ntmps32
    go_wp2_with (go_at_call 51; refine Calls.mono HN.out ?_; rintro e w' ⟨rfl, rfl⟩)
    go_ret
    exact ⟨rfl, HB.out⟩
  | true =>
    by_cases c4 : tg.size = 0
    · obtain rfl : tg = ByteArray.empty := by
        apply ByteArray.ext; apply Array.eq_empty_of_size_eq_zero; exact c4
      rw [decide_eq_true c4]
      simp only [Bool.true_or, Bool.true_and]
      clear c4
      cases b3 with
      | false =>
        go_enter Tryd.func32, Tryd.ntmps32
        go_wp2_with fail
        refine Calls.mono HN.out ?_
        rintro e w' ⟨rfl, hw'⟩
        obtain rfl : W = w' := hw'.symm
        clear hw'
        go_wp2_with fail
        refine Calls.mono HI.out ?_
        rintro e w' ⟨rfl, hw'⟩
        obtain rfl : W = w' := hw'.symm
        clear hw'
        go_wp2_with fail
        go_ret
        exact ⟨rfl, HB.out⟩
      | true =>
        by_cases c4 : (zs.length : Int) = d
        · rw [decide_eq_true c4]
          have c4' : ((zs.length : Int) == d) = true := by simpa using c4
          clear c4
          cases b5 with
          | false =>
            go_enter Tryd.func32, Tryd.ntmps32
            go_wp2_with fail
            refine Calls.mono HN.out ?_
            rintro e w' ⟨rfl, hw'⟩
            obtain rfl : W = w' := hw'.symm
            clear hw'
            go_wp2_with fail
            refine Calls.mono HI.out ?_
            rintro e w' ⟨rfl, hw'⟩
            obtain rfl : W = w' := hw'.symm
            clear hw'
            go_wp2_with fail
            refine Calls.mono HC.out ?_
            rintro e w' ⟨rfl, hw'⟩
            obtain rfl : W = w' := hw'.symm
            clear hw'
            go_wp2_with fail
            go_ret
            exact ⟨rfl, HB.out⟩
          | true =>
            go_enter Tryd.func32, Tryd.ntmps32
            go_wp2_with fail
            refine Calls.mono HN.out ?_
            rintro e w' ⟨rfl, hw'⟩
            obtain rfl : W = w' := hw'.symm
            clear hw'
            go_wp2_with fail
            refine Calls.mono HI.out ?_
            rintro e w' ⟨rfl, hw'⟩
            obtain rfl : W = w' := hw'.symm
            clear hw'
            go_wp2_with fail
            refine Calls.mono HC.out ?_
            rintro e w' ⟨rfl, hw'⟩
            obtain rfl : W = w' := hw'.symm
            clear hw'
            go_wp2_with fail
            go_ret
            exact ⟨rfl, HB.out⟩
        · rw [decide_eq_false c4]
          have c4' : ((zs.length : Int) == d) = false := by simpa using c4
          clear c4
          go_enter Tryd.func32, Tryd.ntmps32
          go_wp2_with fail
          refine Calls.mono HN.out ?_
          rintro e w' ⟨rfl, hw'⟩
          obtain rfl : W = w' := hw'.symm
          clear hw'
          go_wp2_with fail
          refine Calls.mono HI.out ?_
          rintro e w' ⟨rfl, hw'⟩
          obtain rfl : W = w' := hw'.symm
          clear hw'
          go_wp2_with fail
          go_ret
          exact ⟨rfl, HB.out⟩
    · have c4' : ¬ tg.toList = [] := by
        intro e
        rw [Lib.toList_data] at e
        apply c4
        rw [Lib.size_eq, e]; rfl
      have c4e : tg.toList.isEmpty = false := by simpa using c4'
      rw [decide_eq_false c4]
      clear c4
      cases b2 with
      | false =>
        go_enter Tryd.func32, Tryd.ntmps32
        go_wp2_with fail
        refine Calls.mono HN.out ?_
        rintro e w' ⟨rfl, hw'⟩
        obtain rfl : W = w' := hw'.symm
        clear hw'
        go_wp2_with fail
        refine Calls.mono HT.out ?_
        rintro e w' ⟨rfl, hw'⟩
        obtain rfl : W = w' := hw'.symm
        clear hw'
        go_wp2_with fail
        go_ret
        exact ⟨rfl, HB.out⟩
      | true =>
        simp only [Bool.false_or, Bool.true_and]
        cases b3 with
        | false =>
          go_enter Tryd.func32, Tryd.ntmps32
          go_wp2_with fail
          refine Calls.mono HN.out ?_
          rintro e w' ⟨rfl, hw'⟩
          obtain rfl : W = w' := hw'.symm
          clear hw'
          go_wp2_with fail
          refine Calls.mono HT.out ?_
          rintro e w' ⟨rfl, hw'⟩
          obtain rfl : W = w' := hw'.symm
          clear hw'
          go_wp2_with fail
          refine Calls.mono HI.out ?_
          rintro e w' ⟨rfl, hw'⟩
          obtain rfl : W = w' := hw'.symm
          clear hw'
          go_wp2_with fail
          go_ret
          exact ⟨rfl, HB.out⟩
        | true =>
          by_cases c4 : (zs.length : Int) = d
          · rw [decide_eq_true c4]
            have c4' : ((zs.length : Int) == d) = true := by simpa using c4
            clear c4
            cases b5 with
            | false =>
              go_enter Tryd.func32, Tryd.ntmps32
              go_wp2_with fail
              refine Calls.mono HN.out ?_
              rintro e w' ⟨rfl, hw'⟩
              obtain rfl : W = w' := hw'.symm
              clear hw'
              go_wp2_with fail
              refine Calls.mono HT.out ?_
              rintro e w' ⟨rfl, hw'⟩
              obtain rfl : W = w' := hw'.symm
              clear hw'
              go_wp2_with fail
              refine Calls.mono HI.out ?_
              rintro e w' ⟨rfl, hw'⟩
              obtain rfl : W = w' := hw'.symm
              clear hw'
              go_wp2_with fail
              refine Calls.mono HC.out ?_
              rintro e w' ⟨rfl, hw'⟩
              obtain rfl : W = w' := hw'.symm
              clear hw'
              go_wp2_with fail
              go_ret
              exact ⟨rfl, HB.out⟩
            | true =>
              go_enter Tryd.func32, Tryd.ntmps32
              go_wp2_with fail
              refine Calls.mono HN.out ?_
              rintro e w' ⟨rfl, hw'⟩
              obtain rfl : W = w' := hw'.symm
              clear hw'
              go_wp2_with fail
              refine Calls.mono HT.out ?_
              rintro e w' ⟨rfl, hw'⟩
              obtain rfl : W = w' := hw'.symm
              clear hw'
              go_wp2_with fail
              refine Calls.mono HI.out ?_
              rintro e w' ⟨rfl, hw'⟩
              obtain rfl : W = w' := hw'.symm
              clear hw'
              go_wp2_with fail
              refine Calls.mono HC.out ?_
              rintro e w' ⟨rfl, hw'⟩
              obtain rfl : W = w' := hw'.symm
              clear hw'
              go_wp2_with fail
              go_ret
              exact ⟨rfl, HB.out⟩
          · rw [decide_eq_false c4]
            have c4' : ((zs.length : Int) == d) = false := by simpa using c4
            clear c4
            go_enter Tryd.func32, Tryd.ntmps32
            go_wp2_with fail
            refine Calls.mono HN.out ?_
            rintro e w' ⟨rfl, hw'⟩
            obtain rfl : W = w' := hw'.symm
            clear hw'
            go_wp2_with fail
            refine Calls.mono HT.out ?_
            rintro e w' ⟨rfl, hw'⟩
            obtain rfl : W = w' := hw'.symm
            clear hw'
            go_wp2_with fail
            refine Calls.mono HI.out ?_
            rintro e w' ⟨rfl, hw'⟩
            obtain rfl : W = w' := hw'.symm
            clear hw'
            go_wp2_with fail
            go_ret
            exact ⟨rfl, HB.out⟩
end Go.Proofs.YtamalmgfhpneaaaDoor.Nf
namespace Go.Proofs.YtamalmgfhpneaaaDoor.Nf
open Go.RowKit
open It Nr Ce
set_option maxHeartbeats 400000 in
theorem refFar_any (a b : Option Addr) (c d : Nat) (zs ys : List Int) (w : World) (ha : Ints w a zs) (hb : Ints w b ys) (hl : zs.length ≤ 100) (hz : zs.all numB = true) (hy : ys.all numB = true) :
    Calls Tryd.prog 16 #[.slice a zs.length c, .slice b ys.length d] w fun e w' => e = .returned (.int .i64 (farI zs ys)) ∧ ∃ n, w' = w.drewN n := by
  have HZ : Hid (∀ z ∈ zs, -1000 ≤ z ∧ z ≤ 1000) := fun z hz' => by have := List.all_eq_true.1 hz z hz'; simpa [numB] using this
  have HY : Hid (∀ z ∈ ys, -1000 ≤ z ∧ z ≤ 1000) := fun z hz' => by have := List.all_eq_true.1 hy z hz'; simpa [numB] using this
  clear hz hy
  go_enter Tryd.func16, Tryd.ntmps16
  go_wp2_with fail
  go_loopw [5, 10] (fun s i wr => ∃ k n : Nat, k ≤ zs.length ∧ i = .int .i64 k ∧ s = .int .i64 (farK zs ys (min k ys.length)) ∧ Hid (0 ≤ farK zs ys (min k ys.length) ∧ farK zs ys (min k ys.length) ≤ 4000000 * k) ∧ wr = w.drewN n) (fun _ i _ => zs.length - (intOf i).toNat)
  case atStart => exact ⟨0, 0, by omega, rfl, by rw [Nat.zero_min]; rfl, by rw [Nat.zero_min]; unfold Hid farK; simp, rfl⟩
  case round =>
    obtain ⟨k, n, hk, rfl, rfl, HB, rfl⟩ := hrel
    by_cases hlt : k < zs.length
    · have hlt' : (k : Int) < (zs.length : Int) := by omega
      by_cases hly : k < ys.length
      · have hly' : (k : Int) < (ys.length : Int) := by omega
        have hzk : zs[k]? = some zs[k] := List.getElem?_eq_getElem (by omega)
        have hyk : ys[k]? = some ys[k] := List.getElem?_eq_getElem (by omega)
        obtain ⟨g, o, rfl, q1⟩ := ha k _ hzk
        obtain ⟨g', o', rfl, q2⟩ := hb k _ hyk
        have hs : Hid _ := farK_succ hzk hyk
        have b1 := HZ.out _ (List.mem_of_getElem? hzk)
        have b2 := HY.out _ (List.mem_of_getElem? hyk)
        generalize zs[k] = z at *
        generalize ys[k] = y at *
        have em1 : min k ys.length = k := by omega
        have em2 : Hid (min (k + 1) ys.length = k + 1) := by unfold Hid; omega
        rw [em1] at HB ⊢
        obtain ⟨dd, hdd⟩ : ∃ dd, z - y = dd := ⟨_, rfl⟩
        have hd0 : Hid (0 ≤ dd * dd ∧ dd * dd ≤ 4000000) := by
          have h1 : -2000 ≤ dd := by omega
          have h2 : dd ≤ 2000 := by omega
          have h3 : (2000 - dd) * (2000 + dd) ≥ 0 := Int.mul_nonneg (by omega) (by omega)
          have h4 : (2000 - dd) * (2000 + dd) = 4000000 - dd * dd := by
            rw [Int.sub_mul, Int.mul_add, Int.mul_add, Int.mul_comm dd 2000]; omega
          exact ⟨by rcases Int.le_total 0 dd with h | h
                    · exact Int.mul_nonneg h h
                    · have := Int.mul_nonneg (show 0 ≤ -dd by omega) (show 0 ≤ -dd by omega); rwa [Int.neg_mul_neg] at this, by omega⟩
        obtain ⟨qq, hqq⟩ : ∃ qq, dd * dd = qq := ⟨_, rfl⟩
        have hw1 : IntKind.i64.wrap dd = dd := by rw [IntKind.wrap_i64]; omega
        have hw2 : IntKind.i64.wrap qq = qq := by have := hd0.out; rw [IntKind.wrap_i64]; omega
        have HS : Hid (farK zs ys (k + 1) = farK zs ys k + qq) := by have := hs.out; rw [hdd, hqq] at this; exact this
        have HQ : Hid (0 ≤ qq ∧ qq ≤ 4000000) := by rw [← hqq]; exact hd0.out
        generalize farK zs ys k = s at *
        have hw3 : IntKind.i64.wrap (s + qq) = s + qq := by have := HB.out; have := HQ.out; rw [IntKind.wrap_i64]; omega
        clear hs hd0 em1
        go_wp2_with fail
        go_quiet (fail)
        go_wp2
        go_light
        refine ⟨⟨k + 1, n + nq, by omega, by go_num, by rw [em2.out, HS.out], ?_, rfl⟩, by simp [intOf]; omega⟩
        have := HB.out
        have := HQ.out
        unfold Hid
        rw [em2.out, HS.out]
        omega
      · have hly' : ¬ (k : Int) < (ys.length : Int) := by omega
        have em1 : Hid (min (k + 1) ys.length = min k ys.length) := by unfold Hid; omega
        go_wp2_with fail
        go_light
        refine ⟨⟨k + 1, n, by omega, by go_num, by rw [em1.out], ?_, rfl⟩, by simp [intOf]; omega⟩
        have := HB.out
        unfold Hid
        rw [em1.out]
        omega
    · have hk' : k = zs.length := by omega
      subst hk'
      go_wp2_with fail
      go_ret
      exact ⟨by unfold farI; rfl, n, rfl⟩
theorem less_cmp : ∀ a b : List UInt8, Op.bytesLess a b = decide (Lib.compareBytes a b < 0)
  | [], [] => rfl
  | [], _ :: _ => by simp [Op.bytesLess, Lib.compareBytes]
  | _ :: _, [] => by simp [Op.bytesLess, Lib.compareBytes]
  | a :: xs, b :: ys => by
    have ih := less_cmp xs ys
    unfold Lib.compareBytes Op.bytesLess
    by_cases h1 : a < b
    · rw [if_pos h1, decide_eq_true h1]; rfl
    · rw [if_neg h1, decide_eq_false h1]
      by_cases h2 : b < a
      · rw [if_pos h2]
        have : (a == b) = false := by
          rw [beq_eq_false_iff_ne]; rintro rfl; exact h1 h2
        rw [this]; rfl
      · rw [if_neg h2]
        have : a = b := by
          apply UInt8.toNat_inj.1
          rw [UInt8.lt_iff_toNat_lt] at *; omega
        subst this
        simp [ih]
theorem ahead_any (x y : ByteArray × Int) (w : World) : Calls Tryd.prog 33 #[.agg #[.string x.1, .int .i64 x.2], .agg #[.string y.1, .int .i64 y.2]] w fun e w' => e = .returned (.bool (ltF x y)) ∧ Below w.heap.size w w' := by
  obtain ⟨xn, xf⟩ := x
  obtain ⟨yn, yf⟩ := y
  have hb := below_alloc w (.cells #[.string xn, .int .i64 xf] 25)
  have HB : Hid (Below w.heap.size w ((w.alloc (.cells #[.string xn, .int .i64 xf] 25)).alloc (.cells #[.string yn, .int .i64 yf] 25))) := hb.trans ((below_alloc _ _).mono hb.size)
  clear hb
  by_cases h1 : xf < yf
  · have e : ltF (xn, xf) (yn, yf) = true := (ltF_iff _ _).2 (Or.inl h1)
    rw [e]
    go_enter Tryd.func33, Tryd.ntmps33
    go_wp2_with fail
    go_ret
    exact ⟨rfl, HB.out⟩
  · by_cases h2 : xf = yf
    · subst h2
      go_enter Tryd.func33, Tryd.ntmps33
      go_wp2_with fail
      go_ret
      refine ⟨?_, HB.out⟩
      go_simp
      rw [less_cmp, Lib.toList_data, Lib.toList_data]
      unfold ltF ltOf cfF
      rw [if_pos rfl]
    · have h2' : (xf == yf) = false := by simpa using h2
      have e : ltF (xn, xf) (yn, yf) = false := by
        rw [← Bool.not_eq_true, ltF_iff]; rintro (h | h)
        · exact h1 h
        · exact h2 h.1
      rw [e]
      clear e h2
      go_enter Tryd.func33, Tryd.ntmps33
      go_wp2_with fail
      go_ret
      exact ⟨rfl, HB.out⟩
end Go.Proofs.YtamalmgfhpneaaaDoor.Nf
namespace Go.Proofs.YtamalmgfhpneaaaDoor.Nf
open Go.RowKit
open It Nr Ce
set_option maxHeartbeats 1000000 in
theorem sameF_any (v u : Value) (l : List (ByteArray × Int)) (w : World) (hv : Fnds w v l) (hu : Fnds w u l) (hl : l.length ≤ 1000) :
    Calls Tryd.prog 14 #[v, u] w fun e w' => e = .returned (.bool true) ∧ ∃ n, w' = w.drewN n := by
  obtain ⟨a, c, rfl, _, ha⟩ := hv
  obtain ⟨b, d, rfl, _, hb⟩ := hu
  go_enter Tryd.func14, Tryd.ntmps14
  go_wp2_with fail
  go_loopw [5] (fun i wr => ∃ k n : Nat, k ≤ l.length ∧ i = .int .i64 k ∧ wr = w.drewN n) (fun i _ => l.length - (intOf i).toNat)
  case atStart => exact ⟨0, 0, by omega, rfl, rfl⟩
  case round =>
    obtain ⟨k, n, hk, rfl, rfl⟩ := hrel
    by_cases hlt : k < l.length
    · obtain ⟨g, o, rfl, hg, c0, c1⟩ := ha k l[k] (List.getElem?_eq_getElem hlt)
      obtain ⟨g', o', rfl, hg', c0', c1'⟩ := hb k l[k] (List.getElem?_eq_getElem hlt)
      have hlt' : (k : Int) < (l.length : Int) := by omega
      generalize l[k] = x at *
      obtain ⟨xn, xf⟩ := x
      have hq := neF_no xn xf
      simp only at c0 c1 c0' c1'
      go_wp2_with fail
      go_quiet (fail)
      go_wp2
      go_light
      exact ⟨⟨k + 1, n + nq, by omega, by go_num, rfl⟩, by simp [intOf]; omega⟩
    · go_wp2_with fail
      go_ret
      exact ⟨rfl, n, rfl⟩
set_option maxHeartbeats 1000000 in
theorem lright_any (dim : Int) (a : Option Addr) (c : Nat) (ds : List ItD) (w : World) (h : Its w a ds) (hl : ds.length ≤ 1000) :
    Calls Tryd.prog 10 #[.int .i64 dim, .slice a ds.length c] w fun e w' => (∃ b, e = .returned (.bool b) ∧ (b = true → ∀ x ∈ ds, rightB x.x dim = true)) ∧ Below w.heap.size w w' := by
  go_enter Tryd.func10, Tryd.ntmps10
  go_wp2_with fail
  go_loopw [5] (fun i wr => ∃ k : Nat, k ≤ ds.length ∧ i = .int .i64 k ∧ Hid (∀ x ∈ ds.take k, rightB x.x dim = true) ∧ Below w.heap.size w wr) (fun i _ => ds.length - (intOf i).toNat)
  case atStart => exact ⟨0, by omega, rfl, fun x hx => by simp at hx, Below.refl _ _⟩
  case round =>
    obtain ⟨k, hk, rfl, HP, br⟩ := hrel
    by_cases hlt : k < ds.length
    · have hdk : ds[k]? = some ds[k] := List.getElem?_eq_getElem hlt
      obtain ⟨g, o, rfl, q1, q2, q3, q4⟩ := (h.below br) k ds[k] hdk
      have hlt' : (k : Int) < (ds.length : Int) := by omega
      have HTK : Hid (ds.take (k + 1) = ds.take k ++ [ds[k]]) := by unfold Hid; rw [List.take_add_one, hdk]; rfl
      have HDK : Hid (ds[k]? = some ds[k]) := hdk
      clear hdk
      generalize ds[k] = x at *
      have HR : Hid _ := refRight_any x dim wr q4
      obtain ⟨r, hr⟩ : ∃ r, Hid (rightB x.x dim = r) := ⟨_, rfl⟩
      rw [hr.out] at HR
      unfold ItD.arr at HR
      clear q4
      cases r with
      | false =>
        go_wp2_with fail
        refine Calls.mono HR.out ?_
        rintro e w1 ⟨rfl, g1⟩
        have b1 := br.trans (g1.mono br.size)
        go_wp2_with fail
        go_ret
        exact ⟨⟨false, rfl, fun e => by cases e⟩, b1⟩
      | true =>
        go_wp2_with fail
        refine Calls.mono HR.out ?_
        rintro e w1 ⟨rfl, g1⟩
        have b1 := br.trans (g1.mono br.size)
        clear HR g1
        go_wp2_with fail
        go_loopw [6] (fun i wq => ∃ m n : Nat, m ≤ k ∧ i = .int .i64 m ∧ wq = w1.drewN n) (fun i _ => k - (intOf i).toNat)
        case atStart => exact ⟨0, 0, by omega, rfl, rfl⟩
        case round =>
          obtain ⟨m, n, hm, rfl, rfl⟩ := hrel
          have b1n : Below w.heap.size w (w1.drewN n) := below_drewN b1 n
          by_cases hmk : m < k
          · obtain ⟨g', o', e', p1, p2, p3, p4⟩ := (h.below b1) m ds[m] (List.getElem?_eq_getElem (by omega))
            injection e' with e'
            injection e' with e1 e2
            subst e1 e2
            have q1' : w1.cell? ⟨g, o + k * 3, none⟩ = some (.string x.x.name) := by
              obtain ⟨g2, o2, e3, r1, _⟩ := (h.below b1) k x (HDK.out)
              injection e3 with e3
              injection e3 with e3 e4
              subst e3
              have : o2 = o := by omega
              subst this
              exact r1
            have hmk' : (m : Int) < (k : Int) := by omega
            have hml' : (m : Int) < (ds.length : Int) := by omega
            generalize ds[m] = y at *
            obtain ⟨s, hs⟩ : ∃ s, x.x.name = s := ⟨_, rfl⟩
            obtain ⟨t, ht⟩ : ∃ t, y.x.name = t := ⟨_, rfl⟩
            rw [hs] at q1'
            rw [ht] at p1
            clear q1 q2 q3 p2 p3 p4 hs ht
            by_cases hst : t.toList = s.toList
            · have hst' : (t.toList == s.toList) = true := by simpa using hst
              clear hst
              go_wp2_with fail
              go_quiet (fail)
              go_wp2_with fail
              go_ret
              exact ⟨⟨false, rfl, fun e => by cases e⟩, below_drewN b1n nq⟩
            · have hst' : (t.toList == s.toList) = false := by simpa using hst
              clear hst
              go_wp2_with fail
              go_quiet (fail)
              go_wp2_with fail
              go_light
              exact ⟨⟨m + 1, n + nq, by omega, by go_num, rfl⟩, by simp [intOf]; omega⟩
          · go_wp2_with fail
            go_light
            exact ⟨⟨k + 1, by omega, by go_num, fun y hy => by
              rw [HTK.out, List.mem_append, List.mem_singleton] at hy
              rcases hy with hy | rfl
              · exact HP.out y hy
              · exact hr.out, b1n⟩, by simp [intOf]; omega⟩
    · have hk' : k = ds.length := by omega
      subst hk'
      go_wp2_with fail
      go_ret
      exact ⟨⟨true, rfl, fun _ x hx => HP.out x (by rw [List.take_length]; exact hx)⟩, br⟩
set_option maxHeartbeats 1000000 in
theorem short_any (a : Option Addr) (c : Nat) (ds : List ItD) (w : World) (h : Its w a ds) (hl : ds.length ≤ maxLen) :
    Calls Tryd.prog 5 #[.slice a ds.length c] w fun e w' => (∃ b, e = .returned (.bool b) ∧ (b = true → ds.length ≤ 65)) ∧ w' = w := by
  unfold maxLen at hl
  by_cases h65 : 65 < ds.length
  · have h65' : (65 : Int) < (ds.length : Int) := by omega
    go_enter Tryd.func5, Tryd.ntmps5
    go_wp2_with fail
    go_ret
    exact ⟨⟨false, rfl, fun e => by cases e⟩, rfl⟩
  have h65' : ¬ (65 : Int) < (ds.length : Int) := by omega
  go_enter Tryd.func5, Tryd.ntmps5
  go_wp2_with fail
  go_loop [3] (fun i => ∃ k : Nat, k ≤ ds.length ∧ i = .int .i64 k) (fun i => ds.length - (intOf i).toNat)
  case atStart => exact ⟨0, by omega, rfl⟩
  case round =>
    obtain ⟨k, hk, rfl⟩ := hrel
    by_cases hlt : k < ds.length
    · obtain ⟨g, o, rfl, q1, q2, q3, q4⟩ := h k ds[k] (List.getElem?_eq_getElem hlt)
      have hlt' : (k : Int) < (ds.length : Int) := by omega
      generalize ds[k] = x at *
      have H1 : Hid _ := long_any x.x.name w q4.2.2.1
      have H2 : Hid _ := long_any x.x.tag w q4.2.2.2.1
      have hzl := q4.2.1
      unfold maxLen at hzl
      obtain ⟨⟨nm, tg, zs⟩, xa, xc⟩ := x
      simp only [ItD.val] at q1 q2 q3 H1 H2 hzl
      clear q4
      by_cases c1 : 60 < nm.size
      · rw [decide_eq_true c1] at H1
        clear c1
        go_wp2_with fail
        refine Calls.mono H1.out ?_
        rintro e w' ⟨rfl, hw'⟩
        obtain rfl : w = w' := hw'.symm
        clear hw'
        go_wp2_with fail
        go_ret
        exact ⟨⟨false, rfl, fun e => by cases e⟩, rfl⟩
      rw [decide_eq_false c1] at H1
      clear c1
      by_cases c2 : 60 < tg.size
      · rw [decide_eq_true c2] at H2
        clear c2
        go_wp2_with fail
        refine Calls.mono H1.out ?_
        rintro e w' ⟨rfl, hw'⟩
        obtain rfl : w = w' := hw'.symm
        clear hw'
        go_wp2_with fail
        refine Calls.mono H2.out ?_
        rintro e w' ⟨rfl, hw'⟩
        obtain rfl : w = w' := hw'.symm
        clear hw'
        go_wp2_with fail
        go_ret
        exact ⟨⟨false, rfl, fun e => by cases e⟩, rfl⟩
      rw [decide_eq_false c2] at H2
      clear c2
      by_cases c3 : 12 < zs.length
      · have c3' : (12 : Int) < (zs.length : Int) := by omega
        go_wp2_with fail
        refine Calls.mono H1.out ?_
        rintro e w' ⟨rfl, hw'⟩
        obtain rfl : w = w' := hw'.symm
        clear hw'
        go_wp2_with fail
        refine Calls.mono H2.out ?_
        rintro e w' ⟨rfl, hw'⟩
        obtain rfl : w = w' := hw'.symm
        clear hw'
        go_wp2_with fail
        go_ret
        exact ⟨⟨false, rfl, fun e => by cases e⟩, rfl⟩
      · have c3' : ¬ (12 : Int) < (zs.length : Int) := by omega
        go_wp2_with fail
        refine Calls.mono H1.out ?_
        rintro e w' ⟨rfl, hw'⟩
        obtain rfl : w = w' := hw'.symm
        clear hw'
        go_wp2_with fail
        refine Calls.mono H2.out ?_
        rintro e w' ⟨rfl, hw'⟩
        obtain rfl : w = w' := hw'.symm
        clear hw'
        go_wp2_with fail
        go_round
        case rel => exact ⟨k + 1, by omega, by go_num⟩
        case measure => simp [intOf]; omega
    · go_wp2_with fail
      go_ret
      exact ⟨Or.inr ⟨rfl, by omega⟩, rfl⟩
end Go.Proofs.YtamalmgfhpneaaaDoor.Nf
namespace Go.Proofs.YtamalmgfhpneaaaDoor.Nf
open Go.RowKit
open It Nr Ce
/-- All but one. -/
def cutAt (l : List (ByteArray × Int)) (b : Nat) : List (ByteArray × Int) := l.take b ++ l.drop (b + 1)
theorem cutAt_len {l : List (ByteArray × Int)} {b : Nat} (h : b < l.length) : (cutAt l b).length + 1 = l.length := by
  unfold cutAt
  rw [List.length_append, List.length_take, List.length_drop]; omega
theorem srt_pick {l : List (ByteArray × Int)} {b : Nat} {x : ByteArray × Int} (hb : l[b]? = some x) (hm : ∀ y ∈ l, ltF y x = false) : srt l = x :: srt (cutAt l b) := by
  have hp : l.Perm (x :: cutAt l b) := by
    obtain ⟨hl, e⟩ := List.getElem?_eq_some_iff.1 hb
    have h1 : l = l.take b ++ x :: l.drop (b + 1) := by
      rw [← e, List.getElem_cons_drop, List.take_append_drop]
    have h2 : (l.take b ++ x :: l.drop (b + 1)).Perm (x :: cutAt l b) := List.perm_middle
    rw [← h1] at h2
    exact h2
  refine sorted_eq ((srt_perm l).trans (hp.trans ((srt_perm _).symm.cons x))) (srt_sorted l) (List.pairwise_cons.2 ⟨fun y hy => ?_, srt_sorted _⟩)
  have h3 : y ∈ l := hp.mem_iff.2 (List.mem_cons_of_mem _ ((srt_perm _).mem_iff.1 hy))
  exact hm y h3
theorem flatF_drop (l : List (ByteArray × Int)) (m : Nat) (j : Nat) (u : Value) (h : (flatF (l.drop m))[j]? = some u) : (flatF l)[m * 2 + j]? = some u := by
  have hj := (List.getElem?_eq_some_iff.1 h).1
  rw [flatF_len, List.length_drop] at hj
  have e1 : flatF (l.take m) ++ flatF (l.drop m) = flatF l := by unfold flatF; rw [← List.flatMap_append, List.take_append_drop]
  have e2 : (flatF (l.take m)).length = m * 2 := by rw [flatF_len, List.length_take]; omega
  rw [← e1, List.getElem?_append_right (by omega), e2, Nat.add_sub_cancel_left]
  exact h
theorem flatF_one (l : List (ByteArray × Int)) : ∀ u ∈ flatF l, u.oneCell' = true := by
  intro u hu
  obtain ⟨x, _, hx⟩ := List.mem_flatMap.1 hu
  simp [encF] at hx
  rcases hx with rfl | rfl <;> rfl
/-- What stands behind a place moves up by one. -/
theorem wpl_cutF {P : Program} {ops : Array Oper} {Q : Exit → Act → World → Prop} {a : Act} {w : World} {o : Oper} {rest : List Oper} (hgd : o.guard = none) (s x : Operand) (t : TypeId) (ho : o.op = .call { callee := .builtin .append, args := #[s, x], argTypes := #[t, t] })
    (B : Nat) (ht : P.underlying t = some (.slice 25)) (hinfo : (P.info? 25).map (fun i => (i.zero, i.size, i.bytes)) = some (some (.agg #[.string ByteArray.empty, .int .i64 0]), 2, 24))
    (g cap b : Nat) (A : List (ByteArray × Int)) (hb : b < A.length) (hown : w.ownsRow B 25 2 (.slice (some ⟨g, 0, none⟩) A.length cap) A.length (flatF A)) (hs : a.eval s = .slice (some ⟨g, 0, none⟩) b cap) (hx : a.eval x = .slice (some (if cap = b + 1 then ⟨g, 0, none⟩ else ⟨g, (b + 1) * 2, none⟩)) (A.length - (b + 1)) (cap - (b + 1)))
    (h : ∀ w', w'.ownsRow B 25 2 (.slice (some ⟨g, 0, none⟩) (cutAt A b).length cap) (cutAt A b).length (flatF (cutAt A b)) → w.grownBy w' (some g) → wpList P ops Q rest (a.put o.dst (.slice (some ⟨g, 0, none⟩) (cutAt A b).length cap)) w') : wpList P ops Q (o :: rest) a w := by
  obtain ⟨i, hi, p1, p2, p3⟩ := info_parts hinfo
  obtain ⟨g', cap', cur, hv, hgB, hgl, hh, hc1, hc2, hsz, hcur⟩ := own_parts hown (by omega)
  injection hv with hv1 _ hv3
  injection hv1 with hv1
  injection hv1 with hv1
  subst hv1 hv3
  have hr := row_cut hown b (by omega)
  have el : (flatF (cutAt A b)) = flatF (A.take b) ++ flatF (A.drop (b + 1)) := by unfold flatF cutAt; rw [List.flatMap_append]
  have en : b + (A.length - (b + 1)) = (cutAt A b).length := by have := cutAt_len hb; omega
  refine wpList_append_fits_any w hgd s x t ho B 25 i 2 ht hi p2 g b cap (flatF (A.take b)) hs hr _ (A.length - (b + 1)) (cap - (b + 1)) (flatF (A.drop (b + 1))) hx (by rw [flatF_len, List.length_drop]) (fun e => by cases e) ?_ (flatF_one _) (by omega) ?_
  · intro ad e j u hu
    have hj := (List.getElem?_eq_some_iff.1 hu).1
    rw [flatF_len, List.length_drop] at hj
    injection e with e
    rw [if_neg (by omega)] at e
    subst e
    have hq := flatF_drop A (b + 1) j u hu
    rw [← hcur, List.getElem?_take_of_lt (by omega), Array.getElem?_toList] at hq
    rw [addr_addO]
    simp only [World.cell?, hh]
    exact hq
  · intro w' h1 h2
    rw [en, ← el] at h1
    rw [en]
    exact h w' h1 h2
end Go.Proofs.YtamalmgfhpneaaaDoor.Nf
