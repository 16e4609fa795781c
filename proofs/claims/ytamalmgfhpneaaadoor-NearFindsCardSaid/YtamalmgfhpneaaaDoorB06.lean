/-
  Part of the proof: Top of package near is walked.
  Part of the proof: the keep package's right is walked: items that may be, each name once.
  Part of the proof: what is found, held against what is found.
-/
import Derived.Test.YtamalmgfhpneaaaDoorB05
namespace Go.Proofs.YtamalmgfhpneaaaDoor.Nr
open Go.RowKit
open It
theorem mixed : Tryd.prog.follows .mixedOrders = true := by kernel_rfl
/-- Items of a tag. -/
def tagP (tag : ByteArray) (x : Itm) : Bool := decide (tag.toList = []) || decide (x.tag.toList = tag.toList)
def fnd (ys : List Int) (tag : ByteArray) (xs : List Itm) : List (ByteArray × Int) := (xs.filter (tagP tag)).map fun x => (x.name, farI x.nums ys)
theorem fnd_step {ys : List Int} {tag : ByteArray} {xs : List Itm} {k : Nat} {x : Itm} (h : xs[k]? = some x) : fnd ys tag (xs.take (k + 1)) = fnd ys tag (xs.take k) ++ if tagP tag x then [(x.name, farI x.nums ys)] else [] := by
  unfold fnd
  rw [List.take_add_one, h, List.filter_append, List.map_append]
  show _ ++ ([x].filter (tagP tag)).map _ = _
  cases hx : tagP tag x <;> simp [hx]
theorem fnd_len (ys : List Int) (tag : ByteArray) (xs : List Itm) : (fnd ys tag xs).length ≤ xs.length := by
  unfold fnd; rw [List.length_map]; exact List.length_filter_le _ _
theorem Fnds.cut {w : World} {a : Option Addr} {n c : Nat} {l : List (ByteArray × Int)} (h : Fnds w (.slice a n c) l) (m : Nat) (hm : m ≤ n) : Fnds w (.slice a m c) (l.take m) := by
  obtain ⟨a', c', h1, h2, h3⟩ := h
  injection h1 with h1 h4 h5
  subst h1 h4 h5
  refine ⟨a, c, by rw [List.length_take, Nat.min_eq_left hm], by rw [List.length_take]; omega, fun i x hx => h3 i x ?_⟩
  rw [List.getElem?_take] at hx
  split at hx
  · exact hx
  · cases hx
theorem infoF : (Tryd.prog.info? 25).map (fun i => (i.zero, i.size, i.bytes)) = some (some (.agg #[.string ByteArray.empty, .int .i64 0]), 2, 24) := by kernel_rfl
theorem top_no (dim : Int) (a : Option Addr) (n c : Nat) (b : Option Addr) (d : Nat) (ys : List Int) (k : Int) (tag : ByteArray) (w : World) (hy : Ints w b ys) (hyl : ys.length ≤ maxLen) (hask : askB dim ys k = false) :
    Calls Tryd.prog 12 #[.int .i64 dim, .slice a n c, .slice b ys.length d, .int .i64 k, .string tag] w fun e w' => e = .returned (.tuple #[.slice none 0 0, errA]) ∧ w' = w := by
  go_enter Tryd.func12, Tryd.ntmps12
  go_wp2_with (go_at_call 8; refine (ask_any _ _ _ _ _ _ hy hyl).mono ?_; rintro e w' ⟨rfl, rfl⟩; rw [hask])
  go_ret2
  exact ⟨rfl, rfl⟩
set_option maxHeartbeats 1000000 in
theorem top_ok (dim : Int) (a : Option Addr) (c : Nat) (ds : List ItD) (b : Option Addr) (d : Nat) (ys : List Int) (k : Int) (tag : ByteArray) (w : World) (h : Its w a ds) (hl : ds.length ≤ 100) (hy : Ints w b ys) (hyl : ys.length ≤ maxLen) (hask : askB dim ys k = true)
    (hnum : ∀ x ∈ ds, x.x.nums.all numB = true ∧ x.x.nums.length ≤ 100) :
    Calls Tryd.prog 12 #[.int .i64 dim, .slice a ds.length c, .slice b ys.length d, .int .i64 k, .string tag] w fun e w' => (∃ v, e = .returned (.tuple #[v, .nilIface]) ∧ Fnds w' v ((srt (fnd ys tag (xsOf ds))).take k.toNat)) ∧ Below w.heap.size w w' := by
  have hk : 1 ≤ k ∧ k ≤ 60 := by simp [askB] at hask; exact ⟨hask.1.1.2, hask.1.2⟩
  have hyn : ys.all numB = true := by unfold askB at hask; rw [Bool.and_eq_true] at hask; exact hask.2
  have HK : Hid (1 ≤ k ∧ k ≤ 60) := hk
  have HYN : Hid (ys.all numB = true) := hyn
  have HN : Hid (∀ x ∈ ds, x.x.nums.all numB = true ∧ x.x.nums.length ≤ 100) := hnum
  clear hk hyn hnum
  go_enter Tryd.func12, Tryd.ntmps12
  go_wp2_with (go_at_call 8; refine (ask_any _ _ _ _ _ _ hy hyl).mono ?_; rintro e w' ⟨rfl, hw'⟩; obtain rfl : w = w' := hw'.symm; clear hw'; rw [hask])
  clear hask
  have hxl : (xsOf ds).length = ds.length := by simp [xsOf]
  go_loopw [12, 23] (fun v i wr => ∃ m : Nat, m ≤ ds.length ∧ i = .int .i64 m ∧ wr.ownsRow w.heap.size 25 2 v (fnd ys tag ((xsOf ds).take m)).length (flatF (fnd ys tag ((xsOf ds).take m))) ∧ (fnd ys tag ((xsOf ds).take m) = [] → v = .slice none 0 0) ∧ Below w.heap.size w wr) (fun _ i _ => ds.length - (intOf i).toNat)
  case atStart => exact ⟨0, by omega, rfl, ⟨rfl, Or.inl ⟨rfl, rfl⟩⟩, fun _ => rfl, Below.refl _ _⟩
  case round =>
    obtain ⟨m, hm, rfl, ow, hnil, br⟩ := hrel
    by_cases hlt : m < ds.length
    · have hr := h.below br
      have hyr := hy.below br
      have hdm : ds[m]? = some ds[m] := List.getElem?_eq_getElem hlt
      obtain ⟨g, o, rfl, q1, q2, q3, q4⟩ := hr m ds[m] hdm
      have hxk : (xsOf ds)[m]? = some ds[m].x := by unfold xsOf; rw [List.getElem?_map, hdm]; rfl
      have HST : Hid _ := fnd_step (ys := ys) (tag := tag) hxk
      have hnm := HN.out _ (List.mem_of_getElem? hdm)
      have hll : (fnd ys tag ((xsOf ds).take m)).length ≤ 100 := by have := fnd_len ys tag ((xsOf ds).take m); rw [List.length_take] at this; omega
      have HNIL : Hid _ := hnil
      generalize ds[m] = x at *
      obtain ⟨⟨nm, tg, zs⟩, xa, xc⟩ := x
      simp only [ItD.val] at q1 q2 q3 hxk hnm
      have q5 : Ints wr xa zs := q4.1
      have hlt' : (m : Int) < (ds.length : Int) := by omega
      generalize fnd ys tag ((xsOf ds).take m) = F at *
      obtain ⟨F', hF'⟩ : ∃ F', Hid (fnd ys tag ((xsOf ds).take (m + 1)) = F') := ⟨_, rfl⟩
      have s1 := below_alloc wr (.cells #[.string nm, .string tg, .slice xa zs.length xc] 43)
      have b1 := br.trans (s1.mono br.size)
      clear hr hnil hxk hdm q4
      by_cases ht : tagP tag ⟨nm, tg, zs⟩ = true
      · have HS2 : Hid (F' = F ++ [(nm, farI zs ys)]) := by
          have h := HST.out
          rw [hF'.out, if_pos ht] at h
          exact h
        have hgo : tag.toList = [] ∨ (¬ tag.toList = [] ∧ tg.toList = tag.toList) := by
          unfold tagP at ht
          rw [Bool.or_eq_true, decide_eq_true_eq, decide_eq_true_eq] at ht
          by_cases e : tag.toList = []
          · exact Or.inl e
          · exact Or.inr ⟨e, ht.resolve_left e⟩
        clear ht HST
        have jb : Blk (wr.alloc (.cells #[.string nm, .string tg, .slice xa zs.length xc] 43)) wr.heap.size #[.string nm, .string tg, .slice xa zs.length xc] 43 := Blk.new wr _ _
        obtain ⟨w2, hw2⟩ : ∃ w2, Hid (wr.alloc (.cells #[.string nm, .string tg, .slice xa zs.length xc] 43) = w2) := ⟨_, rfl⟩
        have HW2 : Hid (∀ W', Below w2.heap.size w2 W' → Blk W' wr.heap.size #[.string nm, .string tg, .slice xa zs.length xc] 43) := fun W' hb => by rw [← hw2.out] at hb; exact jb.below hb jb.lt
        have s1' : Below wr.heap.size wr w2 := by rw [← hw2.out]; exact s1
        have b1' : Below w.heap.size w w2 := br.trans (s1'.mono br.size)
        have ow2 := ownsRow_below ow s1'
        have q52 := q5.below s1'
        have hy2 := hyr.below s1'
        have hwz := b1'.size
        rcases hgo with hgo | ⟨hgo, hgo2⟩ <;> (
          go_wp2_with fail
          rw [hw2.out]
          refine region_s [(0, true), (1, true), (2, false), (3, true), (4, false), (5, true)] [6, 7, 8] [9, 10] (fun W' => Below w2.heap.size w2 W') mixed (by kernel_rfl) (fun _ _ _ _ _ h => h) (below_drewN (Below.refl _ _) 1) ?_
          refine lead_pure _ rfl _ rfl rfl u12 (fun w' => by go_simp) ?_
          refine lead_pure _ rfl _ rfl rfl (.pointer (some ⟨wr.heap.size, 0, none⟩)) (fun w' => by go_simp) ?_
          refine lead_read _ rfl _ rfl rfl (.string nm) (fun w' hS => by have c0 := (HW2.out w' hS).cell 0; go_simp) ?_
          refine lead_pure _ rfl _ rfl rfl (.pointer (some ⟨wr.heap.size, 2, none⟩)) (fun w' => by go_simp) ?_
          refine lead_read _ rfl _ rfl rfl (.slice xa zs.length xc) (fun w' hS => by have c0 := (HW2.out w' hS).cell 2; go_simp) ?_
          refine lead_pure _ rfl _ rfl rfl (.slice b ys.length d) (fun w' => by go_simp) ?_
          simp only [lead_nil_eq]
          simp only [Act.put, List.setIfInBounds_toArray, List.set_cons_succ, List.set_cons_zero]
          have sd : Below w2.heap.size w2 w2.drew := below_drewN (Below.refl _ _) 1
          refine mid_cons _ rfl rfl fun K hK => ?_
          go_wp2_with fail
          refine (far_any xa b xc d zs ys _ (q52.below sd) (hy2.below sd) hnm.2 hnm.1 HYN.out).mono ?_
          rintro e W2 ⟨rfl, n2, rfl⟩
          have s3 : Below w2.heap.size w2 (w2.drew.drewN n2) := below_drewN sd n2
          refine hK _ _ s3 ?_
          clear hK K
          generalize w2.drew.drewN n2 = w3 at *
          generalize farI zs ys = fr at *
          refine mid_cons _ rfl rfl fun K hK => ?_
          go_wp2_with fail
          refine hK _ _ s3 ?_
          clear hK K
          refine mid_cons _ rfl rfl fun K hK => ?_
          go_wp2_with fail
          have s4 := below_alloc w3 (.cells #[.string nm, .int .i64 fr] 25)
          have s34 := s3.trans (s4.mono s3.size)
          refine hK _ _ s34 ?_
          clear hK K
          simp only [mid_nil_eq]
          simp only [List.filterMap_cons, List.getElem?_toArray, List.getElem?_cons_succ, List.getElem?_cons_zero, List.filterMap_nil]
          have ow4 := ownsRow_below ow2 s34
          have b4 := b1'.trans (s34.mono b1'.size)
          have hz4 := b4.size
          refine wpl_pushZ rfl _ _ 31 rfl w.heap.size 25 (.agg #[.string ByteArray.empty, .int .i64 0]) 2 24 Tryd.underlying31 infoF rfl (by decide) u12 F.length (flatF F) rfl ow4 w3.heap.size 1 [.string nm, .int .i64 fr] rfl 25 (Blk.new w3 _ _) rfl (fun u hu => by simp at hu; rcases hu with rfl | rfl <;> rfl) (by omega) (by decide) hz4 ?_
          intro g6 c6 w6 ow6 gr6 hat6 hlt6
          go_wp2_with fail
          refine ⟨⟨m + 1, by omega, by go_num, ?_, ?_, row_grownBelow b4 ow4 gr6 b4.size⟩, by simp [intOf]; omega⟩
          · rw [hF'.out, HS2.out, List.length_append, flatF_snoc]; exact ow6
          · rw [hF'.out, HS2.out]; intro h; simp at h)
      · have HS2 : Hid (F' = F) := by
          have h := HST.out
          rw [hF'.out, if_neg ht, List.append_nil] at h
          exact h
        have hno : ¬ tag.toList = [] ∧ ¬ tg.toList = tag.toList := by
          unfold tagP at ht
          rw [Bool.or_eq_true, decide_eq_true_eq, decide_eq_true_eq] at ht
          exact ⟨fun e => ht (Or.inl e), fun e => ht (Or.inr e)⟩
        obtain ⟨hgo, hgo2⟩ := hno
        have hge : tag.toList.isEmpty = false := by simpa using hgo
        have hg2 : (tg.toList == tag.toList) = false := by simpa using hgo2
        clear ht HST
        go_wp2_with fail
        refine ⟨⟨m + 1, by omega, by go_num, ?_, ?_, b1⟩, by simp [intOf]; omega⟩
        · rw [hF'.out, HS2.out]; exact ownsRow_below ow s1
        · rw [hF'.out, HS2.out]; exact HNIL.out
    · have hm' : m = ds.length := by omega
      subst hm'
      rw [List.take_of_length_le (by rw [hxl]; omega)] at ow hnil
      have hll : (fnd ys tag (xsOf ds)).length ≤ 100 := by have := fnd_len ys tag (xsOf ds); omega
      obtain ⟨F, hF⟩ : ∃ F, Hid (fnd ys tag (xsOf ds) = F) := ⟨_, rfl⟩
      rw [hF.out] at ow hnil hll
      have hq := HK.out
      clear hxl h hy
      cases hf : F with
      | nil =>
        have hv := hnil hf
        subst hv
        clear ow hnil
        have hmin : min k 0 = 0 := by omega
        go_wp2_with (go_at_call 34; refine (sortNone_any _ _ _ _).mono ?_; rintro e w' ⟨rfl, rfl⟩)
        go_ret2
        rw [hF.out, hf]
        exact ⟨⟨_, rfl, none, 0, by simp [srt], by simp [srt], fun i x hx => by simp [srt] at hx⟩, br⟩
      | cons x0 F0 =>
        have hpos : 0 < F.length := by rw [hf]; simp
        obtain ⟨g, cap, cur, rfl, hgB, hgl, hh, hc1, hc2, _⟩ := own_parts ow (by omega)
        have HS := sort_any w.heap.size g cap F wr ow hpos (by omega) br.size
        obtain ⟨mm, hmm⟩ : ∃ mm : Nat, Hid (min k.toNat F.length = mm) := ⟨_, rfl⟩
        have hmin : min k (F.length : Int) = (mm : Int) := by rw [← hmm.out]; omega
        have hmc : mm ≤ F.length := by rw [← hmm.out]; omega
        have hmcap : mm ≤ cap := by omega
        clear hf hh ow hnil
        go_wp2_with (go_at_call 34; refine HS.mono ?_; rintro e w6 ⟨rfl, hFn, b6⟩)
        go_ret2
        have e : (srt F).take k.toNat = (srt F).take mm := by
          rw [← hmm.out]
          by_cases h : k.toNat ≤ F.length
          · rw [Nat.min_eq_left h]
          · rw [Nat.min_eq_right (by omega), List.take_of_length_le (by rw [srt_len]; omega), List.take_of_length_le (by rw [srt_len]; omega)]
        rw [hF.out, e]
        exact ⟨⟨_, rfl, hFn.cut mm hmc⟩, br.trans b6⟩
end Go.Proofs.YtamalmgfhpneaaaDoor.Nr
namespace Go.Proofs.YtamalmgfhpneaaaDoor.Nr
open Go.RowKit
open It
def sameB (x : ByteArray) (y : Itm) : Bool := y.name.toList == x.toList
theorem same_any (y : ItD) (w : World) (x0 : ByteArray) (bx : Nat) (hx0 : w.cell? ⟨bx, 0, none⟩ = some (.string x0)) (hbx : bx < w.heap.size) :
    Calls Tryd.prog 46 #[.agg y.arr, .pointer (some ⟨bx, 0, none⟩)] w fun e w' => e = .returned (.bool (sameB x0 y.x)) ∧ Below w.heap.size w w' := by
  unfold ItD.arr ItD.val
  obtain ⟨⟨nm, tg, zs⟩, a, c⟩ := y
  simp only
  have hb := below_alloc w (.cells #[.string nm, .string tg, .slice a zs.length c] 43)
  have hx1 : (w.alloc (.cells #[.string nm, .string tg, .slice a zs.length c] 43)).cell? ⟨bx, 0, none⟩ = some (.string x0) := (World.cell?_of_block (hb.block bx hbx)).trans hx0
  have HS : Hid (sameB x0 ⟨nm, tg, zs⟩ = (nm.toList == x0.toList)) := rfl
  rw [HS.out]
  go_enter Tryd.func46, Tryd.ntmps46
  go_wp2
  go_ret
  exact ⟨rfl, hb⟩
set_option maxHeartbeats 1000000 in
theorem indexSame_any (a : Option Addr) (c : Nat) (ds : List ItD) (w : World) (x0 : ByteArray) (bx : Nat) (h : Its w a ds) (hl : ds.length ≤ 65) (hx0 : w.cell? ⟨bx, 0, none⟩ = some (.string x0)) (hbx : bx < w.heap.size) :
    Calls Tryd.prog 61 #[.slice a ds.length c, .func (.func 46) #[] #[.pointer (some ⟨bx, 0, none⟩)]] w fun e w' => (∃ j : Int, e = .returned (.int .i64 j) ∧ (decide (0 ≤ j) = (xsOf ds).any (sameB x0))) ∧ Below w.heap.size w w' := by
  go_enter Tryd.func61, Tryd.ntmps61
  go_wp2_with fail
  go_loopw [8] (fun i wr => ∃ k : Nat, k ≤ ds.length ∧ i = .int .i64 k ∧ ((xsOf ds).take k).any (sameB x0) = false ∧ Below w.heap.size w wr) (fun i _ => ds.length - (intOf i).toNat)
  case atStart => exact ⟨0, by omega, rfl, rfl, Below.refl _ _⟩
  case round =>
    obtain ⟨k, hk, rfl, hp, hbel⟩ := hrel
    have HP : Hid (((xsOf ds).take k).any (sameB x0) = false) := hp
    clear hp
    by_cases hlt : k < ds.length
    · have hlt' : (k : Int) < (ds.length : Int) := by omega
      have hr := h.below hbel
      obtain ⟨g, o, rfl, q1, q2, q3, q4⟩ := hr k ds[k] (List.getElem?_eq_getElem hlt)
      have hxk : Hid ((xsOf ds)[k]? = some ds[k].x) := by unfold Hid xsOf; rw [List.getElem?_map, List.getElem?_eq_getElem hlt]; rfl
      generalize ds[k] = x at *
      obtain ⟨⟨nm, tg, zs⟩, xa, xc⟩ := x
      simp only [ItD.val] at q1 q2 q3 hxk
      clear hr
      go_wp2_with fail
      refine (same_any ⟨⟨nm, tg, zs⟩, xa, xc⟩ wr x0 bx ((World.cell?_of_block (hbel.block bx hbx)).trans hx0) (Nat.lt_of_lt_of_le hbx hbel.size)).mono ?_
      rintro e w1 ⟨rfl, g1⟩
      have hb1 := hbel.trans (g1.mono hbel.size)
      cases hx : sameB x0 ⟨nm, tg, zs⟩ with
      | true =>
        have HX : Hid ((xsOf ds).any (sameB x0) = true) := List.any_eq_true.2 ⟨_, List.mem_of_getElem? hxk.out, hx⟩
        clear q1 q2 q3 q4 g1 hx
        go_wp2_with fail
        go_ret
        exact ⟨⟨k, rfl, by rw [HX.out]; simp⟩, hb1⟩
      | false =>
        have HX : Hid (((xsOf ds).take (k + 1)).any (sameB x0) = false) := by
          unfold Hid; rw [List.take_add_one, hxk.out, List.any_append, HP.out]; simp [hx]
        clear q1 q2 q3 q4 g1 hx
        go_wp2_with fail
        exact ⟨⟨k + 1, by omega, by go_num, HX.out, hb1⟩, by simp [intOf]; omega⟩
    · have hk' : k = ds.length := by omega
      subst hk'
      have HX : Hid ((xsOf ds).any (sameB x0) = false) := by
        have := HP.out
        rw [List.take_of_length_le (by simp [xsOf])] at this; exact this
      go_wp2_with fail
      go_ret
      exact ⟨⟨-1, rfl, by rw [HX.out]; decide⟩, hbel⟩
theorem containsSame_any (a : Option Addr) (c : Nat) (ds : List ItD) (w : World) (x0 : ByteArray) (bx : Nat) (h : Its w a ds) (hl : ds.length ≤ 65) (hx0 : w.cell? ⟨bx, 0, none⟩ = some (.string x0)) (hbx : bx < w.heap.size) :
    Calls Tryd.prog 43 #[.slice a ds.length c, .func (.func 46) #[] #[.pointer (some ⟨bx, 0, none⟩)]] w fun e w' => e = .returned (.bool ((xsOf ds).any (sameB x0))) ∧ Below w.heap.size w w' := by
  go_enter Tryd.func43, Tryd.ntmps43
  go_wp2_with (go_at_call 61; refine (indexSame_any _ _ _ _ x0 bx h hl hx0 hbx).mono ?_; rintro e w' ⟨⟨j, rfl, hj⟩, g1⟩)
  go_ret
  refine ⟨?_, g1⟩
  rw [← hj]; simp
/-- Items' cells. -/
def flatI (ds : List ItD) : List Value := ds.flatMap fun d => [.string d.x.name, .string d.x.tag, d.val]
theorem flatI_len (ds : List ItD) : (flatI ds).length = ds.length * 3 := by
  induction ds with
  | nil => rfl
  | cons x l ih => show ([_, _, _] ++ flatI l).length = _; rw [List.length_append, ih, List.length_cons]; simp; omega
theorem flatI_snoc (ds : List ItD) (d : ItD) : flatI (ds ++ [d]) = flatI ds ++ [.string d.x.name, .string d.x.tag, d.val] := by simp [flatI]
theorem flatI_cell : ∀ (ds : List ItD) (i : Nat) (d : ItD), ds[i]? = some d → (flatI ds)[i * 3]? = some (.string d.x.name) ∧ (flatI ds)[i * 3 + 1]? = some (.string d.x.tag) ∧ (flatI ds)[i * 3 + 2]? = some d.val
  | [], i, x, h => by simp at h
  | y :: l, 0, x, h => by simp at h; subst h; exact ⟨rfl, rfl, rfl⟩
  | y :: l, i + 1, x, h => by
    have ih := flatI_cell l i x (by simpa using h)
    have e : flatI (y :: l) = .string y.x.name :: .string y.x.tag :: y.val :: flatI l := rfl
    rw [e, show (i + 1) * 3 = i * 3 + 1 + 1 + 1 from by omega]
    simpa using ih
theorem flatI_one (ds : List ItD) : ∀ u ∈ flatI ds, u.oneCell' = true := by
  intro u hu
  unfold flatI at hu
  obtain ⟨d, _, hd⟩ := List.mem_flatMap.1 hu
  simp at hd
  rcases hd with rfl | rfl | rfl <;> rfl
/-- Items in a row of the call's own, their numbers anywhere. -/
theorem its_own {w : World} {B : Nat} {v : Value} {ds : List ItD} (h : w.ownsRow B 43 3 v ds.length (flatI ds)) (hok : ∀ d ∈ ds, d.Ok w) : ∃ a c, v = .slice a ds.length c ∧ Its w a ds := by
  by_cases h0 : ds.length = 0
  · have hd : ds = [] := List.eq_nil_of_length_eq_zero h0
    subst hd
    obtain ⟨h1, ⟨h2, _⟩ | ⟨g, cap, cur, hv, _⟩⟩ := h
    · exact ⟨none, 0, h2, fun i d hd => by simp at hd⟩
    · exact ⟨some ⟨g, 0, none⟩, cap, hv, fun i d hd => by simp at hd⟩
  · obtain ⟨g, cap, cur, rfl, _, _, _, _, _, _⟩ := own_parts h (by omega)
    refine ⟨some ⟨g, 0, none⟩, cap, rfl, fun i d hd => ?_⟩
    obtain ⟨q1, q2, q3⟩ := flatI_cell ds i d hd
    refine ⟨g, 0, rfl, ?_, ?_, ?_, hok d (List.mem_of_getElem? hd)⟩
    · rw [Nat.zero_add]; exact row_cell h _ _ q1
    · rw [Nat.zero_add]; exact row_cell h _ _ q2
    · rw [Nat.zero_add]; exact row_cell h _ _ q3
def rgtS (out : List ItD) (d : ItD) : List ItD := if rightB d.x 2 && !((xsOf out).any (sameB d.x.name)) then out ++ [d] else out
def rgt (ds : List ItD) : List ItD := ds.foldl rgtS []
theorem rgt_step {ds : List ItD} {k : Nat} {d : ItD} (h : ds[k]? = some d) : rgt (ds.take (k + 1)) = rgtS (rgt (ds.take k)) d := by
  unfold rgt; rw [List.take_add_one, h, List.foldl_append]; rfl
theorem rgt_len_aux : ∀ (ds out : List ItD), (ds.foldl rgtS out).length ≤ out.length + ds.length
  | [], out => Nat.le_refl _
  | d :: ds, out => by
    have ih := rgt_len_aux ds (rgtS out d)
    have h : (rgtS out d).length ≤ out.length + 1 := by unfold rgtS; split <;> simp
    show (ds.foldl rgtS (rgtS out d)).length ≤ _
    rw [List.length_cons]; omega
theorem rgt_len (ds : List ItD) : (rgt ds).length ≤ ds.length := by have h := rgt_len_aux ds []; unfold rgt; simpa using h
theorem rgt_mem_aux : ∀ (ds out : List ItD) (d : ItD), d ∈ ds.foldl rgtS out → d ∈ out ∨ (d ∈ ds ∧ rightB d.x 2 = true)
  | [], out, d, h => Or.inl h
  | e :: ds, out, d, h => by
    rcases rgt_mem_aux ds (rgtS out e) d h with h1 | ⟨h1, h2⟩
    · unfold rgtS at h1
      by_cases hc : (rightB e.x 2 && !((xsOf out).any (sameB e.x.name))) = true
      · rw [if_pos hc] at h1
        rcases List.mem_append.1 h1 with h1 | h1
        · exact Or.inl h1
        · rw [List.mem_singleton] at h1
          subst h1
          rw [Bool.and_eq_true] at hc
          exact Or.inr ⟨List.mem_cons_self, hc.1⟩
      · rw [if_neg hc] at h1; exact Or.inl h1
    · exact Or.inr ⟨List.mem_cons_of_mem _ h1, h2⟩
theorem rgt_mem {ds : List ItD} {d : ItD} (h : d ∈ rgt ds) : d ∈ ds ∧ rightB d.x 2 = true := (rgt_mem_aux ds [] d h).resolve_left (fun h => by cases h)
theorem rgt_names_aux : ∀ (ds out : List ItD), (out.map fun d => d.x.name).Nodup → ((ds.foldl rgtS out).map fun d => d.x.name).Nodup
  | [], out, h => h
  | e :: ds, out, h => by
    refine rgt_names_aux ds (rgtS out e) ?_
    unfold rgtS
    by_cases hc : (rightB e.x 2 && !((xsOf out).any (sameB e.x.name))) = true
    · rw [if_pos hc, List.map_append]
      rw [Bool.and_eq_true, Bool.not_eq_true'] at hc
      refine List.nodup_append.2 ⟨h, by simp, fun a ha b hb => ?_⟩
      simp at hb
      subst hb
      obtain ⟨y, hy, rfl⟩ := List.mem_map.1 ha
      intro he
      have : (xsOf out).any (sameB e.x.name) = true := List.any_eq_true.2 ⟨y.x, List.mem_map.2 ⟨y, hy, rfl⟩, by unfold sameB; rw [he]; simp⟩
      rw [this] at hc; cases hc.2
    · rw [if_neg hc]; exact h
theorem rgt_names (ds : List ItD) : ((rgt ds).map fun d => d.x.name).Nodup := rgt_names_aux ds [] (by simp)
theorem infoIt : (Tryd.prog.info? 43).map (fun i => (i.zero, i.size, i.bytes)) = some (some (.agg #[.string ByteArray.empty, .string ByteArray.empty, .slice none 0 0]), 3, 56) := by kernel_rfl
set_option maxHeartbeats 1000000 in
theorem kright_any (a : Option Addr) (c : Nat) (ds : List ItD) (w : World) (h : Its w a ds) (hl : ds.length ≤ 65) :
    Calls Tryd.prog 21 #[.slice a ds.length c] w fun e w' => (∃ v, e = .returned v ∧ w'.ownsRow w.heap.size 43 3 v (rgt ds).length (flatI (rgt ds)) ∧ (rgt ds = [] → v = .slice none 0 0)) ∧ Below w.heap.size w w' := by
  go_enter Tryd.func21, Tryd.ntmps21
  go_wp2_with fail
  go_loopw [3, 4] (fun v i wr => ∃ m : Nat, m ≤ ds.length ∧ i = .int .i64 m ∧ wr.ownsRow w.heap.size 43 3 v (rgt (ds.take m)).length (flatI (rgt (ds.take m))) ∧ Hid (rgt (ds.take m) = [] → v = .slice none 0 0) ∧ Below w.heap.size w wr) (fun _ i _ => ds.length - (intOf i).toNat)
  case atStart => exact ⟨0, by omega, rfl, ⟨rfl, Or.inl ⟨rfl, rfl⟩⟩, fun _ => rfl, Below.refl _ _⟩
  case round =>
    obtain ⟨m, hm, rfl, ow, HNL, br⟩ := hrel
    by_cases hlt : m < ds.length
    · have hr := h.below br
      have hdm : ds[m]? = some ds[m] := List.getElem?_eq_getElem hlt
      obtain ⟨g, o, rfl, q1, q2, q3, q4⟩ := hr m ds[m] hdm
      have HST : Hid _ := rgt_step hdm
      have hll : (rgt (ds.take m)).length ≤ 65 := by have := rgt_len (ds.take m); rw [List.length_take] at this; omega
      have hok : ∀ d ∈ rgt (ds.take m), d.Ok wr := fun d hd => by
        have h1 := List.mem_of_mem_take (rgt_mem hd).1
        obtain ⟨i, hi⟩ := List.getElem?_of_mem h1
        obtain ⟨_, _, _, _, _, _, h2⟩ := hr i d hi
        exact h2
      generalize ds[m] = x at *
      have HX : Hid (x.Ok wr) := q4
      have hxv : x.val = .slice x.a x.x.nums.length x.c := rfl
      obtain ⟨a1, c1, hv, hIts⟩ := its_own ow hok
      have s1 := below_alloc wr (.cells x.arr 43)
      have b1 := br.trans (s1.mono br.size)
      have hlt' : (m : Int) < (ds.length : Int) := by omega
      have jb : Blk (wr.alloc (.cells x.arr 43)) wr.heap.size x.arr 43 := Blk.new wr _ _
      have HR := right_any x 2 (wr.alloc (.cells x.arr 43)) (q4.below s1)
      have HIts := hIts.below s1
      obtain ⟨F, hF⟩ : ∃ F, Hid (rgt (ds.take m) = F) := ⟨_, rfl⟩
      have HN : Hid (rgt (ds.take (m + 1)) = rgtS F x) := by rw [← hF.out]; exact HST.out
      rw [hF.out] at ow hll hv hIts HIts HNL
      obtain ⟨⟨nm, tg, zs⟩, xa, xc⟩ := x
      simp only [ItD.val] at q1 q2 q3
      simp only [ItD.arr, ItD.val] at s1 b1 jb HR HIts
      have cx : (wr.alloc (.cells #[.string nm, .string tg, .slice xa zs.length xc] 43)).cell? ⟨wr.heap.size, 0, none⟩ = some (.string nm) := jb.cell 0
      have ow1 := ownsRow_below ow s1
      clear hr hdm q4 hok HST hIts hxv
      subst hv
      cases hrt : rightB ⟨nm, tg, zs⟩ 2 with
      | false =>
        rw [hrt] at HR
        have HN2 : Hid (rgt (ds.take (m + 1)) = F) := by
          unfold Hid; rw [HN.out]; unfold rgtS; simp only [hrt, Bool.false_and]; rfl
        clear hrt HIts
        go_wp2_with (go_at_call 45; refine HR.mono ?_; rintro e w4 ⟨rfl, g4⟩)
        refine ⟨⟨m + 1, by omega, by go_num, ?_, ?_, b1.trans (g4.mono b1.size)⟩, by simp [intOf]; omega⟩
        · rw [HN2.out]; exact ownsRow_below ow1 g4
        · rw [HN2.out]; exact HNL
      | true =>
        rw [hrt] at HR
        go_wp2_with (go_at_call 45; refine HR.mono ?_; rintro e w4 ⟨rfl, g4⟩)
        have jb4 := jb.below g4 jb.lt
        have b4 := b1.trans (g4.mono b1.size)
        have ow4 := ownsRow_below ow1 g4
        refine (containsSame_any a1 c1 F w4 nm wr.heap.size (HIts.below g4) hll (jb4.cell 0) jb4.lt).mono ?_
        rintro e w5 ⟨rfl, g5⟩
        have jb5 := jb4.below g5 jb4.lt
        have b5 := b4.trans (g5.mono b4.size)
        have ow5 := ownsRow_below ow4 g5
        have d0 := jb5.cell 0
        have d1 := jb5.cell 1
        have d2 := jb5.cell 2
        have hz5 := b5.size
        cases hsm : (xsOf F).any (sameB nm) with
        | true =>
          have HN2 : Hid (rgt (ds.take (m + 1)) = F) := by
            unfold Hid; rw [HN.out]; unfold rgtS; simp only [hrt, hsm, Bool.not_true, Bool.and_false]; rfl
          clear hrt hsm HIts cx
          go_wp2_with fail
          refine ⟨⟨m + 1, by omega, by go_num, ?_, ?_, b5⟩, by simp [intOf]; omega⟩
          · rw [HN2.out]; exact ow5
          · rw [HN2.out]; exact HNL
        | false =>
          have HN2 : Hid (rgt (ds.take (m + 1)) = F ++ [⟨⟨nm, tg, zs⟩, xa, xc⟩]) := by
            unfold Hid; rw [HN.out]; unfold rgtS; simp only [hrt, hsm, Bool.not_false, Bool.and_true]; rfl
          have s6 := below_alloc w5 (.cells #[.string nm, .string tg, .slice xa zs.length xc] 43)
          have ow6 := ownsRow_below ow5 s6
          have b6 := b5.trans (s6.mono b5.size)
          have hz6 := b6.size
          clear hrt hsm HIts cx
          go_wp2_with (first
            | (refine wpl_pushZ rfl _ _ 22 rfl w.heap.size 43 (.agg #[.string ByteArray.empty, .string ByteArray.empty, .slice none 0 0]) 3 56 Tryd.underlying22 infoIt rfl (by decide) (.slice a1 F.length c1) F.length (flatI F) rfl ow6 w5.heap.size 1 [.string nm, .string tg, .slice xa zs.length xc] rfl 43 (Blk.new w5 _ _) rfl (fun u hu => by simp at hu; rcases hu with rfl | rfl | rfl <;> rfl) (by omega) (by decide) hz6 ?_; intro g7 c7 w7 ow7 gr7 hat7 hlt7)
            | fail)
          refine ⟨⟨m + 1, by omega, by go_num, ?_, ?_, row_grownBelow b6 ow6 gr7 b6.size⟩, by simp [intOf]; omega⟩
          · rw [HN2.out, List.length_append, flatI_snoc]; exact ow7
          · rw [HN2.out]; intro h; simp at h
    · have hm' : m = ds.length := by omega
      subst hm'
      rw [List.take_length] at ow HNL
      go_wp2_with fail
      go_ret
      exact ⟨⟨_, rfl, ow, HNL.out⟩, br⟩
end Go.Proofs.YtamalmgfhpneaaaDoor.Nr
namespace Go.Proofs.YtamalmgfhpneaaaDoor.Nr
open Go.RowKit
open It
theorem tl_inj {a b : ByteArray} (h : a.toList = b.toList) : a = b := ba_inj (by rw [← ByteArray.toList_eq, ← ByteArray.toList_eq]; exact h)
theorem eqF_yes (x : ByteArray) (a : Int) (w : World) : (binOp .eql 25 (.agg #[.string x, .int .i64 a]) (.agg #[.string x, .int .i64 a])).run Tryd.prog w = .ok (.bool true) w := by
  go_simp
theorem eqF_no {x y : ByteArray} {a b : Int} (h : ¬ (x, a) = (y, b)) (w : World) : (binOp .eql 25 (.agg #[.string x, .int .i64 a]) (.agg #[.string y, .int .i64 b])).run Tryd.prog w = .ok (.bool false) w := by
  go_simp
  intro h1 h2
  exact h (by rw [tl_inj h1, h2])
theorem neF_no (x : ByteArray) (a : Int) (w : World) : (binOp .neq 25 (.agg #[.string x, .int .i64 a]) (.agg #[.string x, .int .i64 a])).run Tryd.prog w = .ok (.bool false) w := by
  go_simp
set_option maxHeartbeats 1000000 in
theorem feq_any (v u : Value) (l : List (ByteArray × Int)) (w : World) (hv : Fnds w v l) (hu : Fnds w u l) (hl : l.length ≤ 1000) :
    Calls Tryd.prog 23 #[v, u] w fun e w' => e = .returned (.bool true) ∧ ∃ n, w' = w.drewN n := by
  obtain ⟨a, c, rfl, _, ha⟩ := hv
  obtain ⟨b, d, rfl, _, hb⟩ := hu
  go_enter Tryd.func23, Tryd.ntmps23
  go_wp2_with fail
  go_loopw [13] (fun i wr => ∃ k n : Nat, k ≤ l.length ∧ i = .int .i64 k ∧ wr = w.drewN n) (fun i _ => l.length - (intOf i).toNat)
  case atStart => exact ⟨0, 0, by omega, rfl, rfl⟩
  case round =>
    obtain ⟨k, n, hk, rfl, rfl⟩ := hrel
    by_cases hlt : k < l.length
    · obtain ⟨g, o, rfl, hg, c0, c1⟩ := ha k l[k] (List.getElem?_eq_getElem hlt)
      obtain ⟨g', o', rfl, hg', c0', c1'⟩ := hb k l[k] (List.getElem?_eq_getElem hlt)
      have hlt' : (k : Int) < (l.length : Int) := by omega
      generalize l[k] = x at *
      obtain ⟨xn, xf⟩ := x
      have hq := neF_no xn xf
      simp only at c0 c1 c0' c1'
      go_wp2_with fail
      go_quiet (fail)
      go_wp2
      go_light
      exact ⟨⟨k + 1, n + nq, by omega, by go_num, rfl⟩, by simp [intOf]; omega⟩
    · go_wp2_with fail
      go_ret
      exact ⟨rfl, n, rfl⟩
end Go.Proofs.YtamalmgfhpneaaaDoor.Nr
