/-
  Part of the proof: cells: the cells of a Cells by how near they are, and the closure that tells them one by one.
  Part of the proof: cells: the closure that tells cells one by one.
  Part of the proof: cells: the first ones of what is sorted; a cell's nearest place is not farther than its items.
-/
import Derived.Test.YtamalmgfhpneaaaDoorB15
import Derived.Test.YtamalmgfhpneaaaDoorB18
namespace Go.Proofs.YtamalmgfhpneaaaDoor.Ce
open Go.RowKit
open It Nr Sy
def reF (ys : List Int) (x : CeD) : ReD := ⟨x, leastI x.co ys⟩
theorem begF_num {n : Int} (h : numB n = true) : numB (begF n) = true := by
  unfold numB at *
  rw [Bool.and_eq_true, decide_eq_true_eq, decide_eq_true_eq] at *
  unfold begF
  omega
theorem infoR : (Tryd.prog.info? 99).map (fun i => (i.zero, i.size, i.bytes)) = some (some (.agg #[.slice none 0 0, .slice none 0 0, .int .i64 0]), 3, 56) := by kernel_rfl
theorem mkReach (c : Nat) (hc : c ≤ 100000) (w : World) (B : Nat) (hB : B ≤ w.heap.size) : ∃ w', (Instr.makeSlice 96 (.int .i64 0) (.int .i64 (c : Int))).run Tryd.prog w = .ok (.slice (some ⟨w.heap.size, 0, none⟩) 0 c) w' ∧
    w'.ownsRow B 99 3 (.slice (some ⟨w.heap.size, 0, none⟩) 0 c) 0 [] ∧ Below w.heap.size w w' := by
  obtain ⟨i0, hi0, hz0, hz1, hz2⟩ := info_parts infoR
  obtain ⟨w', h1, h2, h3⟩ := run_make_own w B 96 99 i0 _ 3 Tryd.underlying96 hi0 hz0 hz1 .i64 .i64 c (by rw [hz2]; omega) (by unfold maxLen; omega) hB
  exact ⟨w', h1, h2, below_of_grown h3⟩
theorem blk_apart {w : World} {b : Nat} {arr : Array Value} {T : TypeId} {B : Nat} {e : TypeId} {z : Nat} {v : Value} {n : Nat} {xs : List Value} (h : Blk w b arr T) (h' : w.ownsRow B e z v n xs) (he : T ≠ e) : v.ownBlock ≠ some b := by
  obtain ⟨_, ⟨h2, _⟩ | ⟨g, cap, cur, hv, _, hh, _⟩⟩ := h'
  · rw [h2]; intro e; cases e
  · rw [hv]
    intro e2
    simp only [Value.ownBlock, Option.some.injEq] at e2
    subst e2
    unfold Blk at h
    rw [h] at hh
    injection hh with hh
    injection hh with _ h3
    exact he h3
/-- What is asked of cells. -/
structure CG (os : List CeD) : Prop where
  pos : ∀ x ∈ os, 0 < x.co.length ∧ x.co.length ≤ 100
  num : ∀ x ∈ os, x.co.all numB = true
set_option maxRecDepth 100000 in
set_option maxHeartbeats 8000000 in
theorem finder_any (p : Nat) (dim : Int) (av : Option Addr) (cv : Nat) (os : List CeD) (C : Nat) (b : Option Addr) (d : Nat) (ys : List Int) (w : World) (hp : Blk w p #[.int .i64 dim, .slice av os.length cv] 73)
    (hr : w.ownsRow C 68 2 (.slice av os.length cv) os.length (flatC os)) (hs : CS w C os) (hl : os.length ≤ 100) (hg : CG os) (hy : Ints w b ys) (hyn : ys.all numB = true) :
    Calls Tryd.prog 41 #[.pointer (some ⟨p, 0, none⟩), .slice b ys.length d] w fun e w' => (∃ lb g cap tl d', e = .returned (.func (.func 60) #[] #[.pointer (some ⟨lb, 0, none⟩)]) ∧ Blk w' lb #[.slice (some ⟨g, 0, none⟩) os.length cap] 96 ∧ Blk w' g (fl encR tl d') 99 ∧ os.length ≤ cap ∧ d'.toList.Perm (os.map (reF ys)) ∧ Sor cfR (nth d') 0 os.length ∧ w.heap.size ≤ g ∧ w.heap.size ≤ lb) ∧ Below w.heap.size w w' := by
  have HP : Hid _ := hp
  have HR : Hid (w.ownsRow C 68 2 (.slice av os.length cv) os.length (flatC os)) := hr
  have HS : Hid (CS w C os) := hs
  have HG : Hid (CG os) := hg
  have HY : Hid (Ints w b ys) := hy
  have HYN : Hid (ys.all numB = true) := hyn
  obtain ⟨w1, k1, k2, k3⟩ := mkReach os.length (by omega) w w.heap.size (Nat.le_refl _)
  have K2 : Hid (w1.ownsRow w.heap.size 99 3 (.slice (some ⟨w.heap.size, 0, none⟩) 0 os.length) 0 []) := k2
  have p0 := hp.cell 1
  have p1 : w1.cell? ⟨p, 1, none⟩ = some (.slice av os.length cv) := (hp.below k3 hp.lt).cell 1
  obtain ⟨lb, hlb⟩ : ∃ lb, w1.heap.size = lb := ⟨_, rfl⟩
  have a2 := below_alloc w1 (.cells #[.slice (some ⟨w.heap.size, 0, none⟩) 0 os.length] 96)
  have p2 : (w1.alloc (.cells #[.slice (some ⟨w.heap.size, 0, none⟩) 0 os.length] 96)).cell? ⟨p, 1, none⟩ = some (.slice av os.length cv) := (Blk.below (hp.below k3 hp.lt) a2 (hp.below k3 hp.lt).lt).cell 1
  have b2 := k3.trans (a2.mono k3.size)
  have HB2 : Hid _ := Blk.new' w1 #[.slice (some ⟨w.heap.size, 0, none⟩) 0 os.length] 96 hlb.symm
  have HO2 : Hid ((w1.alloc (.cells #[.slice (some ⟨w.heap.size, 0, none⟩) 0 os.length] 96)).ownsRow w.heap.size 99 3 (.slice (some ⟨w.heap.size, 0, none⟩) 0 os.length) 0 []) := ownsRow_below K2.out a2
  have HLB : Hid (w.heap.size ≤ lb) := by rw [← hlb]; exact k3.size
  clear hp hr hs hg hy hyn k2 K2 k3 a2
  go_enter Tryd.func41, Tryd.ntmps41
  go_wp2_with fail
  clear hlb p0 p1 p2
  go_loopw [7, 19] (fun _ i wr => ∃ (j g cap : Nat) (rs : List ReD), j ≤ os.length ∧ i = .int .i64 j ∧ Hid (Blk wr lb #[.slice (some ⟨g, 0, none⟩) j cap] 96) ∧ Hid (wr.ownsRow w.heap.size 99 3 (.slice (some ⟨g, 0, none⟩) j cap) j (rs.flatMap encR)) ∧ Hid (rs = (os.take j).map (reF ys)) ∧ Below w.heap.size w wr) (fun _ i _ => os.length - (intOf i).toNat)
  case atStart => exact ⟨0, w.heap.size, os.length, [], by omega, rfl, HB2.out, HO2.out, rfl, b2⟩
  case round =>
    clear HB2 HO2 b2
    obtain ⟨j, g, cap, rs, hj, rfl, HB, HO, HF, br⟩ := hrel
    by_cases hlt : j < os.length
    · have hlt' : (j : Int) < (os.length : Int) := by omega
      have hxj : os[j]? = some os[j] := List.getElem?_eq_getElem hlt
      obtain ⟨q1, q2⟩ := flatC_cell hxj
      have hrr := ownsRow_below HR.out br
      obtain ⟨go, _, _, hva, _, _, _⟩ := own_parts hrr (by omega)
      injection hva with hva1 hva2 hva3
      subst hva1
      replace q1 := row_cell hrr _ _ q1
      replace q2 := row_cell hrr _ _ q2
      have hxm : os[j] ∈ os := List.mem_of_getElem? hxj
      have HXI : Hid (Ints wr os[j].ca os[j].co) := co_ints (CS.below HS.out br) hxm
      have HXG : Hid (0 < os[j].co.length ∧ os[j].co.length ≤ 100 ∧ os[j].co.all numB = true) := ⟨(HG.out.pos _ hxm).1, (HG.out.pos _ hxm).2, HG.out.num _ hxm⟩
      have HTK : Hid ((os.take (j + 1)).map (reF ys) = (os.take j).map (reF ys) ++ [reF ys os[j]]) := by unfold Hid; rw [List.take_add_one, hxj, List.map_append]; rfl
      generalize os[j] = x at *
      obtain ⟨co, ca, cc, it, ia, ic⟩ := x
      simp only [CeD.e0, CeD.e1] at q1 q2
      have HXI' : Hid (Ints wr ca co) := HXI.out
      have HXG' : Hid (0 < co.length ∧ co.length ≤ 100 ∧ co.all numB = true) := HXG.out
      clear hxj hxm hrr HXI HXG hva2 hva3
      obtain ⟨xb, hxb⟩ : ∃ xb, wr.heap.size = xb := ⟨_, rfl⟩
      have jb : Blk (wr.alloc (.cells #[.slice ca co.length cc, .slice ia it.length ic] 68)) xb #[.slice ca co.length cc, .slice ia it.length ic] 68 := Blk.new' wr _ _ hxb.symm
      obtain ⟨wq, hwq⟩ : ∃ wq, wr.alloc (.cells #[.slice ca co.length cc, .slice ia it.length ic] 68) = wq := ⟨_, rfl⟩
      have HSQ : Hid (Below wr.heap.size wr wq) := by rw [← hwq]; exact below_alloc wr _
      rw [hwq] at jb
      have HJB : Hid (∀ W, Below wq.heap.size wq W → Blk W xb #[.slice ca co.length cc, .slice ia it.length ic] 68) := fun W hW => jb.below hW jb.lt
      have lb1 := HB.out.below HSQ.out HB.out.lt
      have HLBB : Hid (∀ W, Below wq.heap.size wq W → Blk W lb #[.slice (some ⟨g, 0, none⟩) j cap] 96) := fun W hW => lb1.below hW lb1.lt
      have HOQ : Hid (wq.ownsRow w.heap.size 99 3 (.slice (some ⟨g, 0, none⟩) j cap) j (rs.flatMap encR)) := ownsRow_below HO.out HSQ.out
      have HBQ : Hid (Below w.heap.size w wq) := br.trans (HSQ.out.mono br.size)
      have HXQ : Hid (Ints wq ca co) := HXI'.out.below HSQ.out
      have HYQ : Hid (Ints wq b ys) := Ints.below HY.out HBQ.out
      have hww : w.heap.size ≤ wq.heap.size := HBQ.out.size
      clear HB HO jb lb1 br HXI'
      go_wp2_with fail
      clear hwq hxb q1 q2
      have d0 : Below wq.heap.size wq wq.drew := below_drewN (Below.refl _ _) 1
      have s0 : Blk wq.drew lb #[.slice (some ⟨g, 0, none⟩) j cap] 96 ∧ Blk wq.drew xb #[.slice ca co.length cc, .slice ia it.length ic] 68 := ⟨HLBB.out _ d0, HJB.out _ d0⟩
      refine region_s [(0, false), (1, false), (2, false), (3, true)] [4, 5, 6] [7, 8] (fun W => Blk W lb #[.slice (some ⟨g, 0, none⟩) j cap] 96 ∧ Blk W xb #[.slice ca co.length cc, .slice ia it.length ic] 68) mixed (by kernel_rfl) (fun _ _ _ _ _ h => h) s0 ?_
      refine lead_read _ rfl _ rfl rfl (.slice (some ⟨g, 0, none⟩) j cap) (fun W hW => by have a0 := hW.1.cell 0; go_simp) ?_
      refine lead_read _ rfl _ rfl rfl (.agg #[.slice ca co.length cc, .slice ia it.length ic]) (fun W hW => by have a0 := hW.2.cell 0; have a1 := hW.2.cell 1; go_simp) ?_
      refine lead_read _ rfl _ rfl rfl (.agg #[.slice ca co.length cc, .slice ia it.length ic]) (fun W hW => by have a0 := hW.2.cell 0; have a1 := hW.2.cell 1; go_simp) ?_
      refine lead_pure _ rfl _ rfl rfl (.slice b ys.length d) (fun W => by go_simp) ?_
      simp only [lead_nil_eq]
      simp only [Act.put, List.setIfInBounds_toArray, List.set_cons_succ, List.set_cons_zero]
      refine mid_cons _ rfl rfl fun K hK => ?_
      go_wp2_with fail
      refine (least_any ⟨co, ca, cc, it, ia, ic⟩ b d ys wq.drew (HXQ.out.below d0) (HYQ.out.below d0) HXG'.out.1 HXG'.out.2.1 HXG'.out.2.2 HYN.out).mono ?_
      rintro e w3 ⟨he, g3⟩
      obtain ⟨lv, hlv⟩ : ∃ lv, leastI co ys = lv := ⟨_, rfl⟩
      have he' : e = .returned (.int .i64 lv) := by rw [he, ← hlv]
      have HLV : Hid (leastI co ys = lv) := hlv
      subst he'
      clear he hlv
      have B3 := d0.trans g3
      refine hK _ _ ⟨HLBB.out _ B3, HJB.out _ B3⟩ ?_
      clear hK K g3
      refine mid_cons _ rfl rfl fun K hK => ?_
      go_wp2_with fail
      refine hK _ _ ⟨HLBB.out _ B3, HJB.out _ B3⟩ ?_
      clear hK K
      refine mid_cons _ rfl rfl fun K hK => ?_
      go_wp2_with fail
      have a4 := below_alloc w3 (.cells #[.slice ca co.length cc, .slice ia it.length ic, .int .i64 lv] 99)
      have B4 := B3.trans (a4.mono B3.size)
      refine hK _ _ ⟨HLBB.out _ B4, HJB.out _ B4⟩ ?_
      clear hK K
      simp only [mid_nil_eq]
      simp only [List.filterMap_cons, List.getElem?_toArray, List.getElem?_cons_succ, List.getElem?_cons_zero, List.filterMap_nil]
      have O4 := ownsRow_below HOQ.out B4
      have L4 := HLBB.out _ B4
      have z4 := Nat.le_trans hww B4.size
      refine wpl_pushZ rfl _ _ 96 rfl w.heap.size 99 (.agg #[.slice none 0 0, .slice none 0 0, .int .i64 0]) 3 56 Tryd.underlying96 infoR rfl (by decide) (.slice (some ⟨g, 0, none⟩) j cap) j (rs.flatMap encR) rfl O4 w3.heap.size 1 [.slice ca co.length cc, .slice ia it.length ic, .int .i64 lv] rfl 99 (Blk.new w3 _ _) rfl (fun u hu => by simp at hu; rcases hu with rfl | rfl | rfl <;> rfl) (by omega) (by decide) z4 ?_
      intro g6 c6 w6 ow6 gr6 hat6 hlt6
      have L6 := blk_grown L4 gr6 (blk_apart L4 O4 (by decide))
      have B6 : Below w.heap.size w w6 := row_grownBelow (HBQ.out.trans (B4.mono hww)) O4 gr6 z4
      have c6c := L6.cell 0
      have f6 : w6.frozen? ⟨lb, 0, none⟩ = false := L6.frozen 0
      have L7 : Blk (w6.setCell ⟨lb, 0, none⟩ (.slice (some ⟨g6, 0, none⟩) (j + 1) c6)) lb #[.slice (some ⟨g6, 0, none⟩) (j + 1) c6] 96 := L6.set 0 _
      have u7 := setCell_upd w6 lb 0 (.slice (some ⟨g6, 0, none⟩) (j + 1) c6)
      have HO7 : Hid ((w6.setCell ⟨lb, 0, none⟩ (.slice (some ⟨g6, 0, none⟩) (j + 1) c6)).ownsRow w.heap.size 99 3 (.slice (some ⟨g6, 0, none⟩) (j + 1) c6) (j + 1) (rs.flatMap encR ++ [.slice ca co.length cc, .slice ia it.length ic, .int .i64 lv])) := own_kept ow6 (upd_grown u7) (Or.inr (blk_apart L6 ow6 (by decide)))
      have HL7 : Hid _ := L7
      have B7 := below_upd B6 u7 HLB.out
      clear L6 L7 ow6 L4 O4 gr6 hat6
      go_wp2_with fail
      refine ⟨⟨j + 1, g6, c6, rs ++ [⟨⟨co, ca, cc, it, ia, ic⟩, lv⟩], by omega, by go_num, HL7.out, ?_, ?_, B7⟩, by simp [intOf]; omega⟩
      · unfold Hid
        rw [List.flatMap_append]
        exact HO7.out
      · unfold Hid
        rw [HTK.out, HF.out]
        unfold reF
        rw [HLV.out]
    · obtain rfl : j = os.length := by omega
      have hrsl : rs.length = os.length := by rw [HF.out, List.length_map, List.length_take]; omega
      have hrow : wr.ownsRow w.heap.size 99 3 (.slice (some ⟨g, 0, none⟩) rs.length cap) rs.length (rs.flatMap encR) := by rw [hrsl]; exact HO.out
      obtain ⟨tl, hbk, hsz, hcap, hmx, hgB⟩ := row_fl hrow
      have hlbg : lb ≠ g := fun e => blk_apart HB.out HO.out (by decide) (by show some g = some lb; rw [e])
      have HSO : Hid _ := SyR.sort_stable encR tl encR_len encR_one cfR preR g cap os.length rs.toArray wr (fun W _ x _ y _ => by
        have := find1_any x y W
        exact this) hbk (by simp [hrsl]) (by omega)
      have hc0 := HB.out.cell 0
      have HCAP : Hid (os.length ≤ cap) := by rw [← hrsl]; exact hcap
      have HRS : Hid (rs = os.map (reF ys)) := by have := HF.out; rw [List.take_length] at this; exact this
      clear hlt hj hrow hbk hsz hcap hrsl HO HF
      go_wp2_with fail
      refine Calls.mono HSO.out ?_
      rintro e w5 ⟨rfl, d', hu, hb', hp', hso⟩
      have L5 := Blk.updG HB.out hu hlbg
      have B5 := hu.below br br.size hgB
      have HFIN : Hid (Blk w5 g (fl encR tl d') 99 ∧ d'.toList.Perm (os.map (reF ys)) ∧ Sor cfR (nth d') 0 os.length) := ⟨hb', by rw [← HRS.out]; simpa using hp', hso⟩
      have HL5 : Hid _ := L5
      clear HSO hu hb' hp' hso L5
      go_wp2_with fail
      go_ret
      exact ⟨⟨lb, g, cap, tl, d', rfl, HL5.out, HFIN.out.1, HCAP.out, HFIN.out.2.1, HFIN.out.2.2, hgB, HLB.out⟩, B5⟩
end Go.Proofs.YtamalmgfhpneaaaDoor.Ce
namespace Go.Proofs.YtamalmgfhpneaaaDoor.Ce
open Go.RowKit
open It Nr Sy
theorem ret_cellV2 {P : Program} {fn : Func} {R : Ending → World → Prop} {a : Act} {w : World} (p q : Tmp) (t : TypeId) (hf : fn.results = #[.cell p t, .tmp q]) (ha : ∀ w, (isAgg t).run P w = .ok true w) (n : Nat) (hi0 : (P.info? t).map (·.size) = some n)
    (b : Nat) (vs : Array Value) (T : TypeId) (hn : vs.size = n) (v : Value) (hx : a.tmps.getD p undef = .pointer (some ⟨b, 0, none⟩)) (hq : a.tmps.getD q undef = v) (hb : Blk w b vs T) (hd : a.defers = []) (hR : R (.returned (.tuple #[.agg vs, v])) w) : bodyPost P fn R .ret a w := by
  refine bodyPost_ret ?_ hd hR
  have hl := loadV_run w t ha n hi0 b 0 vs T hb (by omega)
  rw [Nat.zero_add, ← hn, Array.extract_size] at hl
  have hx' : a.tmps[p]?.getD undef = .pointer (some ⟨b, 0, none⟩) := by rw [← hx]; simp
  have hq' : a.tmps[q]?.getD undef = v := by rw [← hq]; simp
  simp only [results, hf]
  simp [hx', hq', asAddr, hl]
theorem next_no (far : Int) (lb : Nat) (q : Option Addr) (n c : Nat) (w : World) (hB : Blk w lb #[.slice q n c] 96) (hcase : n = 0 ∨ (0 < n ∧ ∃ g o lv, q = some ⟨g, o, none⟩ ∧ w.cell? ⟨g, o + 2, none⟩ = some (.int .i64 lv) ∧ far < lv)) :
    Calls Tryd.prog 60 #[.int .i64 far, .pointer (some ⟨lb, 0, none⟩)] w fun e w' => e = .returned (.tuple #[.agg #[.slice none 0 0, .slice none 0 0], .bool false]) ∧ Below w.heap.size w w' := by
  have a1 := below_alloc w (.cells #[.slice none 0 0, .slice none 0 0] 68)
  have j1 : Blk (w.alloc (.cells #[.slice none 0 0, .slice none 0 0] 68)) w.heap.size #[.slice none 0 0, .slice none 0 0] 68 := Blk.new w _ _
  have l1 := (hB.below a1 hB.lt).cell 0
  rcases hcase with rfl | ⟨hn, g, o, lv, rfl, hc, hlt⟩
  · go_enter Tryd.func60, Tryd.ntmps60
    go_wp2_with fail
    refine ret_cellV2 3 4 68 rfl Tryd.isAgg68 2 SyC.szE w.heap.size _ _ rfl (.bool false) rfl rfl j1 rfl ?_
    exact ⟨rfl, a1⟩
  · have hc1 := cell_below a1 hc
    have hn0 : ((n : Int) == 0) = false := by rw [beq_eq_false_iff_ne]; omega
    have hn1 : (0 : Int) < (n : Int) := by omega
    go_enter Tryd.func60, Tryd.ntmps60
    go_wp2_with fail
    refine ret_cellV2 3 4 68 rfl Tryd.isAgg68 2 SyC.szE w.heap.size _ _ rfl (.bool false) rfl rfl j1 rfl ?_
    exact ⟨rfl, a1⟩
theorem next_ok (far : Int) (lb g o n c : Nat) (ca ia : Option Addr) (lc cc li ic : Nat) (lv : Int) (w : World) (hB : Blk w lb #[.slice (some ⟨g, o, none⟩) (n + 1) c] 96) (hc : n + 1 ≤ c) (h0 : w.cell? ⟨g, o, none⟩ = some (.slice ca lc cc)) (h1 : w.cell? ⟨g, o + 1, none⟩ = some (.slice ia li ic)) (h2 : w.cell? ⟨g, o + 2, none⟩ = some (.int .i64 lv)) (hf : ¬ far < lv) :
    Calls Tryd.prog 60 #[.int .i64 far, .pointer (some ⟨lb, 0, none⟩)] w fun e w' => e = .returned (.tuple #[.agg #[.slice ca lc cc, .slice ia li ic], .bool true]) ∧ (∃ q', Blk w' lb #[.slice q' n (c - 1)] 96 ∧ (0 < n → q' = some ⟨g, o + 3, none⟩)) ∧ UpdG w w' lb := by
  have a1 := below_alloc w (.cells #[.slice none 0 0, .slice none 0 0] 68)
  have l1 := (hB.below a1 hB.lt).cell 0
  have a2 := below_alloc (w.alloc (.cells #[.slice none 0 0, .slice none 0 0] 68)) (.cells #[.slice ca lc cc, .slice ia li ic] 68)
  have j2 := (hB.below a1 hB.lt).below a2 (hB.below a1 hB.lt).lt
  have l2 := j2.cell 0
  have f2 : ((w.alloc (.cells #[.slice none 0 0, .slice none 0 0] 68)).alloc (.cells #[.slice ca lc cc, .slice ia li ic] 68)).frozen? ⟨lb, 0, none⟩ = false := j2.frozen 0
  have c0 := cell_below a1 h0
  have c1 := cell_below a1 h1
  have c2 := cell_below a1 h2
  have hn0 : (((n + 1 : Nat) : Int) == 0) = false := by rw [beq_eq_false_iff_ne]; omega
  have hn1 : (0 : Int) < ((n + 1 : Nat) : Int) := by omega
  have hlb := hB.lt
  have hz2 : ((w.alloc (.cells #[.slice none 0 0, .slice none 0 0] 68)).alloc (.cells #[.slice ca lc cc, .slice ia li ic] 68)).heap.size = w.heap.size + 2 := by simp
  have HZ2 : Hid _ := hz2
  obtain ⟨W2, hW2⟩ : ∃ W, (w.alloc (.cells #[.slice none 0 0, .slice none 0 0] 68)).alloc (.cells #[.slice ca lc cc, .slice ia li ic] 68) = W := ⟨_, rfl⟩
  have hb0 : Blk W2 w.heap.size #[.slice none 0 0, .slice none 0 0] 68 := by rw [← hW2]; exact (Blk.new w _ _).alloc _
  have hb1 : Blk W2 (w.heap.size + 1) #[.slice ca lc cc, .slice ia li ic] 68 := by rw [← hW2]; exact Blk.new' _ _ _ (by simp)
  have hg2 : UpdG w W2 lb := by rw [← hW2]; exact ((UpdG.refl w lb).alloc _).alloc _
  rw [hW2] at l2 f2 j2
  clear hz2 HZ2 a1 a2
  have key : ∀ q' : Option Addr, (0 < n → q' = some ⟨g, o + 3, none⟩) → ∀ W3, W2.setCell ⟨lb, 0, none⟩ (.slice q' n (c - 1)) = W3 → ∀ W4, (W3.setCell ⟨w.heap.size, 0, none⟩ (.slice ca lc cc)).setCell ⟨w.heap.size, 1, none⟩ (.slice ia li ic) = W4 → Blk W3 (w.heap.size + 1) #[.slice ca lc cc, .slice ia li ic] 68 ∧ Blk W3 w.heap.size #[.slice none 0 0, .slice none 0 0] 68 ∧ Blk W4 w.heap.size #[.slice ca lc cc, .slice ia li ic] 68 ∧ Blk W4 lb #[.slice q' n (c - 1)] 96 ∧ UpdG w W4 lb := by
    intro q' _ W3 h3 W4 h4
    have e1 : Blk W3 (w.heap.size + 1) #[.slice ca lc cc, .slice ia li ic] 68 := by rw [← h3]; exact hb1.setOther ⟨lb, 0, none⟩ (by show lb ≠ _; omega) _
    have e2 : Blk W3 w.heap.size #[.slice none 0 0, .slice none 0 0] 68 := by rw [← h3]; exact hb0.setOther ⟨lb, 0, none⟩ (by show lb ≠ _; omega) _
    have e3 : Blk W3 lb #[.slice q' n (c - 1)] 96 := by rw [← h3]; exact j2.set 0 _
    have e4 : UpdG w W3 lb := by rw [← h3]; exact hg2.upd (setCell_upd _ _ _ _)
    refine ⟨e1, e2, ?_, ?_, ?_⟩
    · rw [← h4]
      exact (e2.set 0 (.slice ca lc cc)).set 1 (.slice ia li ic)
    · rw [← h4]
      exact (e3.setOther ⟨w.heap.size, 0, none⟩ (by show w.heap.size ≠ _; omega) _).setOther ⟨w.heap.size, 1, none⟩ (by show w.heap.size ≠ _; omega) _
    · rw [← h4]
      exact (e4.updN (setCell_upd _ _ _ _) (Nat.le_refl _)).updN (setCell_upd _ _ _ _) (Nat.le_refl _)
  have KEY : Hid _ := key
  clear key hb0 hb1 hg2 j2 hB
  by_cases hc1 : c = 1
  · obtain rfl : n = 0 := by omega
    subst hc1
    obtain ⟨W3, hW3⟩ : ∃ W3, W2.setCell ⟨lb, 0, none⟩ (.slice (some ⟨g, o, none⟩) 0 0) = W3 := ⟨_, rfl⟩
    obtain ⟨W4, hW4⟩ : ∃ W4, (W3.setCell ⟨w.heap.size, 0, none⟩ (.slice ca lc cc)).setCell ⟨w.heap.size, 1, none⟩ (.slice ia li ic) = W4 := ⟨_, rfl⟩
    obtain ⟨e1, e2, e3, e4, e5⟩ := KEY.out (some ⟨g, o, none⟩) (fun h => by omega) W3 hW3 W4 hW4
    have d0 := e1.cell 0
    have d1 := e1.cell 1
    have z0 := e2.cell 0
    have z1 := e2.cell 1
    have fz0 := e2.frozen 0
    have fz1 := e2.frozen 1
    have zz1 := (e2.set 0 (.slice ca lc cc)).cell 1
    have zf1 := (e2.set 0 (.slice ca lc cc)).frozen 1
    go_enter Tryd.func60, Tryd.ntmps60
    go_wp2_with fail
    refine ret_cellV2 3 4 68 rfl Tryd.isAgg68 2 SyC.szE w.heap.size _ _ rfl (.bool true) rfl rfl e3 rfl ?_
    exact ⟨rfl, ⟨_, e4⟩, e5⟩
  · have hc2 : 1 < c := by omega
    obtain ⟨W3, hW3⟩ : ∃ W3, W2.setCell ⟨lb, 0, none⟩ (.slice (some ⟨g, o + 3, none⟩) n (c - 1)) = W3 := ⟨_, rfl⟩
    obtain ⟨W4, hW4⟩ : ∃ W4, (W3.setCell ⟨w.heap.size, 0, none⟩ (.slice ca lc cc)).setCell ⟨w.heap.size, 1, none⟩ (.slice ia li ic) = W4 := ⟨_, rfl⟩
    obtain ⟨e1, e2, e3, e4, e5⟩ := KEY.out (some ⟨g, o + 3, none⟩) (fun _ => rfl) W3 hW3 W4 hW4
    have d0 := e1.cell 0
    have d1 := e1.cell 1
    have z0 := e2.cell 0
    have z1 := e2.cell 1
    have fz0 := e2.frozen 0
    have fz1 := e2.frozen 1
    have zz1 := (e2.set 0 (.slice ca lc cc)).cell 1
    have zf1 := (e2.set 0 (.slice ca lc cc)).frozen 1
    go_enter Tryd.func60, Tryd.ntmps60
    go_wp2_with fail
    refine ret_cellV2 3 4 68 rfl Tryd.isAgg68 2 SyC.szE w.heap.size _ _ rfl (.bool true) rfl rfl e3 rfl ?_
    exact ⟨rfl, ⟨_, e4, fun _ => rfl⟩, e5⟩
end Go.Proofs.YtamalmgfhpneaaaDoor.Ce
namespace Go.Proofs.YtamalmgfhpneaaaDoor.Ce
open Go.RowKit
open It Nr Sy
def ins (x : ByteArray × Int) : List (ByteArray × Int) → List (ByteArray × Int)
  | [] => [x]
  | y :: l => if ltF y x then y :: ins x l else x :: y :: l
theorem ins_perm (x : ByteArray × Int) : ∀ l, (ins x l).Perm (x :: l)
  | [] => List.Perm.refl _
  | y :: l => by
    unfold ins
    split
    · exact ((ins_perm x l).cons y).trans (List.Perm.swap x y l)
    · exact List.Perm.refl _
theorem ltF_asym {x y : ByteArray × Int} (h : ltF x y = true) : ltF y x = false := by
  cases h2 : ltF y x with
  | false => rfl
  | true => have := ltF_trans x y x h h2; rw [ltF_irrefl] at this; cases this
theorem ins_sorted (x : ByteArray × Int) : ∀ l : List (ByteArray × Int), (l.Pairwise fun x y => ltF y x = false) → (ins x l).Pairwise fun x y => ltF y x = false
  | [], _ => List.pairwise_singleton _ _
  | y :: l, h => by
    obtain ⟨h1, h2⟩ := List.pairwise_cons.1 h
    unfold ins
    split
    · rename_i hc
      refine List.pairwise_cons.2 ⟨fun z hz => ?_, ins_sorted x l h2⟩
      rcases List.mem_cons.1 ((ins_perm x l).mem_iff.1 hz) with rfl | hz
      · exact ltF_asym hc
      · exact h1 z hz
    · rename_i hc
      have hc' : ltF y x = false := by simpa using hc
      refine List.pairwise_cons.2 ⟨fun z hz => ?_, h⟩
      rcases List.mem_cons.1 hz with rfl | hz
      · exact hc'
      · exact ltF_ntrans z y x (h1 z hz) hc'
theorem sorted_eq {l l' : List (ByteArray × Int)} (h : l.Perm l') (h1 : l.Pairwise fun x y => ltF y x = false) (h2 : l'.Pairwise fun x y => ltF y x = false) : l = l' :=
  List.Perm.eq_of_pairwise (le := fun x y => ltF y x = false) (fun a b _ _ h1 h2 => (ltF_tot b a h1 h2).symm) h1 h2 h
theorem srt_cons (x : ByteArray × Int) (l : List (ByteArray × Int)) : srt (x :: l) = ins x (srt l) :=
  sorted_eq ((srt_perm _).trans (((srt_perm l).symm.cons x).trans (ins_perm x _).symm)) (srt_sorted _) (ins_sorted x _ (srt_sorted l))
theorem srt_id {l : List (ByteArray × Int)} (h : l.Pairwise fun x y => ltF y x = false) : srt l = l := sorted_eq (srt_perm l) (srt_sorted l) h
theorem take_ins (x : ByteArray × Int) : ∀ (l : List (ByteArray × Int)) (k : Nat), (ins x l).take k = (ins x (l.take k)).take k
  | [], k => by simp
  | y :: l, 0 => by simp
  | y :: l, k + 1 => by
    have ih := take_ins x l k
    rw [List.take_succ_cons]
    unfold ins
    split
    · rw [List.take_succ_cons, List.take_succ_cons, ih]
    · rw [List.take_succ_cons, List.take_succ_cons]
      congr 1
      cases k with
      | zero => simp
      | succ k => rw [List.take_succ_cons, List.take_succ_cons, List.take_take, Nat.min_eq_left (by omega)]
/-- The first k of what is sorted. -/
def tk (k : Nat) (l : List (ByteArray × Int)) : List (ByteArray × Int) := (srt l).take k
theorem tk_cons (k : Nat) (x : ByteArray × Int) (l : List (ByteArray × Int)) : tk k (x :: l) = (ins x (tk k l)).take k := by
  unfold tk; rw [srt_cons, take_ins]
theorem tk_sorted (k : Nat) (l : List (ByteArray × Int)) : (tk k l).Pairwise fun x y => ltF y x = false := List.Pairwise.sublist (List.take_sublist _ _) (srt_sorted l)
theorem tk_tk (k : Nat) (l : List (ByteArray × Int)) : tk k (tk k l) = tk k l := by
  have h := srt_id (tk_sorted k l)
  show (srt (tk k l)).take k = _
  rw [h]
  unfold tk
  rw [List.take_take, Nat.min_self]
theorem tk_right (k : Nat) (A : List (ByteArray × Int)) : ∀ B : List (ByteArray × Int), tk k (B ++ tk k A) = tk k (B ++ A)
  | [] => tk_tk k A
  | x :: B => by rw [List.cons_append, List.cons_append, tk_cons, tk_cons, tk_right k A B]
theorem tk_perm {k : Nat} {l l' : List (ByteArray × Int)} (h : l.Perm l') : tk k l = tk k l' := by unfold tk; rw [srt_of_perm h]
theorem tk_both (k : Nat) (A B : List (ByteArray × Int)) : tk k (tk k A ++ tk k B) = tk k (A ++ B) := by
  rw [tk_right, tk_perm List.perm_append_comm, tk_right, tk_perm List.perm_append_comm]
theorem tk_len (k : Nat) (l : List (ByteArray × Int)) : (tk k l).length = min k l.length := by unfold tk; rw [List.length_take, srt_len]
theorem ins_last (x : ByteArray × Int) : ∀ l : List (ByteArray × Int), (∀ y ∈ l, ltF y x = true) → ins x l = l ++ [x]
  | [], _ => rfl
  | y :: l, h => by
    unfold ins
    rw [if_pos (h y List.mem_cons_self), ins_last x l (fun z hz => h z (List.mem_cons_of_mem _ hz))]
    rfl
/-- What is farther than all that is told already changes nothing. -/
theorem tk_stop (k : Nat) (A : List (ByteArray × Int)) (hk : (tk k A).length = k) : ∀ B : List (ByteArray × Int), (∀ b ∈ B, ∀ x ∈ tk k A, ltF x b = true) → tk k (B ++ A) = tk k A
  | [], _ => rfl
  | b :: B, h => by
    rw [List.cons_append, tk_cons, tk_stop k A hk B (fun b' hb' => h b' (List.mem_cons_of_mem _ hb')), ins_last b _ (h b List.mem_cons_self), List.take_append_of_le_length (by omega), List.take_of_length_le (by omega)]
/-- The last one told is the farthest. -/
theorem tk_last (k : Nat) (A : List (ByteArray × Int)) (y : ByteArray × Int) (hy : (tk k A)[k - 1]? = some y) (hk : (tk k A).length = k) : ∀ x ∈ tk k A, x.2 ≤ y.2 := by
  intro x hx
  obtain ⟨i, hi⟩ := List.getElem?_of_mem hx
  have hil := (List.getElem?_eq_some_iff.1 hi).1
  by_cases e : i = k - 1
  · subst e; rw [hy] at hi; obtain rfl := Option.some.inj hi; omega
  · have hs := tk_sorted k A
    rw [List.pairwise_iff_getElem] at hs
    have h := hs i (k - 1) hil (by omega) (by omega)
    rw [List.getElem?_eq_getElem hil] at hi
    rw [List.getElem?_eq_getElem (by omega)] at hy
    rw [Option.some.inj hi, Option.some.inj hy] at h
    have n : ¬ ltF y x = true := by rw [h]; decide
    rw [ltF_iff] at n
    have : ¬ y.2 < x.2 := fun h => n (Or.inl h)
    omega
theorem sq_le {a b : Int} (h0 : 0 ≤ a) (h : a ≤ b) : a * a ≤ b * b := Int.mul_le_mul h h h0 (by omega)
theorem plF_le {c n y : Int} (h1 : c ≤ n) (h2 : n < c + 250) : (plF c y - y) * (plF c y - y) ≤ (n - y) * (n - y) := by
  unfold plF
  by_cases h3 : y ≤ c
  · rw [show min (max y c) (c + 249) = c from by omega]
    exact sq_le (by omega) (by omega)
  · by_cases h4 : y ≤ c + 249
    · rw [show min (max y c) (c + 249) = y from by omega, Int.sub_self]
      rw [Int.mul_zero]
      rcases Int.le_total 0 (n - y) with h | h
      · exact Int.mul_nonneg h h
      · have := Int.mul_nonneg (show 0 ≤ -(n - y) by omega) (show 0 ≤ -(n - y) by omega)
        rwa [Int.neg_mul_neg] at this
    · rw [show min (max y c) (c + 249) = c + 249 from by omega]
      have h := sq_le (a := y - (c + 249)) (b := y - n) (by omega) (by omega)
      rw [show y - (c + 249) = -(c + 249 - y) from by omega, show y - n = -(n - y) from by omega, Int.neg_mul_neg, Int.neg_mul_neg] at h
      exact h
theorem farK_le {zs co ys : List Int} (h : zs.map begF = co) : ∀ k, k ≤ zs.length → k ≤ ys.length → farK (placeL co ys) ys k ≤ farK zs ys k
  | 0, _, _ => by unfold farK; simp
  | k + 1, h1, h2 => by
    have ih := farK_le (ys := ys) h k (by omega) (by omega)
    obtain ⟨z, hz⟩ : ∃ z, zs[k]? = some z := ⟨_, List.getElem?_eq_getElem (by omega)⟩
    obtain ⟨y, hy⟩ : ∃ y, ys[k]? = some y := ⟨_, List.getElem?_eq_getElem (by omega)⟩
    have hc : co[k]? = some (begF z) := by rw [← h, List.getElem?_map, hz]; rfl
    rw [farK_succ hz hy, farK_succ (placeL_get co ys k _ y hc hy) hy]
    have := plF_le (y := y) (begF_le z).1 (begF_le z).2
    omega
theorem least_le {zs co ys : List Int} (h : zs.map begF = co) : leastI co ys ≤ farI zs ys := by
  unfold leastI farI
  rw [placeL_len, ← h, List.length_map]
  exact farK_le rfl _ (by omega) (by omega)
end Go.Proofs.YtamalmgfhpneaaaDoor.Ce
