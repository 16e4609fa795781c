/-
  Part of the proof: items whose numbers lie in blocks of their own; what is told of moved items.
  Part of the proof: NearMoved is walked.
  Part of the proof: what a row's condition says of slices of ints and of items.
-/
import Derived.Test.YtlhggfmcjmhipaaB08
import Derived.Deep.CutRange
import Derived.Deep.RegionWith
import Derived.Test.YtlhggfmcjmhipaaB07
import Derived.Test.YtlhggfmcjmhipaaRows
import Derived.ProofKit
import Derived.OpenShut
import Derived.MakeChecks
import Derived.Lib.SmallJoins
import Derived.Deep.Strs
namespace Go.Proofs.Ytlhggfmcjmhipaa.Nr
open Go.RowKit
open It
/-- Items whose numbers lie in blocks that are not the row's own. -/
def MOk (w : World) (v : Value) (M : List ItD) : Prop := ∀ d ∈ M, d.Ok w ∧ ∃ b o, d.a = some ⟨b, o, none⟩ ∧ b < w.heap.size ∧ v.ownBlock ≠ some b
theorem MOk.below {w w' : World} {v : Value} {M : List ItD} (h : MOk w v M) (hb : Below w.heap.size w w') : MOk w' v M := fun d hd => by
  obtain ⟨h1, b, o, h2, h3, h4⟩ := h d hd
  exact ⟨h1.below hb, b, o, h2, Nat.lt_of_lt_of_le h3 hb.size, h4⟩
theorem ok_grown {w w' : World} {v : Value} {d : ItD} (h : d.Ok w) (hg : w.grownBy w' v.ownBlock) (hne : ∀ b o, d.a = some ⟨b, o, none⟩ → v.ownBlock ≠ some b) : d.Ok w' := by
  refine ⟨fun i z hz => ?_, h.2⟩
  obtain ⟨g, o, h1, h2⟩ := h.1 i z hz
  exact ⟨g, o, h1, hg.cell h2 (fun e => hne g o h1 e.symm)⟩
theorem MOk.one {w w' : World} {v : Value} {d : ItD} {g n cap b o : Nat} (hg : w.grownBy w' v.ownBlock) (hat : v.ownBlock = some g ∨ g = w.heap.size) (hd : d.Ok w) (hda : d.a = some ⟨b, o, none⟩) (hb : b < w.heap.size) (hne : v.ownBlock ≠ some b) :
    d.Ok w' ∧ ∃ b o, d.a = some ⟨b, o, none⟩ ∧ b < w'.heap.size ∧ (Value.slice (some ⟨g, 0, none⟩) n cap).ownBlock ≠ some b := by
  refine ⟨ok_grown hd hg (fun b' o' e => ?_), b, o, hda, Nat.lt_of_lt_of_le hb hg.size, ?_⟩
  · rw [hda] at e; injection e with e; injection e with e1; subst e1; exact hne
  · show some g ≠ some b
    intro e
    injection e with e
    subst e
    rcases hat with e | e
    · exact hne e
    · omega
theorem MOk.push {w w' : World} {v : Value} {M : List ItD} {d : ItD} {g n cap b o : Nat} (h : MOk w v M) (hg : w.grownBy w' v.ownBlock) (hat : v.ownBlock = some g ∨ g = w.heap.size) (hd : d.Ok w) (hda : d.a = some ⟨b, o, none⟩) (hb : b < w.heap.size) (hne : v.ownBlock ≠ some b) :
    MOk w' (.slice (some ⟨g, 0, none⟩) n cap) (M ++ [d]) := by
  intro x hx
  rcases List.mem_append.1 hx with hx | hx
  · obtain ⟨h1, b', o', h2, h3, h4⟩ := h x hx
    exact MOk.one hg hat h1 h2 h3 h4
  · obtain rfl := List.mem_singleton.1 hx
    exact MOk.one hg hat hd hda hb hne
theorem ins_two {zs : List Int} (h : insB zs = true) : ∃ z0 z1, zs = [z0, z1] ∧ -900 ≤ z0 ∧ z0 ≤ 900 ∧ -900 ≤ z1 ∧ z1 ≤ 900 := by
  unfold insB at h
  rw [Bool.and_eq_true, decide_eq_true_eq] at h
  match zs, h with
  | [a, b], h =>
    have h2 := h.2
    simp [midB] at h2
    exact ⟨a, b, rfl, by omega, by omega, by omega, by omega⟩
theorem ins_num {zs : List Int} (h : insB zs = true) : zs.all numB = true ∧ zs.length = 2 := by
  obtain ⟨a, b, rfl, _, _, _, _⟩ := ins_two h
  refine ⟨?_, rfl⟩
  simp [numB]
  omega
theorem map_step {p q : Int} {xs : List Itm} {j : Nat} {x : Itm} (h : xs[j]? = some x) : (xs.take (j + 1)).map (mvI p q) = (xs.take j).map (mvI p q) ++ [mvI p q x] := by
  rw [List.take_add_one, h, List.map_append]; rfl
theorem ask_of {zs : List Int} {k : Int} (h : zs.all numB = true ∧ zs.length = 2) (h1 : 1 ≤ k) (h2 : k ≤ 60) : askB 2 zs k = true := by
  unfold askB
  rw [h.1, h.2, decide_eq_true h1, decide_eq_true h2]
  rfl
theorem moved_at (a : Option Addr) (c : Nat) (zs : List Int) (p q : Int) (w : World) (bb bt : Nat) (h : Ints w a zs) (hb : w.cell? ⟨bb, 0, none⟩ = some (.int .i64 p)) (ht : w.cell? ⟨bt, 0, none⟩ = some (.int .i64 q)) (hz : insB zs = true) (hp : -50 ≤ p ∧ p ≤ 50) (hq : -50 ≤ q ∧ q ≤ 50) :
    Calls Try.prog 17 #[.slice a zs.length c, .pointer (some ⟨bb, 0, none⟩), .pointer (some ⟨bt, 0, none⟩)] w fun e w' => (∃ g, e = .returned (.slice (some ⟨g, 0, none⟩) 2 2) ∧ w.heap.size ≤ g ∧ g < w'.heap.size ∧ Ints w' (some ⟨g, 0, none⟩) (mvL p q zs)) ∧ Below w.heap.size w w' := by
  obtain ⟨z0, z1, rfl, h1, h2, h3, h4⟩ := ins_two hz
  refine (moved_any a c z0 z1 p q w bb bt h hb ht (by omega) (by omega) (by omega) (by omega) hp.1 hp.2 hq.1 hq.2).mono ?_
  rintro e w' ⟨⟨g, he, hg, hi⟩, hw⟩
  refine ⟨⟨g, he, hg, ?_, hi⟩, hw⟩
  obtain ⟨g', o', e', hc⟩ := hi 0 _ rfl
  injection e' with e'
  injection e' with e1 e2
  rw [e1]
  exact World.block_lt_of_cell? w' _ hc
end Go.Proofs.Ytlhggfmcjmhipaa.Nr
namespace Go.Proofs.Ytlhggfmcjmhipaa.Nr
open Go.RowKit
open It
theorem Ints.upto {w w' : World} {B : Nat} {p q : Int} {a : Option Addr} {zs : List Int} (T : Two w w' B p q) (h : Ints w a zs) (hlow : ∀ b o, a = some ⟨b, o, none⟩ → zs ≠ [] → b < B) : Ints w' a zs := by
  intro i z hz
  obtain ⟨b, o, rfl, hc⟩ := h i z hz
  have hb := hlow b o rfl (by rintro rfl; simp at hz)
  exact ⟨b, o, rfl, (World.cell?_of_block (T.block b (by omega) (by omega))).trans hc⟩
theorem ownsRow_two {w w' : World} {B C : Nat} {p q : Int} {e : TypeId} {z : Nat} {v : Value} {n : Nat} {xs : List Value} (T : Two w w' B p q) (h : w.ownsRow C e z v n xs) (hC : B + 1 < C) : w'.ownsRow C e z v n xs := by
  obtain ⟨h1, ⟨h2, h3⟩ | ⟨g, cap, cur, hv, hgB, hh, r⟩⟩ := h
  · exact ⟨h1, Or.inl ⟨h2, h3⟩⟩
  · exact ⟨h1, Or.inr ⟨g, cap, cur, hv, hgB, (T.block g (by omega) (by omega)).trans hh, r⟩⟩
/-- A function's value is stored into a new cell. -/
theorem func_put (w : World) (T : TypeId) (f : FuncId) : ∃ W, (store ⟨w.heap.size, 0, none⟩ (.func (.func f) #[] #[])).run Try.prog (w.alloc (.cells #[.nilFunc] T)) = .ok () W ∧ Blk W w.heap.size #[.func (.func f) #[] #[]] T ∧ Below w.heap.size w W := by
  have hb := Blk.new w #[.nilFunc] T
  refine ⟨(w.alloc (.cells #[.nilFunc] T)).setCell ⟨w.heap.size, 0, none⟩ (.func (.func f) #[] #[]), ?_, hb.set 0 _, below_upd (below_alloc w _) (setCell_upd _ _ _ _) (Nat.le_refl _)⟩
  rw [run_store _ _ _ _ _ rfl, hb.cell]
  simp [hb.frozen]
set_option maxRecDepth 100000 in
set_option maxHeartbeats 4000000 in
theorem moved_main (a : Option Addr) (c : Nat) (ds : List ItD) (b : Option Addr) (d : Nat) (ys : List Int) (k p0 q0 : Int) (w : World) (h : Its w a ds) (hl : ds.length ≤ 65) (hheld : heldB (xsOf ds) = true) (hy : Ints w b ys) (hyl : ys.length ≤ 12) :
    Calls Try.prog 4 #[.slice a ds.length c, .slice b ys.length d, .int .i64 k, .int .i64 p0, .int .i64 q0] w fun e w' => e = .returned (.bool true) ∧ Below w.heap.size w w' := by
  have hyl' : ¬ (12 : Int) < (ys.length : Int) := by omega
  have hym : ys.length ≤ maxLen := by unfold maxLen; omega
  have hlm : ds.length ≤ maxLen := by unfold maxLen; omega
  have g0 : Below w.heap.size w ((w.alloc (.cells #[.int .i64 p0] 3)).alloc (.cells #[.int .i64 q0] 3)) := (below_alloc w _).trans ((below_alloc _ _).mono (by simp))
  have m0 : Blk ((w.alloc (.cells #[.int .i64 p0] 3)).alloc (.cells #[.int .i64 q0] 3)) w.heap.size #[.int .i64 p0] 3 := (Blk.new w _ _).alloc _
  have m1 : Blk ((w.alloc (.cells #[.int .i64 p0] 3)).alloc (.cells #[.int .i64 q0] 3)) (w.heap.size + 1) #[.int .i64 q0] 3 := Blk.new' _ _ _ (by simp)
  have h0 := h.below g0
  have HH : Hid _ := held_any a c ds _ h0 hlm
  go_enter Try.func4, Try.ntmps4
  go_wp2_with fail
  refine Calls.mono HH.out ?_
  rintro e w1 ⟨rfl, g1⟩
  rw [hheld]
  have b1 := g0.trans (g1.mono g0.size)
  have m0' := m0.below g1 m0.lt
  have m1' := m1.below g1 m1.lt
  clear m0 m1 g1 HH h0 g0
  go_wp2_with fail
  refine (found_any w1).mono ?_
  rintro e w2 ⟨rfl, g2⟩
  have b2 := b1.trans (g2.mono b1.size)
  have m0 := m0'.below g2 m0'.lt
  have m1 := m1'.below g2 m1'.lt
  clear m0' m1' g2 b1
  go_wp2_with fail
  refine (kright_any a c ds w2 (h.below b2) hl).mono ?_
  rintro e w3 ⟨⟨v, rfl, ow, hnil⟩, g3⟩
  have b3 := b2.trans (g3.mono b2.size)
  have m0' := m0.below g3 m0.lt
  have m1' := m1.below g3 m1.lt
  have hwl : w.heap.size + 1 < w2.heap.size := m1.lt
  have hw23 : w2.heap.size ≤ w3.heap.size := g3.size
  have hok : ∀ x ∈ rgt ds, x.Ok w3 := fun x hx => by
    obtain ⟨i, hi⟩ := List.getElem?_of_mem (rgt_mem hx).1
    obtain ⟨_, _, _, _, _, _, q⟩ := (h.below b3) i x hi
    exact q
  have hlow : ∀ x ∈ rgt ds, ∀ b' o', x.a = some ⟨b', o', none⟩ → x.x.nums ≠ [] → b' < w.heap.size := fun x hx b' o' e hn => by
    obtain ⟨i, hi⟩ := List.getElem?_of_mem (rgt_mem hx).1
    obtain ⟨_, _, _, _, _, _, q⟩ := h i x hi
    cases hnn : x.x.nums with
    | nil => exact absurd hnn hn
    | cons z r =>
      obtain ⟨g, o, e', hc⟩ := q.1 0 z (by rw [hnn]; rfl)
      rw [e] at e'
      injection e' with e'
      injection e' with e1 e2
      rw [e1]
      exact World.block_lt_of_cell? w _ hc
  clear m0 m1 g3
  have c0 : w3.cell? ⟨w.heap.size, 0, none⟩ = some (.int .i64 p0) := m0'.cell 0
  have c1 : w3.cell? ⟨w.heap.size + 1, 0, none⟩ = some (.int .i64 q0) := m1'.cell 0
  go_wp2_with fail
  go_cut [37] from 35 to 40 (fun s37 wx => ∃ p q : Int, s37 = .int .i64 p ∧ Hid ((-50 ≤ p ∧ p ≤ 50) ∧ (-50 ≤ q ∧ q ≤ 50) ∧ Two w3 wx w.heap.size p q))
  case first =>
    have f0 : w3.frozen? ⟨w.heap.size, 0, none⟩ = false := m0'.frozen 0
    have f1 : w3.frozen? ⟨w.heap.size + 1, 0, none⟩ = false := m1'.frozen 0
    go_region_with (go_at_call 13; refine (pick_any _ 101 _ (by decide) (by decide)).mono ?_; rintro e w' ⟨j, rfl, hj, rfl⟩; have hw : IntKind.i64.wrap ((j : Int) - 50) = (j : Int) - 50 := (by rw [IntKind.wrap_i64]; omega))
    all_goals go_wp2_with fail
    all_goals go_meet
    all_goals exact ⟨_, _, rfl, ⟨by omega, by omega⟩, ⟨by omega, by omega⟩, two_set m0' m1' _ _⟩
  case rest =>
    obtain ⟨p, q, rfl, HPQ⟩ := hcut
    obtain ⟨hp, hq, T⟩ := HPQ.out
    have o0 := T.one
    have o1 := T.two
    have hsz : w3.heap.size ≤ wc.heap.size := Nat.le_of_eq T.size.symm
    have hws : w2.heap.size ≤ w3.heap.size := hw23
    have hokc : ∀ x ∈ rgt ds, x.Ok wc := fun x hx => ⟨Ints.upto T (hok x hx).1 (fun b' o' e hn => hlow x hx b' o' e hn), (hok x hx).2⟩
    have hIc : Ints wc b ys := Ints.upto T (hy.below b3) (fun b' o' e hn => by
      cases hnn : ys with
      | nil => exact absurd hnn hn
      | cons z r =>
        obtain ⟨g, o, e', hc⟩ := hy 0 z (by rw [hnn]; rfl)
        rw [e] at e'
        injection e' with e'
        injection e' with e1 e2
        rw [e1]
        exact World.block_lt_of_cell? w _ hc)
    have owc := ownsRow_two T ow hwl
    obtain ⟨W4, hst, hfB, ba⟩ := func_put wc 47 18
    have HD : Hid _ := del_row w2.heap.size v (rgt ds) W4 wc.heap.size (ownsRow_below owc ba) hnil (by have := ba.size; omega) (hfB.cell 0)
      (fun a' n' c' e => by
        subst e
        obtain ⟨_, ⟨e1, _⟩ | ⟨g', cap', cur', hv, hgB', hh, _⟩⟩ := owc
        · injection e1 with e1; cases e1
        · injection hv with hv; injection hv with hv
          have := Array.getElem?_eq_some_iff.1 hh
          rw [hv]; exact (Nat.ne_of_lt this.1).symm)
      (fun x hx => (hokc x hx).below ba) (fun x hx b' o' e hn => by have := hlow x hx b' o' e hn; omega) (Nat.le_trans (rgt_len ds) hl)
    have HK0 : ∀ x ∈ (rgt ds).filter inF, insB x.x.nums = true := fun x hx => (List.mem_filter.1 hx).2
    have HL0 : ((rgt ds).filter inF).length ≤ 65 := Nat.le_trans (List.length_filter_le _ _) (Nat.le_trans (rgt_len ds) hl)
    obtain ⟨L, hL⟩ : ∃ L, (rgt ds).filter inF = L := ⟨_, rfl⟩
    rw [hL] at HK0 HL0 HD
    have HK : Hid (∀ x ∈ L, insB x.x.nums = true) := HK0
    clear hL HK0
    go_wp2_with fail
    refine Calls.mono HD.out ?_
    rintro e w5 ⟨⟨a', c', rfl, hI5⟩, g, hu, hgB, hgb⟩
    have hW4 : wc.heap.size < W4.heap.size := hfB.lt
    have f5 : w5.cell? ⟨wc.heap.size, 0, none⟩ = some (.func (.func 18) #[] #[]) := Blk.cell (Blk.updG hfB hu (by omega)) 0
    have hy5 : Ints w5 b ys := Ints.updG (hIc.below ba) hu (fun b' o' e hn => by
      cases hnn : ys with
      | nil => exact absurd hnn hn
      | cons z r =>
        obtain ⟨g', o, e', hc⟩ := hy 0 z (by rw [hnn]; rfl)
        rw [e] at e'
        injection e' with e'
        injection e' with e1 e2
        have := World.block_lt_of_cell? w _ hc
        rw [e1]
        have : g' < w.heap.size := this
        omega)
    have p5 := Blk.updG (o0.below ba o0.lt) hu (by omega)
    have q5 := Blk.updG (o1.below ba o1.lt) hu (by omega)
    have b5 : Below w.heap.size w w5 := by
      have t : Below w.heap.size w3 wc := ⟨T.os, T.tape, T.output, Nat.le_of_eq T.size.symm, fun b hb => T.block b (by omega) (by omega)⟩
      exact hu.below ((b3.trans t).trans (ba.mono (by omega))) (by omega) (by omega)
    clear HD hst ba owc o0 o1 T HPQ hfB ow hIc hokc hok
    go_wp2_with fail
    refine (inside_any b d ys w5 hy5 hym).mono ?_
    rintro e w6 ⟨rfl, hw6⟩
    obtain rfl : w5 = w6 := hw6.symm
    cases hin : insB ys with
    | false =>
      go_wp2_with fail
      go_ret
      exact ⟨rfl, b5⟩
    | true =>
      by_cases k1 : k < 1
      · go_wp2_with fail
        go_ret
        exact ⟨rfl, b5⟩
      by_cases k2 : 60 < k
      · go_wp2_with fail
        go_ret
        exact ⟨rfl, b5⟩
      have hnB : ys.all numB = true ∧ ys.length = 2 := ins_num hin
      have HAK : Hid (askB 2 ys k = true) := ask_of hnB (by omega) (by omega)
      have HAM : Hid (askB 2 (mvL p q ys) k = true) := ask_of (mv_num hp hq hin) (by omega) (by omega)
      have HIN : Hid (insB ys = true) := hin
      have HY2 : Hid (ys.length = 2) := hnB.2
      clear hnB hin
      go_wp2_with fail
      go_loopw [13, 14, 15] (fun v i _ wr => ∃ (j : Nat) (M : List ItD), j ≤ L.length ∧ i = .int .i64 j ∧ wr.ownsRow w5.heap.size 37 3 v M.length (flatI M) ∧ Hid (M.map ItD.x = ((xsOf L).take j).map (mvI p q)) ∧ Hid (MOk wr v M) ∧ Below w5.heap.size w5 wr) (fun _ i _ _ => L.length - (intOf i).toNat)
      case atStart => exact ⟨0, [], by omega, rfl, ⟨rfl, Or.inl ⟨rfl, rfl⟩⟩, rfl, fun d hd => (by cases hd), Below.refl _ _⟩
      case round =>
        obtain ⟨j, M, hj, rfl, ow, HM, HMO, br⟩ := hrel
        have hMl : M.length ≤ 65 := by
          have h0 := congrArg List.length HM.out
          rw [List.length_map, List.length_map, List.length_take] at h0
          omega
        obtain ⟨am, cm, hv, hItsM⟩ := its_own ow (fun d hd => (HMO.out d hd).1)
        subst hv
        by_cases hlt : j < L.length
        · have hlt' : (j : Int) < (L.length : Int) := by omega
          have hr := hI5.below br
          have hdj : L[j]? = some L[j] := List.getElem?_eq_getElem hlt
          obtain ⟨g, o, rfl, q1, q2, q3, q4⟩ := hr j L[j] hdj
          have HZ : Hid (insB L[j].x.nums = true) := HK.out _ (List.mem_of_getElem? hdj)
          have HST : Hid (((xsOf L).take (j + 1)).map (mvI p q) = ((xsOf L).take j).map (mvI p q) ++ [mvI p q L[j].x]) := map_step (by unfold xsOf; rw [List.getElem?_map, hdj]; rfl)
          generalize L[j] = x at *
          obtain ⟨⟨nm, tg, zs⟩, xa, xc⟩ := x
          simp only [ItD.val] at q1 q2 q3
          have s1 := below_alloc wr (.cells #[.string nm, .string tg, .slice xa zs.length xc] 37)
          have jb : Blk (wr.alloc (.cells #[.string nm, .string tg, .slice xa zs.length xc] 37)) wr.heap.size #[.string nm, .string tg, .slice xa zs.length xc] 37 := Blk.new wr _ _
          have hzi : Ints (wr.alloc (.cells #[.string nm, .string tg, .slice xa zs.length xc] 37)) xa zs := Ints.below q4.1 s1
          have pr := p5.below br p5.lt
          have qr := q5.below br q5.lt
          have HMV : Hid _ := moved_at xa xc zs p q _ w.heap.size (w.heap.size + 1) hzi ((pr.below s1 pr.lt).cell 0) ((qr.below s1 qr.lt).cell 0) HZ.out hp hq
          have hsz : (wr.alloc (.cells #[.string nm, .string tg, .slice xa zs.length xc] 37)).heap.size = wr.heap.size + 1 := by simp
          have HSZ : Hid _ := hsz
          clear hr hdj hzi pr qr hsz
          go_wp2_with fail
          refine Calls.mono HMV.out ?_
          rintro e w6 ⟨⟨g', rfl, hg1, hg2, hi6⟩, b6⟩
          rw [HSZ.out] at hg1 b6
          have s6 : Below wr.heap.size wr w6 := s1.trans (b6.mono (by omega))
          have jb6 := jb.below b6 (by omega)
          have jb7 : Blk (w6.setCell ⟨wr.heap.size, 2, none⟩ (.slice (some ⟨g', 0, none⟩) 2 2)) wr.heap.size #[.string nm, .string tg, .slice (some ⟨g', 0, none⟩) 2 2] 37 := jb6.set 2 _
          have u7 := setCell_upd w6 wr.heap.size 2 (.slice (some ⟨g', 0, none⟩) 2 2)
          have s7 := below_upd s6 u7 (Nat.le_refl _)
          have hi7 : Ints (w6.setCell ⟨wr.heap.size, 2, none⟩ (.slice (some ⟨g', 0, none⟩) 2 2)) (some ⟨g', 0, none⟩) (mvL p q zs) := fun i z hz => by
            obtain ⟨g2, o2, e2, hc2⟩ := hi6 i z hz
            injection e2 with e2
            injection e2 with e21 e22
            subst e21 e22
            exact ⟨g', 0, rfl, (World.cell?_of_block (u7.block g' (by omega))).trans hc2⟩
          have c2 := jb6.cell 2
          have f2 : w6.frozen? ⟨wr.heap.size, 2, none⟩ = false := jb6.frozen 2
          have d0 := jb7.cell 0
          have d1 := jb7.cell 1
          have d2 := jb7.cell 2
          have ow7 := ownsRow_below ow s7
          have b7 := br.trans (s7.mono br.size)
          have HMO7 : Hid _ := MOk.below HMO.out s7
          have HZ7 : Hid ((w6.setCell ⟨wr.heap.size, 2, none⟩ (.slice (some ⟨g', 0, none⟩) 2 2)).heap.size = w6.heap.size) := u7.size
          have hne : (Value.slice am M.length cm).ownBlock ≠ some g' := fun e => by have := (row_ownLt ow g' e).2; omega
          have a8 := below_alloc (w6.setCell ⟨wr.heap.size, 2, none⟩ (.slice (some ⟨g', 0, none⟩) 2 2)) (.cells #[.string nm, .string tg, .slice (some ⟨g', 0, none⟩) 2 2] 37)
          have ow8 := ownsRow_below ow7 a8
          have b8 := b7.trans (a8.mono b7.size)
          have hz8 := b8.size
          have HMO8 : Hid _ := MOk.below HMO7.out a8
          have HD8 : Hid (ItD.Ok ((w6.setCell ⟨wr.heap.size, 2, none⟩ (.slice (some ⟨g', 0, none⟩) 2 2)).alloc (.cells #[.string nm, .string tg, .slice (some ⟨g', 0, none⟩) 2 2] 37)) ⟨mvI p q ⟨nm, tg, zs⟩, some ⟨g', 0, none⟩, 2⟩) := ⟨Ints.below hi7 a8, by show 2 ≤ maxLen; unfold maxLen; omega, q4.2.2.1, q4.2.2.2.1, Nat.le_refl 2⟩
          have HLT : Hid (g' < ((w6.setCell ⟨wr.heap.size, 2, none⟩ (.slice (some ⟨g', 0, none⟩) 2 2)).alloc (.cells #[.string nm, .string tg, .slice (some ⟨g', 0, none⟩) 2 2] 37)).heap.size) := Nat.lt_of_lt_of_le (by rw [HZ7.out]; exact hg2) a8.size
          have HNE : Hid _ := hne
          clear hne hi6 hi7 q4 HMV u7 jb6 hItsM
          go_wp2_with (first
            | (refine wpl_pushZ rfl _ _ 22 rfl w5.heap.size 37 (.agg #[.string ByteArray.empty, .string ByteArray.empty, .slice none 0 0]) 3 56 Try.underlying22 infoIt rfl (by decide) (.slice am M.length cm) M.length (flatI M) rfl ow8 w6.heap.size 1 [.string nm, .string tg, .slice (some ⟨g', 0, none⟩) 2 2] rfl 37 (Blk.new' (w6.setCell ⟨wr.heap.size, 2, none⟩ (.slice (some ⟨g', 0, none⟩) 2 2)) _ _ HZ7.out.symm) rfl (fun u hu => by simp at hu; rcases hu with rfl | rfl | rfl <;> rfl) (by omega) (by decide) hz8 ?_; intro g9 c9 w9 ow9 gr9 hat9 hlt9)
            | fail)
          refine ⟨⟨j + 1, M ++ [⟨mvI p q ⟨nm, tg, zs⟩, some ⟨g', 0, none⟩, 2⟩], by omega, by go_num, ?_, ?_, ?_, row_grownBelow b8 ow8 gr9 b8.size⟩, by simp [intOf]; omega⟩
          · rw [flatI_snoc, List.length_append]; exact ow9
          · unfold Hid; rw [List.map_append, HM.out]; exact HST.out.symm
          · exact MOk.push HMO8.out gr9 hat9 HD8.out rfl HLT.out HNE.out
        · have hj' : j = L.length := by omega
          subst hj'
          have HM2 : Hid (xsOf M = (xsOf L).map (mvI p q)) := by
            have h0 := HM.out
            rw [List.take_of_length_le (by simp [xsOf])] at h0
            exact h0
          have hyr := hy5.below br
          have hIr := hI5.below br
          have pr := p5.below br p5.lt
          have qr := q5.below br q5.lt
          have hbw := b5.trans (br.mono b5.size)
          have HNL : Hid (∀ x ∈ L, x.x.nums.all numB = true ∧ x.x.nums.length ≤ 100) := fun x hx => ⟨(ins_num (HK.out x hx)).1, by rw [(ins_num (HK.out x hx)).2]; omega⟩
          have HT1 : Hid _ := top_ok 2 a' c' L b d ys k ⟨#[]⟩ wr hIr (by omega) hyr hym HAK.out HNL.out
          clear hlt hj HM HMO ow p5 q5 hy5 hI5
          go_wp2_with fail
          refine Calls.mono HT1.out ?_
          rintro e w6 ⟨⟨v1, rfl, hF1⟩, g6⟩
          have HF1 : Hid (Fnds w6 v1 ((srt (fnd ys ⟨#[]⟩ (xsOf L))).take k.toNat)) := hF1
          have pr6 := pr.below g6 pr.lt
          have qr6 := qr.below g6 qr.lt
          have hI6 := hIr.below g6
          have b6 := hbw.trans (g6.mono hbw.size)
          have HMV : Hid _ := moved_at b d ys p q w6 w.heap.size (w.heap.size + 1) (hyr.below g6) (pr6.cell 0) (qr6.cell 0) HIN.out hp hq
          have hM6 := hItsM.below g6
          clear HT1 hF1 pr qr hIr hItsM hyr
          go_wp2_with fail
          refine Calls.mono HMV.out ?_
          rintro e w7 ⟨⟨g', rfl, hg1, hg2, hi7⟩, g7⟩
          have hM7 := hM6.below g7
          have hI7 := hI6.below g7
          have b7 := b6.trans (g7.mono b6.size)
          have HF1' : Hid (Fnds w7 v1 ((srt (fnd ys ⟨#[]⟩ (xsOf L))).take k.toNat)) := Fnds.below HF1.out g7
          have HNM : Hid (∀ x ∈ M, x.x.nums.all numB = true ∧ x.x.nums.length ≤ 100) := fun x hx => by
            have h0 : x.x ∈ xsOf M := List.mem_map.2 ⟨x, hx, rfl⟩
            rw [HM2.out] at h0
            obtain ⟨y, hy, e⟩ := List.mem_map.1 h0
            obtain ⟨z, hz, rfl⟩ := List.mem_map.1 hy
            have h1 := mv_num hp hq (HK.out z hz)
            rw [← e]
            exact ⟨h1.1, by show 2 ≤ 100; omega⟩
          have HT2 : Hid _ := top_ok 2 am cm M (some ⟨g', 0, none⟩) 2 (mvL p q ys) k ⟨#[]⟩ w7 hM7 (by omega) hi7 (by show 2 ≤ maxLen; unfold maxLen; omega) HAM.out HNM.out
          clear HMV HF1 hM6 hI6 hi7 hM7 pr6 qr6
          go_wp2_with fail
          refine Calls.mono HT2.out ?_
          rintro e w8 ⟨⟨v2, rfl, hF2⟩, g8⟩
          rw [HM2.out, fnd_moved p q HY2.out (fun x hx => by
            obtain ⟨z, hz, rfl⟩ := List.mem_map.1 hx
            exact (ins_num (HK.out z hz)).2)] at hF2
          have hX : ((srt (fnd ys ⟨#[]⟩ (xsOf L))).take k.toNat).length ≤ 1000 := by
            have h1 := fnd_len ys ⟨#[]⟩ (xsOf L)
            have h2 : (xsOf L).length = L.length := by simp [xsOf]
            have h3 := (srt_perm (fnd ys ⟨#[]⟩ (xsOf L))).length_eq
            rw [List.length_take]
            omega
          have HE : Hid _ := feq_any v1 v2 _ w8 (Fnds.below HF1'.out g8) hF2 hX
          have hI8 := hI7.below g8
          have b8 := b7.trans (g8.mono b7.size)
          clear HT2 hF2 hX hI7 HF1'
          go_wp2_with fail
          refine Calls.mono HE.out ?_
          rintro e w9 ⟨rfl, n9, h9⟩
          have g9 : Below w8.heap.size w8 w9 := by rw [h9]; exact below_drewN (Below.refl _ _) n9
          have hI9 := hI8.below g9
          have b9 := b8.trans (g9.mono b8.size)
          clear h9 HE hI8
          go_wp2_with fail
          go_loopw [20, 21, 22] (fun i _ _ wr => ∃ j : Nat, j ≤ L.length ∧ i = .int .i64 j ∧ Below w9.heap.size w9 wr) (fun i _ _ _ => L.length - (intOf i).toNat)
          case atStart => exact ⟨0, by omega, rfl, Below.refl _ _⟩
          case round =>
            clear br
            obtain ⟨j, hj, rfl, br⟩ := hrel
            by_cases hlt : j < L.length
            · have hlt' : (j : Int) < (L.length : Int) := by omega
              have hr := hI9.below br
              have hdj : L[j]? = some L[j] := List.getElem?_eq_getElem hlt
              obtain ⟨g, o, rfl, q1, q2, q3, q4⟩ := hr j L[j] hdj
              have HZ : Hid (insB L[j].x.nums = true) := HK.out _ (List.mem_of_getElem? hdj)
              have HS : Hid (∃ n, (srt (fnd L[j].x.nums ⟨#[]⟩ (xsOf L))).take 1 = [(n, 0)]) := near_self (List.mem_map.2 ⟨L[j], List.mem_of_getElem? hdj, rfl⟩) (fun y hy => by
                obtain ⟨z, hz, rfl⟩ := List.mem_map.1 hy
                exact (ins_num (HK.out z hz)).2)
              generalize L[j] = x at *
              obtain ⟨⟨nm, tg, zs⟩, xa, xc⟩ := x
              simp only [ItD.val] at q1 q2 q3
              have HT : Hid _ := top_ok 2 (some ⟨g, o, none⟩) c' L xa xc zs 1 ⟨#[]⟩ wr hr (by omega) q4.1 q4.2.1 (ask_of (ins_num HZ.out) (by omega) (by omega)) HNL.out
              clear hr hdj q4
              go_wp2_with fail
              refine Calls.mono HT.out ?_
              rintro e w10 ⟨⟨v, rfl, hF⟩, g10⟩
              obtain ⟨nn, hn⟩ := HS.out
              replace hn : (srt (fnd zs ⟨#[]⟩ (xsOf L))).take ((1 : Int).toNat) = [(nn, 0)] := hn
              replace hF : Fnds w10 v ((srt (fnd zs ⟨#[]⟩ (xsOf L))).take ((1 : Int).toNat)) := hF
              rw [hn] at hF
              obtain ⟨av, cv, hv, hcv, hc⟩ := hF
              replace hv : v = .slice av 1 cv := hv
              subst hv
              obtain ⟨g2, o2, rfl, hl2, r1, r2⟩ := hc 0 _ rfl
              replace r2 : w10.cell? ⟨g2, o2 + 1, none⟩ = some (.int .i64 0) := by simpa using r2
              clear hc hn HS HT r1
              go_wp2_with fail
              exact ⟨⟨j + 1, by omega, by go_num, br.trans (g10.mono br.size)⟩, by simp [intOf]; omega⟩
            · have hj' : j = L.length := by omega
              subst hj'
              go_wp2_with fail
              go_ret
              exact ⟨rfl, b9.trans (br.mono b9.size)⟩
end Go.Proofs.Ytlhggfmcjmhipaa.Nr
namespace Go.Proofs.Ytlhggfmcjmhipaa.Nr
open Go.ChangeShapes Go.WideShapes Go.ChangeAt Go.ChangeMaps Go.RowKit
open It
theorem own : ownKnob Try.prog.godebug = none := by kernel_rfl
theorem laidOut : laidOutB Try.prog = true := by kernel_rfl
theorem cells3 : Try.prog.cellsOf 3 = 1 := by kernel_rfl
theorem cells9 : Try.prog.cellsOf 9 = 1 := by kernel_rfl
theorem cellsIt : Try.prog.cellsOf 37 = 3 := by kernel_rfl
theorem cellsIs : Try.prog.cellsOf 23 = 1 := by kernel_rfl
section
variable {H : Type} {enc : TypeId × Value → H} {P : Program} {w : World} {base : Nat} {sp : Nat → Bool} {held : Bool}
/-- A slice that can be read: the cells of each element. -/
theorem slice_open {t e : TypeId} {fuel : Nat} {a0 : Option Addr} {len cap : Nat} {x : DataW H × List MemPlace} (ht : P.underlying t = some (.slice e)) (hp : 0 < P.cellsOf e) (h : DataW.trod enc P w base sp held fuel t [.slice a0 len cap] = some x) :
    len ≤ maxLen ∧ len ≤ cap ∧ ∀ i, i < len → ∃ a cs n y, a0 = some a ∧ a.spot = none ∧ w.cells? base (a.add (i * P.cellsOf e)) (P.cellsOf e) = some cs ∧ DataW.trod enc P w base sp held n e cs = some y := by
  rcases DataW.trod_slice ht h with ⟨h0, _⟩ | ⟨a, len', cap', elems, rest, n, _, hcs, rfl, hb, hl, hm, hlen, hel, hsp, hns⟩
  · simp at h0
    obtain ⟨rfl, rfl, rfl⟩ := h0
    exact ⟨Nat.zero_le _, Nat.zero_le _, fun i hi => absurd hi (Nat.not_lt_zero _)⟩
  · simp at hcs
    obtain ⟨rfl, rfl, rfl⟩ := hcs
    refine ⟨Nat.le_trans hl hm, hl, fun i hi => ?_⟩
    have hE := hel i hi
    rw [List.getElem?_eq_getElem (by omega), Option.bind_eq_some_iff] at hE
    obtain ⟨cs, h1, h2⟩ := hE
    have hE0 := hel 0 (by omega)
    rw [List.getElem?_eq_getElem (by omega), Option.bind_eq_some_iff] at hE0
    obtain ⟨cs0, h3, _⟩ := hE0
    obtain ⟨_, hl0, hc0⟩ := World.cells?_some h3
    have hc1 := hc0 0 hp
    rw [List.getElem?_eq_getElem (by omega)] at hc1
    have hs := World.cell?_spot hc1
    simp [Addr.add] at hs
    exact ⟨a, cs, n, _, rfl, hs, h1, h2⟩
end
theorem list_of {α : Type} (p : Nat → α → Prop) : ∀ n : Nat, (∀ i, i < n → ∃ x, p i x) → ∃ l : List α, l.length = n ∧ ∀ i x, l[i]? = some x → p i x
  | 0, _ => ⟨[], rfl, fun i x h => by simp at h⟩
  | n + 1, h => by
    obtain ⟨l, h1, h2⟩ := list_of p n (fun i hi => h i (by omega))
    obtain ⟨x, hx⟩ := h n (by omega)
    refine ⟨l ++ [x], by simp [h1], fun i y hy => ?_⟩
    by_cases hi : i < n
    · rw [List.getElem?_append_left (by omega)] at hy; exact h2 i y hy
    · have : i = n := by
        have := (List.getElem?_eq_some_iff.1 hy).1
        simp [h1] at this; omega
      subst this
      rw [List.getElem?_append_right (by omega), h1, Nat.sub_self] at hy
      simp at hy; subst hy; exact hx
section
variable {H : Type} {enc : TypeId × Value → H} {w : World} {base : Nat} {sp : Nat → Bool} {held : Bool} {fuel : Nat} {a0 : Option Addr} {len cap : Nat} {x : DataW H × List MemPlace}
theorem one_cell {P : Program} {e : TypeId} {a : Addr} {i : Nat} {cs : List Value} (hc : P.cellsOf e = 1) (h : w.cells? base (a.add (i * P.cellsOf e)) (P.cellsOf e) = some cs) (v : Value) (hv : cs = [v]) (hs : a.spot = none) : ∃ g o, a = ⟨g, o, none⟩ ∧ w.cell? ⟨g, o + i, none⟩ = some v := by
  subst hv
  rw [hc, Nat.mul_one] at h
  have h1 := cell_of_cells?_one h
  obtain ⟨b, off, spot⟩ := a
  obtain rfl : spot = none := hs
  rw [addr_addO] at h1
  exact ⟨b, off, rfl, h1⟩
theorem ints_open (h : DataW.trod enc Try.prog w base sp held fuel 23 [.slice a0 len cap] = some x) : ∃ zs : List Int, zs.length = len ∧ len ≤ maxLen ∧ len ≤ cap ∧ Ints w a0 zs := by
  obtain ⟨hl, hl2, hc⟩ := slice_open Try.underlying23 (by rw [cells3]; decide) h
  obtain ⟨zs, h1, h2⟩ := list_of (fun i (z : Int) => ∃ g o, a0 = some ⟨g, o, none⟩ ∧ w.cell? ⟨g, o + i, none⟩ = some (.int .i64 z)) len (fun i hi => by
    obtain ⟨a, cs, n, y, rfl, hsp, h3, h4⟩ := hc i hi
    obtain ⟨m, rfl, _, hw⟩ := DataW.trod_int Try.underlying3 h4
    obtain ⟨g, o, rfl, h6⟩ := one_cell cells3 h3 _ rfl hsp
    exact ⟨m, g, o, rfl, h6⟩)
  exact ⟨zs, h1, hl, hl2, h2⟩
theorem list3 {α : Type} {l : List α} (h : l.length = 3) : ∃ a b c, l = [a, b, c] := by
  match l, h with
  | [a, b, c], _ => exact ⟨a, b, c, rfl⟩
theorem item_open {fuel : Nat} {cs : List Value} {x : DataW H × List MemPlace} {a : Addr} (hs : a.spot = none) (hc : w.cells? base a 3 = some cs) (h : DataW.trod enc Try.prog w base sp held fuel 37 cs = some x) :
    ∃ d : ItD, w.cell? ⟨a.block, a.off, none⟩ = some (.string d.x.name) ∧ w.cell? ⟨a.block, a.off + 1, none⟩ = some (.string d.x.tag) ∧ w.cell? ⟨a.block, a.off + 2, none⟩ = some d.val ∧ d.Ok w := by
  obtain ⟨y0, y1, y2, n, _, hl, h0, h1, h2⟩ := Go.Deep.trod_struct3 Try.underlying37 h
  obtain ⟨_, hl3, hcell⟩ := World.cells?_some hc
  obtain ⟨v0, v1, v2, rfl⟩ : ∃ v0 v1 v2, cs = [v0, v1, v2] := list3 hl3
  obtain ⟨b, off, spot⟩ := a
  obtain rfl : spot = none := hs
  have k0 := hcell 0 (by decide)
  have k1 := hcell 1 (by decide)
  have k2 := hcell 2 (by decide)
  rw [addr_addO] at k0 k1 k2
  simp only [cells9, cellsIs, List.drop_succ_cons, List.drop_zero, List.take_succ_cons, List.take_zero] at h0 h1 h2
  obtain ⟨s, e0, _, hsz⟩ := DataW.trod_string Try.underlying9 h0
  obtain ⟨t, e1, _, htz⟩ := DataW.trod_string Try.underlying9 h1
  injection e0 with e0
  injection e1 with e1
  subst e0 e1
  obtain ⟨a3, l3, c3, rfl⟩ : ∃ a3 l3 c3, v2 = .slice a3 l3 c3 := by
    rcases DataW.trod_slice Try.underlying23 h2 with ⟨e, _⟩ | ⟨a, len', cap', _, _, _, _, e, _⟩
    · injection e with e; exact ⟨_, _, _, e⟩
    · injection e with e; exact ⟨_, _, _, e⟩
  obtain ⟨zs, rfl, hz1, hz2, hI⟩ := ints_open h2
  exact ⟨⟨⟨s, t, zs⟩, a3, c3⟩, k0, k1, k2, hI, hz1, hsz, htz, hz2⟩
theorem items_open (h : DataW.trod enc Try.prog w base sp held fuel 22 [.slice a0 len cap] = some x) : ∃ ds : List ItD, ds.length = len ∧ len ≤ maxLen ∧ len ≤ cap ∧ Its w a0 ds := by
  obtain ⟨hl, hl2, hc⟩ := slice_open Try.underlying22 (by rw [cellsIt]; decide) h
  obtain ⟨l, h1, h2⟩ := list_of (fun i (d : ItD) => ∃ g o, a0 = some ⟨g, o, none⟩ ∧ w.cell? ⟨g, o + i * 3, none⟩ = some (.string d.x.name) ∧ w.cell? ⟨g, o + i * 3 + 1, none⟩ = some (.string d.x.tag) ∧ w.cell? ⟨g, o + i * 3 + 2, none⟩ = some d.val ∧ d.Ok w) len (fun i hi => by
    obtain ⟨a, cs, n, y, rfl, hsp, h3, h4⟩ := hc i hi
    rw [cellsIt] at h3
    obtain ⟨b, off, spot⟩ := a
    obtain rfl : spot = none := hsp
    rw [addr_addO] at h3
    obtain ⟨d, q0, q1, q2, q3⟩ := item_open (a := ⟨b, off + i * 3, none⟩) rfl h3 h4
    exact ⟨d, b, off, rfl, q0, q1, q2, q3⟩)
  exact ⟨l, h1, hl, hl2, h2⟩
end
end Go.Proofs.Ytlhggfmcjmhipaa.Nr
