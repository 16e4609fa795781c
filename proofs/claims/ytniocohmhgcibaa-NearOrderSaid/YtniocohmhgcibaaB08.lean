/-
  Part of the proof: NearOrder is walked.
-/
import Derived.Test.YtniocohmhgcibaaB07
import Derived.Deep.CutRange
namespace Go.Proofs.Ytniocohmhgcibaa.Nr
open Go.RowKit
open It
theorem szF : (Try.prog.info? 35).map (·.size) = some 2 := by kernel_rfl
open Classical in
set_option maxRecDepth 100000 in
set_option maxHeartbeats 4000000 in
theorem order_main (a : Option Addr) (c : Nat) (ds : List ItD) (b : Option Addr) (d : Nat) (ys : List Int) (k less : Int) (tag : ByteArray) (w : World) (h : Its w a ds) (hl : ds.length ≤ 65) (hheld : heldB (xsOf ds) = true) (hy : Ints w b ys) (hyl : ys.length ≤ 12) (ht : tag.size ≤ 40) :
    Calls Try.prog 3 #[.slice a ds.length c, .slice b ys.length d, .int .i64 k, .int .i64 less, .string tag] w fun e w' => e = .returned (.bool true) ∧ Below w.heap.size w w' := by
  have hyl' : ¬ (12 : Int) < (ys.length : Int) := by omega
  have ht' : ¬ (40 : Int) < (tag.size : Int) := by omega
  have hym : ys.length ≤ maxLen := by unfold maxLen; omega
  have hlm : ds.length ≤ maxLen := by unfold maxLen; omega
  go_enter Try.func3, Try.ntmps3
  go_wp2_with fail
  refine (held_any a c ds w h hlm).mono ?_
  rintro e w1 ⟨rfl, g1⟩
  rw [hheld]
  go_wp2_with fail
  refine (found_any w1).mono ?_
  rintro e w2 ⟨rfl, g2⟩
  have b2 := g1.trans (g2.mono g1.size)
  go_wp2_with fail
  refine (kright_any a c ds w2 (h.below b2) hl).mono ?_
  rintro e w3 ⟨⟨v, rfl, ow, hnil⟩, g3⟩
  have b3 := b2.trans (g3.mono b2.size)
  have hok : ∀ x ∈ rgt ds, x.Ok w3 := fun x hx => by
    obtain ⟨i, hi⟩ := List.getElem?_of_mem (rgt_mem hx).1
    obtain ⟨_, _, _, _, _, _, q⟩ := (h.below b3) i x hi
    exact q
  have hlowA : ∀ x ∈ rgt ds, ∀ b' o', x.a = some ⟨b', o', none⟩ → x.x.nums ≠ [] → b' < w.heap.size := fun x hx b' o' e hn => by
    obtain ⟨i, hi⟩ := List.getElem?_of_mem (rgt_mem hx).1
    obtain ⟨_, _, _, _, _, _, q⟩ := h i x hi
    cases hnn : x.x.nums with
    | nil => exact absurd hnn hn
    | cons z r =>
      obtain ⟨g, o, e', hc⟩ := q.1 0 z (by rw [hnn]; rfl)
      rw [e] at e'
      injection e' with e'
      injection e' with e1 e2
      rw [e1]
      exact World.block_lt_of_cell? w _ hc
  have HLOW : Hid _ := hlowA
  have hnm : ∀ x ∈ rgt ds, x.x.nums.all numB = true ∧ x.x.nums.length = 2 := fun x hx => right_nums (rgt_mem hx).2
  have hnd : (fnd ys tag (xsOf (rgt ds))).Nodup := fnd_nodup (rgt_names ds)
  have hll : (rgt ds).length ≤ 65 := Nat.le_trans (rgt_len ds) hl
  obtain ⟨L, hL⟩ : ∃ L, rgt ds = L := ⟨_, rfl⟩
  rw [hL] at ow hnil hok hnm hnd hll HLOW
  obtain ⟨al, cl, rfl, hIts⟩ := its_own ow hok
  have HNIL : Hid _ := hnil
  have HNM : Hid _ := hnm
  have HND : Hid _ := hnd
  have HOK : Hid _ := hok
  have HOW : Hid _ := ow
  have hy3 := hy.below b3
  clear hL hnil hnm hnd hok ow h hy g1 g2 g3 b2 hlm hheld hlowA
  cases hask : askB 2 ys k with
  | false =>
    go_wp2_with fail
    refine (top_no 2 al L.length cl b d ys k tag w3 hy3 hym hask).mono ?_
    rintro e w4 ⟨rfl, hw4⟩
    obtain rfl : w3 = w4 := hw4.symm
    unfold errA
    go_wp2_with fail
    refine (ask_any 2 b d ys k w3 hy3 hym).mono ?_
    rintro e w4 ⟨rfl, hw4⟩
    obtain rfl : w3 = w4 := hw4.symm
    rw [hask]
    go_wp2_with fail
    go_ret
    exact ⟨rfl, b3⟩
  | true =>
    have HASK : Hid _ := hask
    have hk : 1 ≤ k ∧ k ≤ 60 := by simp [askB] at hask; exact ⟨hask.1.1.2, hask.1.2⟩
    have HYN : Hid (ys.all numB = true) := by unfold askB at hask; rw [Bool.and_eq_true] at hask; exact hask.2
    obtain ⟨hk1, hk2⟩ := hk
    obtain ⟨kk, rfl⟩ : ∃ kk : Nat, k = (kk : Int) := ⟨k.toNat, by omega⟩
    go_wp2_with fail
    refine (top_ok 2 al cl L b d ys (kk : Int) tag w3 hIts (by omega) hy3 hym hask (fun x hx => ⟨(HNM.out x hx).1, by rw [(HNM.out x hx).2]; omega⟩)).mono ?_
    rintro e w4 ⟨⟨v, rfl, hFn⟩, g4⟩
    have b4 := b3.trans (g4.mono b3.size)
    have hIts4 := hIts.below g4
    have hy4 := hy3.below g4
    have HOW4 : Hid _ := ownsRow_below HOW.out g4
    rw [Int.toNat_natCast] at hFn
    obtain ⟨X, hX⟩ : ∃ X, Hid ((srt (fnd ys tag (xsOf L))).take kk = X) := ⟨_, rfl⟩
    rw [hX.out] at hFn
    have HFX : Hid (Fnds w4 v X) := hFn
    obtain ⟨ax, cx, rfl, hxc, hcX⟩ := hFn
    have hXl : X.length ≤ 60 := by rw [← hX.out, List.length_take]; omega
    obtain ⟨nx, hnx⟩ : ∃ nx, X.length = nx := ⟨_, rfl⟩
    have HCX : Hid _ := hcX
    rw [hnx] at hxc hXl HFX
    rw [hnx]
    clear hask hIts hy3 HOW g4 hcX b3 HOK
    go_wp2_with fail
    go_loopw [13] (fun i wr => ∃ m : Nat, m ≤ nx ∧ i = .int .i64 m ∧ Below w4.heap.size w4 wr) (fun i _ => nx - (intOf i).toNat)
    case atStart => exact ⟨0, by omega, rfl, Below.refl _ _⟩
    case round =>
      obtain ⟨m, hm, rfl, br⟩ := hrel
      by_cases hlt : m < nx
      · have hlt' : (m : Int) < (nx : Int) := by omega
        by_cases hm0 : m = 0
        · subst hm0
          rw [show ((0 : Nat) : Int) = 0 from rfl] at hlt' ⊢
          have hz : ¬ ((0 : Int) < 0) := by omega
          go_wp2_with fail
          have s0 : Below wr.heap.size wr wr.drew := below_drewN (Below.refl _ _) 1
          refine regS_in 15 (fun W' => Below wr.heap.size wr W') mixed rfl ?_
          refine regS_take 0 59 (.int .i64 (0 : Int)) rfl rfl (by kernel_rfl) (fun _ _ _ h => h) (by kernel_rfl) (fun W' hs' => by go_simp) s0 ?_
          refine regS_take 1 60 (.bool false) rfl rfl (by kernel_rfl) (fun _ _ _ h => h) (by kernel_rfl) (fun W' hs' => by go_simp) s0 ?_
          refine regS_take 2 61 (.bool false) rfl rfl (by kernel_rfl) (fun _ _ _ h => h) (by kernel_rfl) (fun W' hs' => by go_simp) s0 ?_
          refine regS_skip 3 62 rfl rfl (by kernel_rfl) (fun _ _ _ h => h) (by kernel_rfl) s0 ?_
          refine regS_skip 4 63 rfl rfl (by kernel_rfl) (fun _ _ _ h => h) (by kernel_rfl) s0 ?_
          refine regS_skip 5 64 rfl rfl (by kernel_rfl) (fun _ _ _ h => h) (by kernel_rfl) s0 ?_
          refine regS_skip 6 65 rfl rfl (by kernel_rfl) (fun _ _ _ h => h) (by kernel_rfl) s0 ?_
          refine regS_skip 7 66 rfl rfl (by kernel_rfl) (fun _ _ _ h => h) (by kernel_rfl) s0 ?_
          refine regS_skip 8 67 rfl rfl (by kernel_rfl) (fun _ _ _ h => h) (by kernel_rfl) s0 ?_
          refine regS_skip 9 68 rfl rfl (by kernel_rfl) (fun _ _ _ h => h) (by kernel_rfl) s0 ?_
          refine regS_skip 10 69 rfl rfl (by kernel_rfl) (fun _ _ _ h => h) (by kernel_rfl) s0 ?_
          refine regS_skip 11 70 rfl rfl (by kernel_rfl) (fun _ _ _ h => h) (by kernel_rfl) s0 ?_
          refine regS_skip 12 71 rfl rfl (by kernel_rfl) (fun _ _ _ h => h) (by kernel_rfl) s0 ?_
          refine regS_skip 13 72 rfl rfl (by kernel_rfl) (fun _ _ _ h => h) (by kernel_rfl) s0 ?_
          refine regS_take 14 73 (.bool false) rfl rfl (by kernel_rfl) (fun _ _ _ h => h) (by kernel_rfl) (fun W' hs' => by go_simp) s0 ?_
          refine regS_end (by kernel_rfl) ?_
          simp only [Act.put, List.setIfInBounds_toArray, List.set_cons_succ, List.set_cons_zero]
          go_wp2_with fail
          exact ⟨⟨1, by omega, by go_num, br.trans (s0.mono br.size)⟩, by simp [intOf]; omega⟩
        · obtain ⟨j, hj⟩ : ∃ j : Nat, m = j + 1 := ⟨m - 1, by omega⟩
          obtain ⟨⟨n1, f1⟩, hx1⟩ : ∃ x, X[j]? = some x := ⟨_, List.getElem?_eq_getElem (by omega)⟩
          obtain ⟨⟨n2, f2⟩, hx2⟩ : ∃ x, X[m]? = some x := ⟨_, List.getElem?_eq_getElem (by omega)⟩
          obtain ⟨g, o, rfl, hg, q1, q2⟩ := HCX.out j _ hx1
          obtain ⟨g', o', e', hg', q3, q4⟩ := HCX.out m _ hx2
          injection e' with e'
          injection e' with e1 e2
          subst e1 e2
          have HLT : Hid (ltF (n1, f1) (n2, f2) = true) := by
            rw [← hX.out, List.getElem?_take] at hx1 hx2
            split at hx1
            · split at hx2
              · exact srt_strict HND.out j m _ _ (by omega) hx1 hx2
              · cases hx2
            · cases hx1
          have HC : Hid (∀ W', Below wr.heap.size wr W' → W'.cell? ⟨g, o + j * 2, none⟩ = some (.string n1) ∧ W'.cell? ⟨g, o + j * 2 + 1, none⟩ = some (.int .i64 f1) ∧ W'.cell? ⟨g, o + m * 2, none⟩ = some (.string n2) ∧ W'.cell? ⟨g, o + m * 2 + 1, none⟩ = some (.int .i64 f2)) := fun W' hb => by
            have hbb := br.trans (hb.mono br.size)
            exact ⟨(World.cell?_of_block (hbb.block g hg)).trans q1, (World.cell?_of_block (hbb.block g hg)).trans q2, (World.cell?_of_block (hbb.block g hg)).trans q3, (World.cell?_of_block (hbb.block g hg)).trans q4⟩
          have hsub : (m : Int) - 1 = (j : Int) := by omega
          have hj1 : (j : Int) < (nx : Int) := by omega
          have hj0 : (0 : Int) ≤ (j : Int) := by omega
          have hm1 : (0 : Int) < (m : Int) := by omega
          have hw1 : IntKind.i64.wrap (j : Int) = (j : Int) := by rw [IntKind.wrap_i64]; omega
          clear hx1 hx2 q1 q2 q3 q4 hm0 hj
          go_wp2_with fail
          have s0 : Below wr.heap.size wr wr.drew := below_drewN (Below.refl _ _) 1
          refine regS_in 15 (fun W' => Below wr.heap.size wr W') mixed rfl ?_
          refine regS_take 0 59 (.int .i64 (m : Int)) rfl rfl (by kernel_rfl) (fun _ _ _ h => h) (by kernel_rfl) (fun W' hs' => by go_simp) s0 ?_
          refine regS_take 1 60 (.bool true) rfl rfl (by kernel_rfl) (fun _ _ _ h => h) (by kernel_rfl) (fun W' hs' => by go_simp; omega) s0 ?_
          refine regS_take 2 61 (.bool true) rfl rfl (by kernel_rfl) (fun _ _ _ h => h) (by kernel_rfl) (fun W' hs' => by go_simp) s0 ?_
          refine regS_take 3 62 (.slice (some ⟨g, o, none⟩) nx cx) rfl rfl (by kernel_rfl) (fun _ _ _ h => h) (by kernel_rfl) (fun W' hs' => by go_simp) s0 ?_
          refine regS_take 4 63 (.int .i64 (m : Int)) rfl rfl (by kernel_rfl) (fun _ _ _ h => h) (by kernel_rfl) (fun W' hs' => by go_simp) s0 ?_
          refine regS_take 5 64 (.int .i64 (j : Int)) rfl rfl (by kernel_rfl) (fun _ _ _ h => h) (by kernel_rfl) (fun W' hs' => by go_simp) s0 ?_
          refine regS_take 6 65 (.pointer (some ⟨g, o + j * 2, none⟩)) rfl rfl (by kernel_rfl) (fun _ _ _ h => h) (by kernel_rfl) (fun W' hs' => by go_simp) s0 ?_
          refine regS_take 7 66 (.agg #[.string n1, .int .i64 f1]) rfl rfl (by kernel_rfl) (fun _ _ _ h => h) (by kernel_rfl) (fun W' hs' => by have a0 := (HC.out W' hs').1; have a1 := (HC.out W' hs').2.1; go_simp) s0 ?_
          refine regS_take 8 67 (.slice (some ⟨g, o, none⟩) nx cx) rfl rfl (by kernel_rfl) (fun _ _ _ h => h) (by kernel_rfl) (fun W' hs' => by go_simp) s0 ?_
          refine regS_take 9 68 (.int .i64 (m : Int)) rfl rfl (by kernel_rfl) (fun _ _ _ h => h) (by kernel_rfl) (fun W' hs' => by go_simp) s0 ?_
          refine regS_take 10 69 (.pointer (some ⟨g, o + m * 2, none⟩)) rfl rfl (by kernel_rfl) (fun _ _ _ h => h) (by kernel_rfl) (fun W' hs' => by go_simp) s0 ?_
          refine regS_take 11 70 (.agg #[.string n2, .int .i64 f2]) rfl rfl (by kernel_rfl) (fun _ _ _ h => h) (by kernel_rfl) (fun W' hs' => by have a0 := (HC.out W' hs').2.2.1; have a1 := (HC.out W' hs').2.2.2; go_simp) s0 ?_
          simp only [Act.put, List.setIfInBounds_toArray, List.set_cons_succ, List.set_cons_zero]
          refine regS_one 12 rfl (by kernel_rfl) (by kernel_rfl) (fun K hK' => ?_)
          go_wp2_with fail
          refine (compare_any (n1, f1) (n2, f2) wr.drew).mono ?_
          rintro e W2 ⟨rfl, os2, rfl⟩
          have s1 : Below wr.heap.size wr (Go.Sort.grow wr.drew os2) := below_grow s0 os2 s0.size
          refine hK' _ _ s1 ?_
          clear hK' K
          obtain ⟨cc, hcc⟩ : ∃ cc, cfF (n1, f1) (n2, f2) = cc := ⟨_, rfl⟩
          have hc0 : cc < 0 := by rw [← hcc]; exact lt_cf HLT.out
          rw [hcc]
          have hcg : ¬ (0 ≤ cc) := by omega
          refine regS_take 13 72 (.bool false) rfl rfl (by kernel_rfl) (fun _ _ _ h => h) (by kernel_rfl) (fun W' hs' => by go_simp) s1 ?_
          refine regS_take 14 73 (.bool false) rfl rfl (by kernel_rfl) (fun _ _ _ h => h) (by kernel_rfl) (fun W' hs' => by go_simp) s1 ?_
          refine regS_end (by kernel_rfl) ?_
          simp only [Act.put, List.setIfInBounds_toArray, List.set_cons_succ, List.set_cons_zero]
          go_wp2_with fail
          exact ⟨⟨m + 1, by omega, by go_num, br.trans (s1.mono br.size)⟩, by simp [intOf]; omega⟩
      · have hm' : nx = m := by omega
        subst hm'
        clear hlt hm
        obtain ⟨NL, hNL⟩ : ∃ n, L.length = n := ⟨_, rfl⟩
        have hll' : NL ≤ 65 := by omega
        have hfl : ∀ q, (fnd ys tag (xsOf (L.take q))).length ≤ 65 := fun q => by
          have h1 := fnd_len ys tag (xsOf (L.take q))
          have h2 : (xsOf (L.take q)).length ≤ L.length := by unfold xsOf; rw [List.length_map, List.length_take]; omega
          omega
        have HFL : Hid _ := hfl
        have HKX : Hid (nx ≤ kk) := by unfold Hid; rw [← hnx, ← hX.out, List.length_take]; omega
        rw [hNL]
        clear hfl
        go_wp2_with fail
        go_loopw [14, 15] (fun s i wr => ∃ m : Nat, m ≤ NL ∧ i = .int .i64 m ∧ s = .int .i64 ((fnd ys tag (xsOf (L.take m))).length : Nat) ∧ Below w4.heap.size w4 wr) (fun _ i _ => NL - (intOf i).toNat)
        case atStart => exact ⟨0, by omega, rfl, rfl, br⟩
        case round =>
          clear br
          obtain ⟨m, hm, rfl, rfl, br⟩ := hrel
          by_cases hlt : m < NL
          · have hlt' : (m : Int) < (NL : Int) := by omega
            have hr := hIts4.below br
            have hyr := hy4.below br
            have hFx := HFX.out.below br
            have hdm : L[m]? = some L[m] := List.getElem?_eq_getElem (by omega)
            have hdx : (xsOf L)[m]? = some L[m].x := by unfold xsOf; rw [List.getElem?_map, hdm]; rfl
            obtain ⟨g, o, rfl, q1, q2, q3, q4⟩ := hr m L[m] hdm
            have hnm := HNM.out _ (List.mem_of_getElem? hdm)
            have HTK : Hid (∀ q, xsOf (L.take q) = (xsOf L).take q) := fun q => by unfold xsOf; rw [List.map_take]
            have HST : Hid (fnd ys tag (xsOf (L.take (m + 1))) = fnd ys tag (xsOf (L.take m)) ++ if tagP tag L[m].x then [(L[m].x.name, farI L[m].x.nums ys)] else []) := by
              unfold Hid; rw [HTK.out, HTK.out]; exact fnd_step hdx
            have HIN : Hid (tagP tag L[m].x = true → (L[m].x.name, farI L[m].x.nums ys) ∈ fnd ys tag (xsOf L)) := fun ht => fnd_mem hdm ht
            have hof := HFL.out m
            have hgw : g < wr.heap.size := World.block_lt_of_cell? wr _ q1
            clear hr hdm hdx
            generalize L[m] = x at *
            obtain ⟨⟨nm, tg, zs⟩, xa, xc⟩ := x
            simp only [ItD.val] at q1 q2 q3
            have HNZ : Hid (zs.all numB = true ∧ zs.length ≤ 100) := ⟨hnm.1, by have h2 : zs.length = 2 := hnm.2; omega⟩
            clear hnm
            obtain ⟨oo, hoo⟩ : ∃ oo, Hid ((fnd ys tag (xsOf (L.take m))).length = oo) := ⟨_, rfl⟩
            rw [hoo.out] at hof
            rw [hoo.out]
            by_cases htp : tagP tag ⟨nm, tg, zs⟩ = true
            · have HST2 : Hid ((fnd ys tag (xsOf (L.take (m + 1)))).length = oo + 1) := by
                unfold Hid; rw [HST.out, if_pos htp, List.length_append, hoo.out]; rfl
              have hmemF := HIN.out htp
              have HMF : Hid _ := hmemF
              have hgo : tag.toList = [] ∨ (¬ tag.toList = [] ∧ tg.toList = tag.toList) := by
                unfold tagP at htp
                rw [Bool.or_eq_true, decide_eq_true_eq, decide_eq_true_eq] at htp
                by_cases e : tag.toList = []
                · exact Or.inl e
                · exact Or.inr ⟨e, htp.resolve_left e⟩
              obtain ⟨fr, hfr⟩ : ∃ fr, farI zs ys = fr := ⟨_, rfl⟩
              have HFR : Hid (farI zs ys = fr) := hfr
              have HC : Hid (∀ W', Below wr.heap.size wr W' → W'.cell? ⟨g, o + m * 3, none⟩ = some (.string nm) ∧ W'.cell? ⟨g, o + m * 3 + 2, none⟩ = some (.slice xa zs.length xc)) := fun W' hb => ⟨(World.cell?_of_block (hb.block g hgw)).trans q1, (World.cell?_of_block (hb.block g hgw)).trans q3⟩
              clear htp hmemF HST HIN hfr
              go_upto_region 18 with fail
              go_cut [90] from 74 to 126 (fun s90 wx => s90 = .bool false ∧ wx = wr)
              case first =>
                rcases hgo with hgo | ⟨hgo, hgo2⟩ <;> (
                  go_wp2_with fail
                  go_meet
                  exact ⟨rfl, rfl⟩)
              case rest =>
                obtain ⟨rfl, hwc⟩ := hcut
                have hwc' := hwc.symm
                subst hwc'
                clear hgo hwc
                go_upto_region 20 with fail
                go_cut [16] from 74 to 126 (fun s16 wx => s16 = .pointer (some ⟨wr.heap.size, 0, none⟩) ∧ Blk wx wr.heap.size #[.string nm, .int .i64 fr] 35 ∧ Below wr.heap.size wr wx)
                case first =>
                  have s0 : Below wr.heap.size wr wr.drew := below_drewN (Below.refl _ _) 1
                  refine regS_in 15 (fun W' => Below wr.heap.size wr W') mixed rfl ?_
                  refine regS_take 0 93 (.slice (some ⟨g, o, none⟩) NL cl) rfl rfl (by kernel_rfl) (fun _ _ _ h => h) (by kernel_rfl) (fun W' hs' => by go_simp) s0 ?_
                  refine regS_take 1 94 (.int .i64 (m : Int)) rfl rfl (by kernel_rfl) (fun _ _ _ h => h) (by kernel_rfl) (fun W' hs' => by go_simp) s0 ?_
                  refine regS_take 2 95 (.pointer (some ⟨g, o + m * 3, none⟩)) rfl rfl (by kernel_rfl) (fun _ _ _ h => h) (by kernel_rfl) (fun W' hs' => by go_simp) s0 ?_
                  refine regS_take 3 96 (.pointer (some ⟨g, o + m * 3, none⟩)) rfl rfl (by kernel_rfl) (fun _ _ _ h => h) (by kernel_rfl) (fun W' hs' => by go_simp) s0 ?_
                  refine regS_take 4 97 (.string nm) rfl rfl (by kernel_rfl) (fun _ _ _ h => h) (by kernel_rfl) (fun W' hs' => by have a0 := (HC.out W' hs').1; go_simp) s0 ?_
                  refine regS_take 5 98 (.slice (some ⟨g, o, none⟩) NL cl) rfl rfl (by kernel_rfl) (fun _ _ _ h => h) (by kernel_rfl) (fun W' hs' => by go_simp) s0 ?_
                  refine regS_take 6 99 (.int .i64 (m : Int)) rfl rfl (by kernel_rfl) (fun _ _ _ h => h) (by kernel_rfl) (fun W' hs' => by go_simp) s0 ?_
                  refine regS_take 7 100 (.pointer (some ⟨g, o + m * 3, none⟩)) rfl rfl (by kernel_rfl) (fun _ _ _ h => h) (by kernel_rfl) (fun W' hs' => by go_simp) s0 ?_
                  refine regS_take 8 101 (.pointer (some ⟨g, o + m * 3 + 2, none⟩)) rfl rfl (by kernel_rfl) (fun _ _ _ h => h) (by kernel_rfl) (fun W' hs' => by go_simp) s0 ?_
                  refine regS_take 9 102 (.slice xa zs.length xc) rfl rfl (by kernel_rfl) (fun _ _ _ h => h) (by kernel_rfl) (fun W' hs' => by have a0 := (HC.out W' hs').2; go_simp) s0 ?_
                  refine regS_take 10 103 (.slice b ys.length d) rfl rfl (by kernel_rfl) (fun _ _ _ h => h) (by kernel_rfl) (fun W' hs' => by go_simp) s0 ?_
                  simp only [Act.put, List.setIfInBounds_toArray, List.set_cons_succ, List.set_cons_zero]
                  refine regS_two 11 13 rfl rfl (by kernel_rfl) (by kernel_rfl) (by kernel_rfl) (fun K hK' => ?_) (fun K hK' => ?_)
                  · go_wp2_with fail
                    refine (far_any xa b xc d zs ys wr.drew (q4.1.below s0) (hyr.below s0) HNZ.out.2 HNZ.out.1 HYN.out).mono ?_
                    rintro e W2 ⟨rfl, n2, rfl⟩
                    have s1 : Below wr.heap.size wr (wr.drew.drewN n2) := below_drewN s0 n2
                    have z1 : (wr.drew.drewN n2).heap.size = wr.heap.size := rfl
                    refine hK' _ _ s1 ?_
                    clear hK' K
                    rw [HFR.out]
                    generalize wr.drew.drewN n2 = w6 at *
                    refine regS_take 12 105 (.agg #[.string nm, .int .i64 fr]) rfl rfl (by kernel_rfl) (fun _ _ _ h => h) (by kernel_rfl) (fun W' hs' => by go_simp) s1 ?_
                    simp only [Act.put, List.setIfInBounds_toArray, List.set_cons_succ, List.set_cons_zero]
                    refine regS_one 13 rfl (by kernel_rfl) (by kernel_rfl) (fun K hK' => ?_)
                    go_wp2_with fail
                    have s2 := s1.trans ((below_alloc w6 (.cells #[.string ⟨#[]⟩, .int .i64 0] 35)).mono s1.size)
                    have j2 : Blk (w6.alloc (.cells #[.string ⟨#[]⟩, .int .i64 0] 35)) wr.heap.size #[.string ⟨#[]⟩, .int .i64 0] 35 := Blk.new' w6 _ _ (by rw [z1])
                    refine hK' _ _ s2 ?_
                    clear hK' K
                    try rw [z1]
                    generalize w6.alloc (.cells #[.string ⟨#[]⟩, .int .i64 0] 35) = w7 at *
                    refine regS_last 14 rfl (by kernel_rfl) (by kernel_rfl) (fun K hK' => ?_)
                    refine op_storeV rfl 35 (.tmp 16) (.tmp 105) rfl 2 szF wr.heap.size _ 35 #[.string nm, .int .i64 fr] (fun u hu => by simp at hu; rcases hu with rfl | rfl <;> rfl) rfl rfl j2 rfl rfl ?_
                    intro w8 hu8 j8
                    have s3 := below_upd s2 hu8 (Nat.le_refl _)
                    refine hK' _ _ s3 ?_
                    clear hK' K
                    go_wp2_with fail
                    go_meet
                    exact ⟨rfl, j8, s3⟩
                  · go_wp2_with fail
                    have s1 : Below wr.heap.size wr (wr.alloc (.cells #[.string ⟨#[]⟩, .int .i64 0] 35)).drew := s0.trans (below_alloc wr.drew (.cells #[.string ⟨#[]⟩, .int .i64 0] 35))
                    have j1 : Blk (wr.alloc (.cells #[.string ⟨#[]⟩, .int .i64 0] 35)).drew wr.heap.size #[.string ⟨#[]⟩, .int .i64 0] 35 := Blk.new wr.drew _ _
                    refine hK' _ _ s1 ?_
                    clear hK' K
                    refine regS_one 11 rfl (by kernel_rfl) (by kernel_rfl) (fun K hK' => ?_)
                    go_wp2_with fail
                    refine (far_any xa b xc d zs ys _ (q4.1.below s1) (hyr.below s1) HNZ.out.2 HNZ.out.1 HYN.out).mono ?_
                    rintro e W2 ⟨rfl, n2, rfl⟩
                    have s2 : Below wr.heap.size wr ((wr.alloc (.cells #[.string ⟨#[]⟩, .int .i64 0] 35)).drew.drewN n2) := below_drewN s1 n2
                    have j2 : Blk ((wr.alloc (.cells #[.string ⟨#[]⟩, .int .i64 0] 35)).drew.drewN n2) wr.heap.size #[.string ⟨#[]⟩, .int .i64 0] 35 := j1.drewN n2
                    refine hK' _ _ s2 ?_
                    clear hK' K
                    rw [HFR.out]
                    generalize (wr.alloc (.cells #[.string ⟨#[]⟩, .int .i64 0] 35)).drew.drewN n2 = w7 at *
                    refine regS_take 12 105 (.agg #[.string nm, .int .i64 fr]) rfl rfl (by kernel_rfl) (fun _ _ _ h => h) (by kernel_rfl) (fun W' hs' => by go_simp) s2 ?_
                    simp only [Act.put, List.setIfInBounds_toArray, List.set_cons_succ, List.set_cons_zero]
                    refine regS_last 14 rfl (by kernel_rfl) (by kernel_rfl) (fun K hK' => ?_)
                    refine op_storeV rfl 35 (.tmp 16) (.tmp 105) rfl 2 szF wr.heap.size _ 35 #[.string nm, .int .i64 fr] (fun u hu => by simp at hu; rcases hu with rfl | rfl <;> rfl) rfl rfl j2 rfl rfl ?_
                    intro w8 hu8 j8
                    have s3 := below_upd s2 hu8 (Nat.le_refl _)
                    refine hK' _ _ s3 ?_
                    clear hK' K
                    go_wp2_with fail
                    go_meet
                    exact ⟨rfl, j8, s3⟩
                case rest =>
                obtain ⟨rfl, jbx, bx⟩ := hcut
                have HD : Hid (∀ W', Below wc.heap.size wc W' → Blk W' wr.heap.size #[.string nm, .int .i64 fr] 35) := fun W' hb => jbx.below hb jbx.lt
                have bcc : Below w4.heap.size w4 wc := br.trans (bx.mono br.size)
                have hFx := HFX.out.below bcc
                have hgc : (oo : Int) + 1 = ((oo + 1 : Nat) : Int) := by omega
                have HMM : Hid ((nm, fr) ∈ fnd ys tag (xsOf L)) := by have h0 := HMF.out; rw [HFR.out] at h0; exact h0
                clear hyr jbx bx br
                by_cases hmem : (nm, fr) ∈ X
                · clear hgc
                  go_wp2_with fail
                  have s0 : Below wc.heap.size wc wc.drew := below_drewN (Below.refl _ _) 1
                  refine regS_in 21 (fun W' => Below wc.heap.size wc W') mixed rfl ?_
                  refine regS_take 0 106 (.slice ax nx cx) rfl rfl (by kernel_rfl) (fun _ _ _ h => h) (by kernel_rfl) (fun W' hs' => by go_simp) s0 ?_
                  refine regS_take 1 107 (.agg #[.string nm, .int .i64 fr]) rfl rfl (by kernel_rfl) (fun _ _ _ h => h) (by kernel_rfl) (fun W' hs' => by have a0 := (HD.out W' hs').cell 0; have a1 := (HD.out W' hs').cell 1; go_simp) s0 ?_
                  simp only [Act.put, List.setIfInBounds_toArray, List.set_cons_succ, List.set_cons_zero]
                  refine regS_one 2 rfl (by kernel_rfl) (by kernel_rfl) (fun K hK' => ?_)
                  go_wp2_with fail
                  refine (fcontains_any (.slice ax nx cx) X nm fr wc.drew (hFx.below s0) (by omega)).mono ?_
                  rintro e W2 ⟨rfl, g2⟩
                  have s1 := s0.trans (g2.mono s0.size)
                  refine hK' _ _ s1 ?_
                  clear hK' K
                  rw [decide_eq_true hmem]
                  refine regS_take 3 109 (.bool false) rfl rfl (by kernel_rfl) (fun _ _ _ h => h) (by kernel_rfl) (fun W' hs' => by go_simp) s1 ?_
                  refine regS_take 4 110 (.bool false) rfl rfl (by kernel_rfl) (fun _ _ _ h => h) (by kernel_rfl) (fun W' hs' => by go_simp) s1 ?_
                  refine regS_skip 5 111 rfl rfl (by kernel_rfl) (fun _ _ _ h => h) (by kernel_rfl) s1 ?_
                  refine regS_skip 6 112 rfl rfl (by kernel_rfl) (fun _ _ _ h => h) (by kernel_rfl) s1 ?_
                  refine regS_skip 7 113 rfl rfl (by kernel_rfl) (fun _ _ _ h => h) (by kernel_rfl) s1 ?_
                  refine regS_skip 8 114 rfl rfl (by kernel_rfl) (fun _ _ _ h => h) (by kernel_rfl) s1 ?_
                  refine regS_skip 9 115 rfl rfl (by kernel_rfl) (fun _ _ _ h => h) (by kernel_rfl) s1 ?_
                  refine regS_skip 10 116 rfl rfl (by kernel_rfl) (fun _ _ _ h => h) (by kernel_rfl) s1 ?_
                  refine regS_skip 11 117 rfl rfl (by kernel_rfl) (fun _ _ _ h => h) (by kernel_rfl) s1 ?_
                  refine regS_skip 12 118 rfl rfl (by kernel_rfl) (fun _ _ _ h => h) (by kernel_rfl) s1 ?_
                  refine regS_skip 13 119 rfl rfl (by kernel_rfl) (fun _ _ _ h => h) (by kernel_rfl) s1 ?_
                  refine regS_skip 14 120 rfl rfl (by kernel_rfl) (fun _ _ _ h => h) (by kernel_rfl) s1 ?_
                  refine regS_skip 15 121 rfl rfl (by kernel_rfl) (fun _ _ _ h => h) (by kernel_rfl) s1 ?_
                  refine regS_skip 16 122 rfl rfl (by kernel_rfl) (fun _ _ _ h => h) (by kernel_rfl) s1 ?_
                  refine regS_skip 17 123 rfl rfl (by kernel_rfl) (fun _ _ _ h => h) (by kernel_rfl) s1 ?_
                  refine regS_skip 18 124 rfl rfl (by kernel_rfl) (fun _ _ _ h => h) (by kernel_rfl) s1 ?_
                  refine regS_skip 19 125 rfl rfl (by kernel_rfl) (fun _ _ _ h => h) (by kernel_rfl) s1 ?_
                  refine regS_take 20 126 (.bool false) rfl rfl (by kernel_rfl) (fun _ _ _ h => h) (by kernel_rfl) (fun W' hs' => by go_simp) s1 ?_
                  refine regS_end (by kernel_rfl) ?_
                  simp only [Act.put, List.setIfInBounds_toArray, List.set_cons_succ, List.set_cons_zero]
                  go_wp2_with fail
                  exact ⟨⟨m + 1, by omega, by go_num, by rw [HST2.out]; go_num, bcc.trans (s1.mono bcc.size)⟩, by simp [intOf]; omega⟩
                · have hso := srt_out HND.out kk (by omega) (nm, fr) HMM.out (by rw [hX.out]; exact hmem)
                  rw [hX.out] at hso
                  obtain ⟨hxl, ⟨yn, yf⟩, hyx, hpos⟩ := hso
                  have HCF : Hid (0 < cfF (nm, fr) (yn, yf)) := hpos
                  obtain ⟨jx, hjx⟩ : ∃ jx, kk - 1 = jx := ⟨_, rfl⟩
                  rw [hjx] at hyx
                  obtain ⟨gx, ox, rfl, hgx, p1, p2⟩ := HCX.out jx _ hyx
                  have HE : Hid (∀ W', Below wc.heap.size wc W' → W'.cell? ⟨gx, ox + jx * 2, none⟩ = some (.string yn) ∧ W'.cell? ⟨gx, ox + jx * 2 + 1, none⟩ = some (.int .i64 yf)) := fun W' hb => by
                    have hbb := bcc.trans (hb.mono bcc.size)
                    exact ⟨(World.cell?_of_block (hbb.block gx hgx)).trans p1, (World.cell?_of_block (hbb.block gx hgx)).trans p2⟩
                  have hnk : ¬ ((nx : Int) < (kk : Int)) := by omega
                  have hsub : (nx : Int) - 1 = (jx : Int) := by omega
                  have hj1 : (jx : Int) < (nx : Int) := by omega
                  have hj0 : (0 : Int) ≤ (jx : Int) := by omega
                  have hw1 : IntKind.i64.wrap (jx : Int) = (jx : Int) := by rw [IntKind.wrap_i64]; omega
                  clear hgc hxl hyx hpos hjx p1 p2
                  go_wp2_with fail
                  have s0 : Below wc.heap.size wc wc.drew := below_drewN (Below.refl _ _) 1
                  refine regS_in 21 (fun W' => Below wc.heap.size wc W') mixed rfl ?_
                  refine regS_take 0 106 (.slice (some ⟨gx, ox, none⟩) nx cx) rfl rfl (by kernel_rfl) (fun _ _ _ h => h) (by kernel_rfl) (fun W' hs' => by go_simp) s0 ?_
                  refine regS_take 1 107 (.agg #[.string nm, .int .i64 fr]) rfl rfl (by kernel_rfl) (fun _ _ _ h => h) (by kernel_rfl) (fun W' hs' => by have a0 := (HD.out W' hs').cell 0; have a1 := (HD.out W' hs').cell 1; go_simp) s0 ?_
                  simp only [Act.put, List.setIfInBounds_toArray, List.set_cons_succ, List.set_cons_zero]
                  refine regS_one 2 rfl (by kernel_rfl) (by kernel_rfl) (fun K hK' => ?_)
                  go_wp2_with fail
                  refine (fcontains_any (.slice (some ⟨gx, ox, none⟩) nx cx) X nm fr wc.drew (hFx.below s0) (by omega)).mono ?_
                  rintro e W2 ⟨rfl, g2⟩
                  have s1 := s0.trans (g2.mono s0.size)
                  refine hK' _ _ s1 ?_
                  clear hK' K
                  rw [decide_eq_false hmem]
                  refine regS_take 3 109 (.bool true) rfl rfl (by kernel_rfl) (fun _ _ _ h => h) (by kernel_rfl) (fun W' hs' => by go_simp) s1 ?_
                  refine regS_take 4 110 (.bool true) rfl rfl (by kernel_rfl) (fun _ _ _ h => h) (by kernel_rfl) (fun W' hs' => by go_simp) s1 ?_
                  refine regS_take 5 111 (.slice (some ⟨gx, ox, none⟩) nx cx) rfl rfl (by kernel_rfl) (fun _ _ _ h => h) (by kernel_rfl) (fun W' hs' => by go_simp) s1 ?_
                  refine regS_take 6 112 (.int .i64 (nx : Int)) rfl rfl (by kernel_rfl) (fun _ _ _ h => h) (by kernel_rfl) (fun W' hs' => by go_simp) s1 ?_
                  refine regS_take 7 113 (.int .i64 (kk : Int)) rfl rfl (by kernel_rfl) (fun _ _ _ h => h) (by kernel_rfl) (fun W' hs' => by go_simp) s1 ?_
                  refine regS_take 8 114 (.bool false) rfl rfl (by kernel_rfl) (fun _ _ _ h => h) (by kernel_rfl) (fun W' hs' => by go_simp; omega) s1 ?_
                  refine regS_take 9 115 (.bool false) rfl rfl (by kernel_rfl) (fun _ _ _ h => h) (by kernel_rfl) (fun W' hs' => by go_simp) s1 ?_
                  refine regS_take 10 116 (.agg #[.string nm, .int .i64 fr]) rfl rfl (by kernel_rfl) (fun _ _ _ h => h) (by kernel_rfl) (fun W' hs' => by have a0 := (HD.out W' hs').cell 0; have a1 := (HD.out W' hs').cell 1; go_simp) s1 ?_
                  refine regS_take 11 117 (.slice (some ⟨gx, ox, none⟩) nx cx) rfl rfl (by kernel_rfl) (fun _ _ _ h => h) (by kernel_rfl) (fun W' hs' => by go_simp) s1 ?_
                  refine regS_take 12 118 (.slice (some ⟨gx, ox, none⟩) nx cx) rfl rfl (by kernel_rfl) (fun _ _ _ h => h) (by kernel_rfl) (fun W' hs' => by go_simp) s1 ?_
                  refine regS_take 13 119 (.int .i64 (nx : Int)) rfl rfl (by kernel_rfl) (fun _ _ _ h => h) (by kernel_rfl) (fun W' hs' => by go_simp) s1 ?_
                  refine regS_take 14 120 (.int .i64 (jx : Int)) rfl rfl (by kernel_rfl) (fun _ _ _ h => h) (by kernel_rfl) (fun W' hs' => by go_simp) s1 ?_
                  refine regS_take 15 121 (.pointer (some ⟨gx, ox + jx * 2, none⟩)) rfl rfl (by kernel_rfl) (fun _ _ _ h => h) (by kernel_rfl) (fun W' hs' => by go_simp) s1 ?_
                  refine regS_take 16 122 (.agg #[.string yn, .int .i64 yf]) rfl rfl (by kernel_rfl) (fun _ _ _ h => h) (by kernel_rfl) (fun W' hs' => by have a0 := (HE.out W' hs').1; have a1 := (HE.out W' hs').2; go_simp) s1 ?_
                  simp only [Act.put, List.setIfInBounds_toArray, List.set_cons_succ, List.set_cons_zero]
                  refine regS_one 17 rfl (by kernel_rfl) (by kernel_rfl) (fun K hK' => ?_)
                  go_wp2_with fail
                  refine (compare_any (nm, fr) (yn, yf) W2).mono ?_
                  rintro e W3 ⟨rfl, os3, rfl⟩
                  have s2 : Below wc.heap.size wc (Go.Sort.grow W2 os3) := below_grow s1 os3 s1.size
                  refine hK' _ _ s2 ?_
                  clear hK' K
                  obtain ⟨cc, hcc⟩ : ∃ cc, cfF (nm, fr) (yn, yf) = cc := ⟨_, rfl⟩
                  have hc0 : 0 < cc := by rw [← hcc]; exact HCF.out
                  rw [hcc]
                  have hcg : ¬ (cc ≤ 0) := by omega
                  refine regS_take 18 124 (.bool false) rfl rfl (by kernel_rfl) (fun _ _ _ h => h) (by kernel_rfl) (fun W' hs' => by go_simp) s2 ?_
                  refine regS_take 19 125 (.bool false) rfl rfl (by kernel_rfl) (fun _ _ _ h => h) (by kernel_rfl) (fun W' hs' => by go_simp) s2 ?_
                  refine regS_take 20 126 (.bool false) rfl rfl (by kernel_rfl) (fun _ _ _ h => h) (by kernel_rfl) (fun W' hs' => by go_simp) s2 ?_
                  refine regS_end (by kernel_rfl) ?_
                  simp only [Act.put, List.setIfInBounds_toArray, List.set_cons_succ, List.set_cons_zero]
                  go_wp2_with fail
                  exact ⟨⟨m + 1, by omega, by go_num, by rw [HST2.out]; go_num, bcc.trans (s2.mono bcc.size)⟩, by simp [intOf]; omega⟩
            · have HST2 : Hid ((fnd ys tag (xsOf (L.take (m + 1)))).length = oo) := by
                unfold Hid; rw [HST.out, if_neg htp, List.append_nil, hoo.out]
              have hno : ¬ tag.toList = [] ∧ ¬ tg.toList = tag.toList := by
                unfold tagP at htp
                rw [Bool.or_eq_true, decide_eq_true_eq, decide_eq_true_eq] at htp
                exact ⟨fun e => htp (Or.inl e), fun e => htp (Or.inr e)⟩
              obtain ⟨hgo, hgo2⟩ := hno
              have hge : tag.toList.isEmpty = false := by simpa using hgo
              have hg2 : (tg.toList == tag.toList) = false := by simpa using hgo2
              clear htp HST HIN hyr hFx
              go_wp2_with fail
              exact ⟨⟨m + 1, by omega, by go_num, by rw [HST2.out], br⟩, by simp [intOf]; omega⟩
          · have hm' : NL = m := by omega
            subst hm'
            have HOFL : Hid ((fnd ys tag (xsOf (L.take NL))).length = (fnd ys tag (xsOf L)).length) := by unfold Hid; rw [← hNL, List.take_length]
            rw [HOFL.out]
            have hofl : (fnd ys tag (xsOf L)).length ≤ 65 := by rw [← HOFL.out]; exact HFL.out NL
            have hmink : min (kk : Int) ((fnd ys tag (xsOf L)).length : Int) = (nx : Int) := by rw [← hnx, ← hX.out, List.length_take, srt_len]; omega
            clear HFL HOFL hlt hm
            obtain ⟨of, hof⟩ : ∃ of, (fnd ys tag (xsOf L)).length = of := ⟨_, rfl⟩
            rw [hof] at hmink hofl
            rw [hof]
            clear hof
            have b6 : Below w.heap.size w wr := b4.trans (br.mono b4.size)
            have hIr := hIts4.below br
            have hyr := hy4.below br
            go_wp2_with fail
            refine (pick_any less kk wr (by omega) (by omega)).mono ?_
            rintro e w6 ⟨j, rfl, hj, hw6⟩
            obtain rfl : wr = w6 := hw6.symm
            clear hw6
            obtain ⟨lj, hlj⟩ : ∃ lj : Nat, j + 1 = lj := ⟨_, rfl⟩
            have hadd : 1 + (j : Int) = (lj : Int) := by omega
            have hw1 : IntKind.i64.wrap (lj : Int) = (lj : Int) := by rw [IntKind.wrap_i64]; omega
            have hlk : lj ≤ kk := by omega
            have hlj1 : 1 ≤ lj := by omega
            have hask2 : askB 2 ys (lj : Int) = true := by
              have h0 := HASK.out
              unfold askB at h0 ⊢
              simp only [Bool.and_eq_true, decide_eq_true_eq] at h0 ⊢
              exact ⟨⟨⟨h0.1.1.1, by omega⟩, by omega⟩, h0.2⟩
            have HT2 := top_ok 2 al cl L b d ys (lj : Int) tag wr hIr (by omega) hyr hym hask2 (fun x hx => ⟨(HNM.out x hx).1, by rw [(HNM.out x hx).2]; omega⟩)
            rw [hNL] at HT2
            have HTT : Hid _ := HT2
            clear HT2 hj hlj
            go_wp2_with fail
            refine Calls.mono HTT.out ?_
            rintro e w7 ⟨⟨v2, rfl, hF2⟩, g7⟩
            rw [Int.toNat_natCast] at hF2
            have b7 := b6.trans (g7.mono b6.size)
            have b47 := br.trans (g7.mono br.size)
            have hI7 := hIr.below g7
            have hy7 := hyr.below g7
            clear HTT g7 hIr hyr
            by_cases hn0 : NL = 0
            · subst hn0
              have hL0 : L = [] := List.eq_nil_of_length_eq_zero hNL
              subst hL0
              have hv := HNIL.out rfl
              injection hv with hv1 hv2 hv3
              subst hv1 hv3
              have HT3 := top_ok 2 none 0 ([] : List ItD) b d ys (kk : Int) tag w7 (fun i x hx => by simp at hx) (show 0 ≤ 100 by decide) hy7 hym HASK.out (fun x hx => by cases hx)
              have HTT3 : Hid _ := HT3
              clear HT3
              go_wp2_with fail
              refine (iclone_nil w7).mono ?_
              rintro e w8 ⟨rfl, hw8⟩
              obtain rfl : w7 = w8 := hw8.symm
              go_wp2_with fail
              refine (irev_nil w7).mono ?_
              rintro e w8 ⟨rfl, hw9⟩
              obtain rfl : w7 = w8 := hw9.symm
              go_wp2_with fail
              refine Calls.mono HTT3.out ?_
              rintro e wz ⟨⟨v3, rfl, hF3⟩, gz⟩
              rw [Int.toNat_natCast] at hF3
              rw [hX.out] at hF3
              have b9z : Below w7.heap.size w7 wz := gz
              have bz := b7.trans (b9z.mono b7.size)
              have hF2z := hF2.below b9z
              have hFxz := HFX.out.below (b47.trans (b9z.mono b47.size))
              obtain ⟨q, hq⟩ : ∃ q, min lj nx = q := ⟨_, rfl⟩
              have hminq : min (lj : Int) (nx : Int) = (q : Int) := by omega
              have hqn : q ≤ nx := by omega
              have hqc : q ≤ cx := by omega
              have hcut := hFxz.cut q hqn
              have e2 : X.take q = (srt (fnd ys tag (xsOf ([] : List ItD)))).take lj := by
                have h0 := take_less (srt (fnd ys tag (xsOf ([] : List ItD)))) kk lj hlk
                rw [hX.out, hnx, hq] at h0
                exact h0
              rw [e2] at hcut
              have HE1 := feq_any v2 (.slice ax q cx) _ wz hF2z hcut (by rw [List.length_take]; omega)
              have HE2 : ∀ n, _ := fun n => feq_any v3 (.slice ax nx cx) X (wz.drewN n) (hF3.below (below_drewN (Below.refl _ _) n)) (hFxz.below (below_drewN (Below.refl _ _) n)) (by omega)
              have HH1 : Hid _ := HE1
              have HH2 : Hid _ := HE2
              clear HE1 HE2 hF3 hF2z hFxz hcut e2 hF2 gz
              go_wp2_with fail
              refine Calls.mono HH1.out ?_
              rintro e wy ⟨rfl, n1, rfl⟩
              go_wp2_with fail
              refine Calls.mono (HH2.out n1) ?_
              rintro e wy2 ⟨rfl, n2, rfl⟩
              go_wp2_with fail
              go_ret
              exact ⟨rfl, below_drewN bz (n1 + n2)⟩
            · obtain ⟨g, o, rfl, _⟩ := hI7 0 L[0] (List.getElem?_eq_getElem (by omega))
              have HC := iclone_any g o cl L w7 hI7 (by omega) (by omega)
              rw [hNL] at HC
              have HCC : Hid _ := HC
              clear HC
              go_wp2_with fail
              refine Calls.mono HCC.out ?_
              rintro e w8 ⟨⟨g', c', rfl, ow8⟩, g8⟩
              have hok8 : ∀ x ∈ L, x.Ok w8 := fun x hx => by
                obtain ⟨i, hi⟩ := List.getElem?_of_mem hx
                obtain ⟨_, _, _, _, _, _, q⟩ := (hI7.below g8) i x hi
                exact q
              have hb7w := b7.size
              have HR := irev_any w7.heap.size g' c' L w8 (by rw [hNL]; exact ow8) (by omega) (by omega) hok8 (fun x hx b' o' e => by
                have h1 := HLOW.out x hx b' o' e (fun hn => by have := (HNM.out x hx).2; rw [hn] at this; cases this)
                have h2 := (row_cap ow8).2.2.1
                omega)
              rw [hNL] at HR
              have HRR : Hid _ := HR
              clear HR HCC hok8 hb7w
              go_wp2_with fail
              refine Calls.mono HRR.out ?_
              rintro e w9 ⟨rfl, hI9, g9⟩
              have g89 : Below w7.heap.size w7 w9 := g8.trans g9
              have HT3 := top_ok 2 (some ⟨g', 0, none⟩) c' L.reverse b d ys (kk : Int) tag w9 hI9 (by rw [List.length_reverse]; omega) (hy7.below g89) hym HASK.out (fun x hx => by
                rw [List.mem_reverse] at hx
                exact ⟨(HNM.out x hx).1, by rw [(HNM.out x hx).2]; omega⟩)
              rw [List.length_reverse, hNL] at HT3
              have HTT3 : Hid _ := HT3
              clear HT3 HRR hI9 g8 g9 ow8
              go_wp2_with fail
              refine Calls.mono HTT3.out ?_
              rintro e wz ⟨⟨v3, rfl, hF3⟩, gz⟩
              rw [Int.toNat_natCast] at hF3
              rw [srt_reverse, hX.out] at hF3
              have b9z : Below w7.heap.size w7 wz := g89.trans (gz.mono g89.size)
              have bz := b7.trans (b9z.mono b7.size)
              have hF2z := hF2.below b9z
              have hFxz := HFX.out.below (b47.trans (b9z.mono b47.size))
              obtain ⟨q, hq⟩ : ∃ q, min lj nx = q := ⟨_, rfl⟩
              have hminq : min (lj : Int) (nx : Int) = (q : Int) := by omega
              have hqn : q ≤ nx := by omega
              have hqc : q ≤ cx := by omega
              have hcut := hFxz.cut q hqn
              have e2 : X.take q = (srt (fnd ys tag (xsOf L))).take lj := by
                have h0 := take_less (srt (fnd ys tag (xsOf L))) kk lj hlk
                rw [hX.out, hnx, hq] at h0
                exact h0
              rw [e2] at hcut
              have HE1 := feq_any v2 (.slice ax q cx) _ wz hF2z hcut (by rw [List.length_take]; omega)
              have HE2 : ∀ n, _ := fun n => feq_any v3 (.slice ax nx cx) X (wz.drewN n) (hF3.below (below_drewN (Below.refl _ _) n)) (hFxz.below (below_drewN (Below.refl _ _) n)) (by omega)
              have HH1 : Hid _ := HE1
              have HH2 : Hid _ := HE2
              clear HE1 HE2 hF3 hF2z hFxz hcut e2 hF2 gz
              go_wp2_with fail
              refine Calls.mono HH1.out ?_
              rintro e wy ⟨rfl, n1, rfl⟩
              go_wp2_with fail
              refine Calls.mono (HH2.out n1) ?_
              rintro e wy2 ⟨rfl, n2, rfl⟩
              go_wp2_with fail
              go_ret
              exact ⟨rfl, below_drewN bz (n1 + n2)⟩
set_option maxRecDepth 100000 in
theorem order_any (a : Option Addr) (c : Nat) (ds : List ItD) (b : Option Addr) (d : Nat) (ys : List Int) (k less : Int) (tag : ByteArray) (w : World) (h : Its w a ds) (hl : ds.length ≤ maxLen) (hy : Ints w b ys) :
    Calls Try.prog 3 #[.slice a ds.length c, .slice b ys.length d, .int .i64 k, .int .i64 less, .string tag] w fun e w' => e = .returned (.bool true) ∧ Below w.heap.size w w' := by
  cases hheld : heldB (xsOf ds) with
  | false =>
    go_enter Try.func3, Try.ntmps3
    go_wp2_with fail
    refine (held_any a c ds w h hl).mono ?_
    rintro e w1 ⟨rfl, g1⟩
    rw [hheld]
    go_wp2_with fail
    go_ret
    exact ⟨rfl, g1⟩
  | true =>
    have hl65 : ds.length ≤ 65 := by
      have h0 := hheld
      unfold heldB at h0
      rw [Bool.and_eq_true, decide_eq_true_eq] at h0
      have h1 : (xsOf ds).length = ds.length := by simp [xsOf]
      omega
    by_cases h12 : ys.length ≤ 12
    · by_cases h40 : tag.size ≤ 40
      · exact order_main a c ds b d ys k less tag w h hl65 hheld hy h12 h40
      · have h40' : (40 : Int) < (tag.size : Int) := by omega
        have h12' : ¬ (12 : Int) < (ys.length : Int) := by omega
        go_enter Try.func3, Try.ntmps3
        go_wp2_with fail
        refine (held_any a c ds w h hl).mono ?_
        rintro e w1 ⟨rfl, g1⟩
        rw [hheld]
        go_wp2_with fail
        go_ret
        exact ⟨rfl, g1⟩
    · have h12' : (12 : Int) < (ys.length : Int) := by omega
      go_enter Try.func3, Try.ntmps3
      go_wp2_with fail
      refine (held_any a c ds w h hl).mono ?_
      rintro e w1 ⟨rfl, g1⟩
      rw [hheld]
      go_wp2_with fail
      go_ret
      exact ⟨rfl, g1⟩
end Go.Proofs.Ytniocohmhgcibaa.Nr
