/-
  Part of the proof: the reference's Read, lose, Sync and Crash are walked.
-/
import Derived.Test.YtccnnfllgdplhaaDoorG3
namespace Go.Proofs.YtccnnfllgdplhaaDoor
open Go.RowKit
theorem row_form {w : World} {e : TypeId} {v : Value} {n : Nat} {xs : List Value} (h : w.ownsRow 0 e 1 v n xs) : ∃ a cap, v = .slice a n cap ∧ n ≤ maxLen ∧ ∀ i u, xs[i]? = some u → ∃ g, a = some ⟨g, 0, none⟩ ∧ v.ownBlock = some g ∧ w.cell? ⟨g, i, none⟩ = some u ∧ w.frozen? ⟨g, i, none⟩ = false := by
  obtain ⟨h1, h2⟩ := h
  rcases h2 with ⟨h2, h3⟩ | ⟨g, cap, cur, hv, hg, hh, hc1, hc2, hs, ht⟩
  · refine ⟨none, 0, by rw [h2, h3], by rw [h3]; exact Nat.zero_le _, fun i u hu => ?_⟩
    have hx : xs = [] := List.eq_nil_of_length_eq_zero (by rw [h1, h3])
    rw [hx] at hu; cases hu
  · refine ⟨some ⟨g, 0, none⟩, cap, hv, Nat.le_trans hc1 hc2, fun i u hu => ⟨g, rfl, by rw [hv]; rfl, ?_, ?_⟩⟩
    · have hb : Blk w g cur e := hh
      rw [hb.cell]
      have hi := (List.getElem?_eq_some_iff.1 hu).1
      rw [← ht, List.getElem?_take, if_pos (by omega)] at hu
      simpa using hu
    · have hb : Blk w g cur e := hh
      exact hb.frozen i
theorem row_set {w : World} {e : TypeId} {v : Value} {n : Nat} {xs : List Value} (h : w.ownsRow 0 e 1 v n xs) (g : Nat) (hg : v.ownBlock = some g) (k : Nat) (hk : k < n) (u : Value) : (w.setCell ⟨g, k, none⟩ u).ownsRow 0 e 1 v n (xs.set k u) := by
  obtain ⟨h1, h2⟩ := h
  rcases h2 with ⟨h2, h3⟩ | ⟨g', cap, cur, hv, hg', hh, hc1, hc2, hs, ht⟩
  · omega
  · rw [hv] at hg; simp only [Value.ownBlock, Option.some.injEq] at hg; subst hg
    refine ⟨by rw [List.length_set]; exact h1, Or.inr ⟨g', cap, cur.setIfInBounds k u, hv, hg', ?_, hc1, hc2, by simpa using hs, ?_⟩⟩
    · have hb : Blk w g' cur e := hh
      exact hb.set k u
    · rw [Array.toList_setIfInBounds, ← ht]
      apply List.ext_getElem?; intro i
      simp only [List.getElem?_take, List.getElem?_set]
      by_cases h4 : i < n * 1
      · by_cases h5 : k = i
        · subst h5
          have h6 : k < cur.toList.length := by rw [Array.length_toList]; omega
          rw [if_pos h4, if_pos rfl, if_pos h6, if_pos rfl, if_pos (by rw [List.length_take]; omega)]
        · simp [h5]
      · have h5 : ¬ (k = i) := by omega
        simp [h5]
theorem suL_put (S : Nat → Nat → UInt8) (k : Nat) (g : Nat → UInt8) : (suL S).set k (.string (sb 256 g)) = suL (putS S k g) := by
  unfold suL imgL
  simp only [List.map_map]
  apply List.ext_getElem?; intro i
  simp only [List.getElem?_set, List.getElem?_map, List.length_map, List.length_range]
  by_cases hi : i < 66
  · by_cases hk : k = i
    · subst hk; simp [hi, putS]
    · simp [hk, hi, putS, Ne.symm hk]
  · by_cases hk : k = i
    · subst hk; simp [hi]
    · simp [hk, hi]
theorem suL_get (S : Nat → Nat → UInt8) (k : Nat) (hk : k < 66) : (suL S)[k]? = some (.string (sb 256 (S k))) := by simp [suL, imgL, hk]
theorem atL_get (W : List (Nat × (Nat → UInt8))) (i : Nat) (p : Nat × (Nat → UInt8)) (h : W[i]? = some p) : (atL W)[i]? = some (.int .i64 (p.1 : Int)) := by simp [atL, h]
theorem whL_get (W : List (Nat × (Nat → UInt8))) (i : Nat) (p : Nat × (Nat → UInt8)) (h : W[i]? = some p) : (whL W)[i]? = some (.string (sb 256 p.2)) := by simp [whL, h]
/-- One block is sure to be another one. -/
theorem RDev.putS {w : World} {O : Nat → Prop} {r : Nat} {S : Nat → Nat → UInt8} {W : List (Nat × (Nat → UInt8))} {F : Int} {a b c : Value} (h : RDev w O r S W F a b c) (g : Nat) (hg : a.ownBlock = some g) (k : Nat) (hk : k < 66) (f : Nat → UInt8) :
    RDev (w.setCell ⟨g, k, none⟩ (.string (sb 256 f))) O r (putS S k f) W F a b c := by
  have u := setCell_upd w g k (.string (sb 256 f))
  exact ⟨h.blk.upd u (Ne.symm (h.oa g hg).2), by rw [← suL_put]; exact row_set h.sure g hg k hk _, ownsRow_same h.ats fun q hq => u.block q (fun e => by subst e; exact h.ab _ hg hq), ownsRow_same h.whats fun q hq => u.block q (fun e => by subst e; exact h.ac _ hg hq), h.own, h.oa, h.ob, h.oc, h.ab, h.ac, h.bc, h.at', h.bot, h.top⟩
theorem rread_range (r : Nat) (at' : Int) (w : World) (h : ¬ (0 ≤ at' ∧ at' < 66)) :
    Calls Tryd.prog 44 #[.pointer (some ⟨r, 0, none⟩), .int .i64 at'] w fun e w' => e = .returned (.tuple #[.string ⟨#[]⟩, .int .i64 2]) ∧ w' = w := by
  have d : decide (0 ≤ at' ∧ at' < 66) = false := decide_eq_false h
  go_enter Tryd.func44, Tryd.ntmps44
  go_wp2_with (go_at_call 71; refine (in_any _ _).mono ?_; rintro e w' ⟨rfl, rfl⟩; rw [d])
  go_ret2
  exact ⟨rfl, rfl⟩
set_option maxHeartbeats 400000 in
theorem rread_ok (r : Nat) (O : Nat → Prop) (S : Nat → Nat → UInt8) (W : List (Nat × (Nat → UInt8))) (F : Int) (a b c : Value) (k : Nat) (w : World) (hD : RDev w O r S W F a b c) (hk : k < 66) (hW : W.length ≤ 1000) :
    Calls Tryd.prog 44 #[.pointer (some ⟨r, 0, none⟩), .int .i64 (k : Int)] w fun e w' => e = .returned (.tuple #[.string (sb 256 (readF S W k)), .int .i64 0]) ∧ w' = w := by
  have d : decide (0 ≤ (k : Int) ∧ (k : Int) < 66) = true := decide_eq_true (by omega)
  obtain ⟨aa, ca, rfl, _, ha⟩ := row_form hD.sure
  obtain ⟨ab, cb, rfl, _, hb⟩ := row_form hD.ats
  obtain ⟨ac, cc, rfl, _, hc⟩ := row_form hD.whats
  obtain ⟨ga, rfl, _, cS, _⟩ := ha k _ (suL_get S k hk)
  have c0 := hD.c0
  have c1 := hD.c1
  have c2 := hD.c2
  have hk' : (k : Int) < 66 := by omega
  go_enter Tryd.func44, Tryd.ntmps44
  go_wp2_with fail
  refine (in_any _ _).mono ?_
  intro e wx hh
  rw [hh.1, hh.2, d]
  clear hh
  go_wp2_with fail
  clear c0 c1 cS
  go_loop [6, 24] (fun s i => ∃ n : Nat, n ≤ W.length ∧ i = .int .i64 n ∧ s = .string (sb 256 (readF S (W.take n) k))) (fun _ i => W.length - (intOf i).toNat)
  case atStart => exact ⟨0, by omega, rfl, rfl⟩
  case round =>
    obtain ⟨n, hn, rfl, rfl⟩ := hrel
    by_cases hlt : n < W.length
    · have hp : W[n]? = some W[n] := List.getElem?_eq_getElem hlt
      obtain ⟨gb, rfl, _, cA, _⟩ := hb n _ (atL_get W n _ hp)
      obtain ⟨gc, rfl, _, cW, _⟩ := hc n _ (whL_get W n _ hp)
      have hrd : Hid (readF S (W.take (n + 1)) k = if W[n].1 = k then W[n].2 else readF S (W.take n) k) := by unfold Hid; rw [List.take_add_one, hp]; simp only [Option.toList_some]; rw [readF_snoc]
      have hlt' : (n : Int) < (W.length : Int) := by omega
      generalize W[n] = p at *
      by_cases hpk : p.1 = k
      · have hpe : ((p.1 : Int) == (k : Int)) = true := by simp [hpk]
        go_wp2_with fail
        go_light
        refine ⟨⟨n + 1, by omega, by go_num, ?_⟩, by simp [intOf]; omega⟩
        rw [hrd.out, if_pos hpk]
      · have hpe : ((p.1 : Int) == (k : Int)) = false := by rw [beq_eq_false_iff_ne]; omega
        go_wp2_with fail
        go_light
        refine ⟨⟨n + 1, by omega, by go_num, ?_⟩, by simp [intOf]; omega⟩
        rw [hrd.out, if_neg hpk]
    · have hn' : n = W.length := by omega
      subst hn'
      go_wp2_with fail
      go_ret2
      exact ⟨rfl, rfl⟩
theorem sync1_any (i : Int) (w : World) : Calls Tryd.prog 85 #[.int .i64 i] w fun e w' => e = .returned (.bool true) ∧ w' = w := by
  go_enter Tryd.func85, Tryd.ntmps85
  go_wp2
  go_ret
  exact ⟨rfl, rfl⟩
set_option maxRecDepth 100000 in
set_option maxHeartbeats 1000000 in
theorem lose_all (r : Nat) (O : Nat → Prop) (S : Nat → Nat → UInt8) (W : List (Nat × (Nat → UInt8))) (F : Int) (a b c : Value) (w : World) (hD : RDev w O r S W F a b c) (hW : W.length ≤ 1000) :
    Calls Tryd.prog 84 #[.pointer (some ⟨r, 0, none⟩), .func (.func 85) #[] #[]] w fun e w' => e = .returned (.tuple #[]) ∧ RDev w' O r (loseS S W (fun _ => true) W.length) [] F a (.slice none 0 0) (.slice none 0 0) ∧ Chg w w' O := by
  obtain ⟨ab, cb, hbv, _, _⟩ := row_form hD.ats
  obtain ⟨ac, cc, hcv, _, _⟩ := row_form hD.whats
  obtain ⟨aa, ca, hav, _, _⟩ := row_form hD.sure
  subst hbv hcv hav
  have c1 := hD.c1
  go_enter Tryd.func84, Tryd.ntmps84
  go_wp2_with fail
  clear c1
  go_loopw [11] (fun i wr => ∃ n : Nat, n ≤ W.length ∧ i = .int .i64 n ∧ RDev wr O r (loseS S W (fun _ => true) n) W F (.slice aa 66 ca) (.slice ab W.length cb) (.slice ac W.length cc) ∧ Chg w wr O) (fun i _ => W.length - (intOf i).toNat)
  case atStart => exact ⟨0, by omega, rfl, hD, Chg.refl _ _⟩
  case round =>
    obtain ⟨n, hn, rfl, hD1, HC⟩ := hrel
    by_cases hlt : n < W.length
    · have hp : W[n]? = some W[n] := List.getElem?_eq_getElem hlt
      have hat := hD1.at' W[n] (List.getElem_mem hlt)
      obtain ⟨ab', cb', hv1, _, hb⟩ := row_form hD1.ats
      obtain ⟨ac', cc', hv2, _, hc⟩ := row_form hD1.whats
      obtain ⟨aa', ca', hv3, _, ha⟩ := row_form hD1.sure
      obtain ⟨gb, eb, _, cA, _⟩ := hb n _ (atL_get W n _ hp)
      obtain ⟨gc, ec, _, cW, _⟩ := hc n _ (whL_get W n _ hp)
      obtain ⟨ga, ea, oA, cS, fS⟩ := ha W[n].1 _ (suL_get _ _ hat)
      obtain rfl : ab = some ⟨gb, 0, none⟩ := by injection hv1 with e1; rw [e1, eb]
      obtain rfl : ac = some ⟨gc, 0, none⟩ := by injection hv2 with e1; rw [e1, ec]
      obtain rfl : aa = some ⟨ga, 0, none⟩ := by injection hv3 with e1; rw [e1, ea]
      clear hv1 hv2 hv3 hb hc ha eb ec ea
      have hlt' : (n : Int) < (W.length : Int) := by omega
      generalize W[n] = p at *
      have d0 := hD1.c0
      have d2 := hD1.c2
      have hp0 : (0 : Int) ≤ (p.1 : Int) := by omega
      have hp1 : (p.1 : Int) < 66 := by omega
      go_wp2_with fail
      refine (sync1_any _ _).mono ?_
      intro e wx hh
      rw [hh.1, hh.2]
      clear hh
      go_wp2_with fail
      refine region_s [(0, true), (1, true), (2, true), (3, false), (4, true), (5, true), (6, true), (7, true), (8, false), (9, true), (10, true), (11, false), (12, true)] [] [13] (fun w' => w'.cell? ⟨r, 0, none⟩ = some (.slice (some ⟨ga, 0, none⟩) 66 ca) ∧ w'.cell? ⟨r, 2, none⟩ = some (.slice (some ⟨gc, 0, none⟩) W.length cc) ∧ w'.cell? ⟨gc, n, none⟩ = some (.string (sb 256 p.2))) mixed (by kernel_rfl) (fun _ _ _ _ _ h => h) ⟨d0, d2, cW⟩ ?_
      refine lead_pure _ rfl _ rfl rfl _ (fun w' => by go_simp; rfl) ?_
      refine lead_pure _ rfl _ rfl rfl _ (fun w' => by go_simp; rfl) ?_
      refine lead_pure _ rfl _ rfl rfl _ (fun w' => by go_simp; rfl) ?_
      refine lead_read _ rfl _ rfl rfl (.slice (some ⟨ga, 0, none⟩) 66 ca) (fun w' hS => by obtain ⟨q1, _, _⟩ := hS; go_simp) ?_
      refine lead_pure _ rfl _ rfl rfl _ (fun w' => by go_simp; rfl) ?_
      refine lead_pure _ rfl _ rfl rfl _ (fun w' => by go_simp; rfl) ?_
      refine lead_pure _ rfl _ rfl rfl _ (fun w' => by go_simp; rfl) ?_
      refine lead_pure _ rfl _ rfl rfl _ (fun w' => by go_simp; rfl) ?_
      refine lead_read _ rfl _ rfl rfl (.slice (some ⟨gc, 0, none⟩) W.length cc) (fun w' hS => by obtain ⟨_, q1, _⟩ := hS; go_simp) ?_
      refine lead_pure _ rfl _ rfl rfl _ (fun w' => by go_simp; rfl) ?_
      refine lead_pure _ rfl _ rfl rfl (.pointer (some ⟨gc, n, none⟩)) (fun w' => by go_simp) ?_
      refine lead_read _ rfl _ rfl rfl (.string (sb 256 p.2)) (fun w' hS => by obtain ⟨_, _, q1⟩ := hS; go_simp) ?_
      refine lead_pure _ rfl _ rfl rfl (.pointer (some ⟨ga, p.1, none⟩)) (fun w' => by go_simp) ?_
      simp only [lead_nil_eq, mid_nil_eq]
      simp only [Act.put, List.setIfInBounds_toArray, List.set_cons_succ, List.set_cons_zero, List.filterMap_cons, List.getElem?_toArray, List.getElem?_cons_succ, List.getElem?_cons_zero, List.filterMap_nil]
      have hD2 := (hD1.drewN 1).putS ga oA p.1 hat p.2
      have C2 := (HC.drewN 1).setCell (j := p.1) (Or.inl (hD1.oa ga oA).1) (.string (sb 256 p.2))
      go_wp2_with fail
      go_light
      refine ⟨⟨n + 1, by omega, by go_num, ?_, C2⟩, by simp [intOf]; omega⟩
      rw [loseS_yes (kp := fun _ => true) hp rfl]; exact hD2
    · have hn' : n = W.length := by omega
      subst hn'
      have d1 := hD1.c1
      have d2 := hD1.c2
      have f1 := hD1.blk.frozen 1
      have f2 := hD1.blk.frozen 2
      go_wp2_with fail
      go_end0
      exact ⟨rfl, hD1.clear, (HC.setCell (Or.inl hD1.own) _).setCell (Or.inl hD1.own) _⟩
theorem crash1_any (n Bk : Nat) (ka : Option Addr) (kc : Nat) (ks : List Bool) (w : World) (hBk : Blk w Bk #[.slice ka ks.length kc] 54) (_hkl : ks.length ≤ 100000) (hks : ∀ x, ks[n]? = some x → ∃ g o, ka = some ⟨g, o, none⟩ ∧ w.cell? ⟨g, o + n, none⟩ = some (.bool x)) :
    Calls Tryd.prog 86 #[.int .i64 (n : Int), .pointer (some ⟨Bk, 0, none⟩)] w fun e w' => e = .returned (.bool (ks.getD n false)) ∧ w' = w := by
  have c0 := hBk.cell 0
  by_cases h : n < ks.length
  · obtain ⟨g, o, rfl, hc⟩ := hks ks[n] (List.getElem?_eq_getElem h)
    have e : ks.getD n false = ks[n] := by rw [List.getD_eq_getElem?_getD, List.getElem?_eq_getElem h]; rfl
    rw [e]
    clear e
    generalize ks[n] = x at *
    have h' : (n : Int) < (ks.length : Int) := by omega
    go_enter Tryd.func86, Tryd.ntmps86
    go_wp2
    go_ret
    exact ⟨rfl, rfl⟩
  · have e : ks.getD n false = false := by rw [List.getD_eq_getElem?_getD, List.getElem?_eq_none (by omega)]; rfl
    rw [e]
    have h' : decide ((n : Int) < (ks.length : Int)) = false := by simp; omega
    go_enter Tryd.func86, Tryd.ntmps86
    go_wp2
    go_ret
    exact ⟨rfl, rfl⟩
set_option maxRecDepth 100000 in
set_option maxHeartbeats 1000000 in
theorem lose_keeps (r : Nat) (O : Nat → Prop) (S : Nat → Nat → UInt8) (W : List (Nat × (Nat → UInt8))) (F : Int) (a b c : Value) (w : World) (hD : RDev w O r S W F a b c) (hW : W.length ≤ 1000) (Bk : Nat) (ka : Option Addr) (kc : Nat) (ks : List Bool) (hBk : Blk w Bk #[.slice ka ks.length kc] 54) (nBk : ¬ O Bk) (hkl : ks.length ≤ 100000) (hks : ∀ i x, ks[i]? = some x → ∃ g o, ka = some ⟨g, o, none⟩ ∧ g < w.heap.size ∧ ¬ O g ∧ w.cell? ⟨g, o + i, none⟩ = some (.bool x)) :
    Calls Tryd.prog 84 #[.pointer (some ⟨r, 0, none⟩), .func (.func 86) #[] #[.pointer (some ⟨Bk, 0, none⟩)]] w fun e w' => e = .returned (.tuple #[]) ∧ RDev w' O r (loseS S W (fun i => ks.getD i false) W.length) [] F a (.slice none 0 0) (.slice none 0 0) ∧ Chg w w' O := by
  obtain ⟨ab, cb, hbv, _, _⟩ := row_form hD.ats
  obtain ⟨ac, cc, hcv, _, _⟩ := row_form hD.whats
  obtain ⟨aa, ca, hav, _, _⟩ := row_form hD.sure
  subst hbv hcv hav
  have c1 := hD.c1
  go_enter Tryd.func84, Tryd.ntmps84
  go_wp2_with fail
  clear c1
  go_loopw [11] (fun i wr => ∃ n : Nat, n ≤ W.length ∧ i = .int .i64 n ∧ RDev wr O r (loseS S W (fun i => ks.getD i false) n) W F (.slice aa 66 ca) (.slice ab W.length cb) (.slice ac W.length cc) ∧ Chg w wr O) (fun i _ => W.length - (intOf i).toNat)
  case atStart => exact ⟨0, by omega, rfl, hD, Chg.refl _ _⟩
  case round =>
    obtain ⟨n, hn, rfl, hD1, HC⟩ := hrel
    by_cases hlt : n < W.length
    · have hp : W[n]? = some W[n] := List.getElem?_eq_getElem hlt
      have hat := hD1.at' W[n] (List.getElem_mem hlt)
      obtain ⟨ab', cb', hv1, _, hb⟩ := row_form hD1.ats
      obtain ⟨ac', cc', hv2, _, hc⟩ := row_form hD1.whats
      obtain ⟨aa', ca', hv3, _, ha⟩ := row_form hD1.sure
      obtain ⟨gb, eb, _, cA, _⟩ := hb n _ (atL_get W n _ hp)
      obtain ⟨gc, ec, _, cW, _⟩ := hc n _ (whL_get W n _ hp)
      obtain ⟨ga, ea, oA, cS, fS⟩ := ha W[n].1 _ (suL_get _ _ hat)
      obtain rfl : ab = some ⟨gb, 0, none⟩ := by injection hv1 with e1; rw [e1, eb]
      obtain rfl : ac = some ⟨gc, 0, none⟩ := by injection hv2 with e1; rw [e1, ec]
      obtain rfl : aa = some ⟨ga, 0, none⟩ := by injection hv3 with e1; rw [e1, ea]
      clear hv1 hv2 hv3 hb hc ha eb ec ea
      have hlt' : (n : Int) < (W.length : Int) := by omega
      generalize W[n] = p at *
      have d0 := hD1.c0
      have d2 := hD1.c2
      have hp0 : (0 : Int) ≤ (p.1 : Int) := by omega
      have hp1 : (p.1 : Int) < 66 := by omega
      have hBk1 := hBk.chg HC nBk
      have hks1 : ∀ x, ks[n]? = some x → ∃ g o, ka = some ⟨g, o, none⟩ ∧ wr.cell? ⟨g, o + n, none⟩ = some (.bool x) := fun x hx => by
        obtain ⟨g, o, h1, h2, h3, h4⟩ := hks n x hx
        exact ⟨g, o, h1, (World.cell?_of_block (HC.block g h2 h3)).trans h4⟩
      go_wp2_with fail
      refine (crash1_any n Bk ka kc ks _ hBk1 hkl hks1).mono ?_
      intro e wx hh
      rw [hh.1, hh.2]
      clear hh hks1 hBk1
      cases HK0 : ks.getD n false with
      | false =>
        have HK : Hid (ks.getD n false = false) := HK0
        clear HK0
        go_wp2_with fail
        go_light
        refine ⟨⟨n + 1, by omega, by go_num, ?_, HC⟩, by simp [intOf]; omega⟩
        rw [loseS_no (kp := fun i => ks.getD i false) HK.out]; exact hD1
      | true =>
        have HK : Hid (ks.getD n false = true) := HK0
        clear HK0
        go_wp2_with fail
        refine region_s [(0, true), (1, true), (2, true), (3, false), (4, true), (5, true), (6, true), (7, true), (8, false), (9, true), (10, true), (11, false), (12, true)] [] [13] (fun w' => w'.cell? ⟨r, 0, none⟩ = some (.slice (some ⟨ga, 0, none⟩) 66 ca) ∧ w'.cell? ⟨r, 2, none⟩ = some (.slice (some ⟨gc, 0, none⟩) W.length cc) ∧ w'.cell? ⟨gc, n, none⟩ = some (.string (sb 256 p.2))) mixed (by kernel_rfl) (fun _ _ _ _ _ h => h) ⟨d0, d2, cW⟩ ?_
        refine lead_pure _ rfl _ rfl rfl _ (fun w' => by go_simp; rfl) ?_
        refine lead_pure _ rfl _ rfl rfl _ (fun w' => by go_simp; rfl) ?_
        refine lead_pure _ rfl _ rfl rfl _ (fun w' => by go_simp; rfl) ?_
        refine lead_read _ rfl _ rfl rfl (.slice (some ⟨ga, 0, none⟩) 66 ca) (fun w' hS => by obtain ⟨q1, _, _⟩ := hS; go_simp) ?_
        refine lead_pure _ rfl _ rfl rfl _ (fun w' => by go_simp; rfl) ?_
        refine lead_pure _ rfl _ rfl rfl _ (fun w' => by go_simp; rfl) ?_
        refine lead_pure _ rfl _ rfl rfl _ (fun w' => by go_simp; rfl) ?_
        refine lead_pure _ rfl _ rfl rfl _ (fun w' => by go_simp; rfl) ?_
        refine lead_read _ rfl _ rfl rfl (.slice (some ⟨gc, 0, none⟩) W.length cc) (fun w' hS => by obtain ⟨_, q1, _⟩ := hS; go_simp) ?_
        refine lead_pure _ rfl _ rfl rfl _ (fun w' => by go_simp; rfl) ?_
        refine lead_pure _ rfl _ rfl rfl (.pointer (some ⟨gc, n, none⟩)) (fun w' => by go_simp) ?_
        refine lead_read _ rfl _ rfl rfl (.string (sb 256 p.2)) (fun w' hS => by obtain ⟨_, _, q1⟩ := hS; go_simp) ?_
        refine lead_pure _ rfl _ rfl rfl (.pointer (some ⟨ga, p.1, none⟩)) (fun w' => by go_simp) ?_
        simp only [lead_nil_eq, mid_nil_eq]
        simp only [Act.put, List.setIfInBounds_toArray, List.set_cons_succ, List.set_cons_zero, List.filterMap_cons, List.getElem?_toArray, List.getElem?_cons_succ, List.getElem?_cons_zero, List.filterMap_nil]
        have hD2 := (hD1.drewN 1).putS ga oA p.1 hat p.2
        have C2 := (HC.drewN 1).setCell (j := p.1) (Or.inl (hD1.oa ga oA).1) (.string (sb 256 p.2))
        go_wp2_with fail
        go_light
        refine ⟨⟨n + 1, by omega, by go_num, ?_, C2⟩, by simp [intOf]; omega⟩
        rw [loseS_yes (kp := fun i => ks.getD i false) hp HK.out]; exact hD2
    · have hn' : n = W.length := by omega
      subst hn'
      have d1 := hD1.c1
      have d2 := hD1.c2
      have f1 := hD1.blk.frozen 1
      have f2 := hD1.blk.frozen 2
      go_wp2_with fail
      go_end0
      exact ⟨rfl, hD1.clear, (HC.setCell (Or.inl hD1.own) _).setCell (Or.inl hD1.own) _⟩
theorem rsync_spent (r : Nat) (O : Nat → Prop) (S : Nat → Nat → UInt8) (W : List (Nat × (Nat → UInt8))) (a b c : Value) (w : World) (hD : RDev w O r S W 0 a b c) :
    Calls Tryd.prog 34 #[.pointer (some ⟨r, 0, none⟩)] w fun e w' => e = .returned (.int .i64 14) ∧ RDev w' O r S W 0 a b c ∧ Upd w w' r := by
  go_enter Tryd.func34, Tryd.ntmps34
  go_wp2_with (go_at_call 83; refine (rspent_any _ _ _ _ _ _ _ _ _ hD).mono ?_; rintro e w1 ⟨rfl, hD1, hu1⟩)
  go_ret
  exact ⟨rfl, hD1, hu1⟩
theorem rsync_ok (r : Nat) (O : Nat → Prop) (S : Nat → Nat → UInt8) (W : List (Nat × (Nat → UInt8))) (F : Int) (a b c : Value) (w : World) (hD : RDev w O r S W F a b c) (hF : F ≠ 0) (hW : W.length ≤ 1000) :
    Calls Tryd.prog 34 #[.pointer (some ⟨r, 0, none⟩)] w fun e w' => e = .returned (.int .i64 0) ∧ RDev w' O r (loseS S W (fun _ => true) W.length) [] (burnt F) a (.slice none 0 0) (.slice none 0 0) ∧ Chg w w' O := by
  have dF : decide (F = 0) = false := decide_eq_false hF
  go_enter Tryd.func34, Tryd.ntmps34
  go_wp2_with fail
  refine (rspent_any _ _ _ _ _ _ _ _ _ hD).mono ?_
  rintro e w1 ⟨rfl, hD1, hu1⟩
  rw [dF]
  go_wp2_with fail
  refine (lose_all r O S W _ a b c _ hD1 hW).mono ?_
  rintro e w2 ⟨rfl, hD2, C2⟩
  go_wp2_with fail
  go_ret
  exact ⟨rfl, hD2, ((Chg.refl w O).upd hu1 (Or.inl hD1.own)).trans C2⟩
theorem rcrash_any (r : Nat) (O : Nat → Prop) (S : Nat → Nat → UInt8) (W : List (Nat × (Nat → UInt8))) (F : Int) (a b c : Value) (w : World) (hD : RDev w O r S W F a b c) (hW : W.length ≤ 1000) (hO : ∀ k, O k → k < w.heap.size) (ka : Option Addr) (kc : Nat) (ks : List Bool) (hkl : ks.length ≤ 100000) (hks : ∀ i x, ks[i]? = some x → ∃ g o, ka = some ⟨g, o, none⟩ ∧ g < w.heap.size ∧ ¬ O g ∧ w.cell? ⟨g, o + i, none⟩ = some (.bool x)) :
    Calls Tryd.prog 38 #[.pointer (some ⟨r, 0, none⟩), .slice ka ks.length kc] w fun e w' => e = .returned (.tuple #[]) ∧ RDev w' O r (loseS S W (fun i => ks.getD i false) W.length) [] (-1) a (.slice none 0 0) (.slice none 0 0) ∧ Chg w w' O := by
  have g0 := (Below.refl w.heap.size w).alloc (Nat.le_refl _) (.cells #[.slice ka ks.length kc] 54)
  go_enter Tryd.func38, Tryd.ntmps38
  go_wp2_with fail
  refine (lose_keeps r O S W F a b c _ (hD.below g0) hW w.heap.size ka kc ks (Blk.new _ _ _) (fun h => by have := hO _ h; omega) hkl (fun i x hx => ?_)).mono ?_
  · obtain ⟨g, o, h1, h2, h3, h4⟩ := hks i x hx
    exact ⟨g, o, h1, by simp; omega, h3, (g0.cell (p := ⟨g, o + i, none⟩) h2).trans h4⟩
  rintro e w2 ⟨rfl, hD2, C2⟩
  have c3 := hD2.c3
  have f3 := hD2.blk.frozen 3
  go_wp2_with fail
  go_end0
  exact ⟨rfl, hD2.setF (-1) (by decide) (by decide), ((Chg.of g0 O).trans C2).setCell (Or.inl hD2.own) _⟩
end Go.Proofs.YtccnnfllgdplhaaDoor
