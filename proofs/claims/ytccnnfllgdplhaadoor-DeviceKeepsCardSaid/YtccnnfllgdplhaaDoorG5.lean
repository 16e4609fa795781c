/-
  Part of the proof: the reference's Image and Lay, and sameTexts, are walked.
-/
import Derived.Test.YtccnnfllgdplhaaDoorG4
namespace Go.Proofs.YtccnnfllgdplhaaDoor
open Go.RowKit
theorem suL_len (S : Nat → Nat → UInt8) : (suL S).length = 66 := by simp [suL, imgL]
theorem suL_one (S : Nat → Nat → UInt8) : ∀ u ∈ suL S, u.oneCell' = true := by
  intro u hu; simp [suL, imgL] at hu; obtain ⟨_, _, rfl⟩ := hu; rfl
theorem row_img {w : World} {v : Value} {S : Nat → Nat → UInt8} (h : w.ownsRow 0 9 1 v 66 (suL S)) : ∃ g cap, v = .slice (some ⟨g, 0, none⟩) 66 cap ∧ Texts w (fun _ => False) (some ⟨g, 0, none⟩) (imgL S) := by
  obtain ⟨a, cap, hv, _, hc⟩ := row_form h
  obtain ⟨g, rfl, _, _, _⟩ := hc 0 _ (suL_get S 0 (by decide))
  refine ⟨g, cap, hv, fun i x hx => ?_⟩
  have hi : i < 66 := by have := (List.getElem?_eq_some_iff.1 hx).1; simpa [imgL_len] using this
  obtain ⟨g', e, _, h4, _⟩ := hc i (.string x) (by simp [suL, hx])
  obtain rfl : g = g' := by injection e with e1; injection e1
  exact ⟨g, 0, rfl, World.block_lt_of_cell? w _ h4, id, by rw [Nat.zero_add]; exact h4⟩
set_option maxRecDepth 100000 in
set_option maxHeartbeats 400000 in
theorem rimage_any (r : Nat) (O : Nat → Prop) (S : Nat → Nat → UInt8) (W : List (Nat × (Nat → UInt8))) (F : Int) (a b c : Value) (w : World) (hD : RDev w O r S W F a b c) :
    Calls Tryd.prog 43 #[.pointer (some ⟨r, 0, none⟩)] w fun e w' => (∃ g cap, e = .returned (.slice (some ⟨g, 0, none⟩) 66 cap) ∧ Texts w' (fun _ => False) (some ⟨g, 0, none⟩) (imgL S)) ∧ Below w.heap.size w w' := by
  obtain ⟨aa, ca, hav, _, ha⟩ := row_form hD.sure
  obtain ⟨ga, rfl, oA, _, _⟩ := ha 0 _ (suL_get S 0 (by decide))
  subst hav
  have c0 := hD.c0
  have lr := hD.blk.lt
  have g0 := (Below.refl w.heap.size w).alloc (Nat.le_refl _) (.cells #[] 9)
  have hcell : ∀ (j : Nat) (u : Value), (suL S)[j]? = some u → (w.alloc (.cells #[] 9)).cell? ((⟨ga, 0, none⟩ : Addr).add j) = some u := fun j u hu => by
    obtain ⟨g', e, _, h4, _⟩ := ha j u hu
    obtain rfl : ga = g' := by injection e with e1; injection e1
    rw [addr_add]
    exact (g0.cell (p := ⟨ga, j, none⟩) (World.block_lt_of_cell? w _ h4)).trans h4
  obtain ⟨i1, hi1, hp0, hp1, hp2⟩ := info_parts infoStr
  have hown : (w.alloc (.cells #[] 9)).ownsRow 0 9 1 (.slice (some ⟨w.heap.size, 0, none⟩) 0 0) 0 [] := ⟨rfl, Or.inr ⟨w.heap.size, 0, #[], rfl, Nat.zero_le _, heap_alloc_new w _, Nat.le_refl _, Nat.zero_le _, rfl, rfl⟩⟩
  go_enter Tryd.func43, Tryd.ntmps43
  go_wp2_with (refine wpList_append_lies _ rfl _ _ _ rfl 0 9 i1 _ 1 16 Tryd.underlying22 hi1 hp0 hp1 hp2 rfl (by decide) (.slice (some ⟨w.heap.size, 0, none⟩) 0 0) 0 [] rfl hown ⟨ga, 0, none⟩ 66 ca (suL S) rfl (by rw [suL_len]) hcell (suL_one S) (by decide) (by unfold maxLen; omega) (by omega) (Nat.zero_le _) (w.heap.size + 1) (by simp) ?_; intro gD cD wD hownD hgD hatD hltD)
  go_ret
  have hr : wD.ownsRow 0 9 1 (.slice (some ⟨gD, 0, none⟩) 66 cD) 66 (suL S) := by simpa using hownD
  obtain ⟨g', c', hv, hT⟩ := row_img hr
  obtain rfl : gD = g' := by injection hv with e1; injection e1 with e2; injection e2
  refine ⟨⟨gD, cD, rfl, hT⟩, g0.grown hgD (by simp) (fun q hq => ?_)⟩
  simp only [Value.ownBlock, Option.some.injEq] at hq
  omega
set_option maxHeartbeats 400000 in
theorem sameTexts_same (a b : Option Addr) (c d : Nat) (ls : List ByteArray) (w : World) (ha : Texts w (fun _ => False) a ls) (hb : Texts w (fun _ => False) b ls) (hl : ls.length ≤ 1000) :
    Calls Tryd.prog 41 #[.slice a ls.length c, .slice b ls.length d] w fun e w' => e = .returned (.bool true) ∧ Below w.heap.size w w' := by
  go_enter Tryd.func41, Tryd.ntmps41
  go_wp2_with fail
  go_loopw [5] (fun i wr => ∃ k n : Nat, k ≤ ls.length ∧ i = .int .i64 k ∧ wr = w.drewN n) (fun i _ => ls.length - (intOf i).toNat)
  case atStart => exact ⟨0, 0, by omega, rfl, rfl⟩
  case round =>
    obtain ⟨k, n, hk, rfl, rfl⟩ := hrel
    by_cases hlt : k < ls.length
    · obtain ⟨g, o, rfl, hg, _, hc⟩ := ha k ls[k] (List.getElem?_eq_getElem hlt)
      obtain ⟨g', o', rfl, hg', _, hc'⟩ := hb k ls[k] (List.getElem?_eq_getElem hlt)
      have hlt' : (k : Int) < (ls.length : Int) := by omega
      generalize ls[k] = x at *
      go_wp2_with fail
      go_quiet (fail)
      go_wp2
      go_light
      exact ⟨⟨k + 1, n + nq, by omega, by go_num, rfl⟩, by simp [intOf]; omega⟩
    · go_wp2_with fail
      go_ret
      exact ⟨rfl, below_drewN (Below.refl _ _) n⟩
theorem same66 (G1 G2 c1 c2 : Nat) (S : Nat → Nat → UInt8) (w : World) (h1 : Texts w (fun _ => False) (some ⟨G1, 0, none⟩) (imgL S)) (h2 : Texts w (fun _ => False) (some ⟨G2, 0, none⟩) (imgL S)) :
    Calls Tryd.prog 41 #[.slice (some ⟨G1, 0, none⟩) 66 c1, .slice (some ⟨G2, 0, none⟩) 66 c2] w fun e w' => e = .returned (.bool true) ∧ Below w.heap.size w w' := by
  have := sameTexts_same (some ⟨G1, 0, none⟩) (some ⟨G2, 0, none⟩) c1 c2 (imgL S) w h1 h2 (by rw [imgL_len]; decide)
  rw [imgL_len] at this; exact this
/-- A text, and so many 0 behind it. -/
def pad (s : ByteArray) (n : Nat) : ByteArray := s ++ zs n
theorem pad_size (s : ByteArray) (n : Nat) : (pad s n).size = s.size + n := by unfold pad; rw [ByteArray.size_append, zs_size]
theorem pad_zero (s : ByteArray) : pad s 0 = s := by
  have e : (pad s 0).data.toList = s.data.toList := by
    unfold pad zs
    simp only [ByteArray.data_append, Array.toList_append, List.replicate_zero, List.append_nil]
  generalize pad s 0 = x at *
  cases x; cases s; simp at e; subst e; rfl
theorem pad_succ (s : ByteArray) (n : Nat) : pad s n ++ ⟨#[0]⟩ = pad s (n + 1) := by
  have e : (pad s n ++ ⟨#[0]⟩).data.toList = (pad s (n + 1)).data.toList := by
    unfold pad zs
    simp only [ByteArray.data_append, Array.toList_append, List.append_assoc]
    congr 1
    rw [List.replicate_succ']
  generalize pad s n ++ ⟨#[0]⟩ = x at *
  generalize pad s (n + 1) = y at *
  cases x; cases y; simp at e; subst e; rfl
def szOf : Value → Nat
  | .string s => s.size
  | _ => 0
set_option maxRecDepth 100000 in
set_option maxHeartbeats 1000000 in
theorem rlay_any (r : Nat) (O : Nat → Prop) (S : Nat → Nat → UInt8) (W : List (Nat × (Nat → UInt8))) (F : Int) (a b c : Value) (w : World) (hD : RDev w O r S W F a b c) (la : Option Addr) (lc : Nat) (ls : List ByteArray) (_hll : ls.length ≤ 100000) (hls : Texts w O la ls) (hlz : ∀ s ∈ ls, s.size ≤ 1000) :
    Calls Tryd.prog 40 #[.pointer (some ⟨r, 0, none⟩), .slice la ls.length lc] w fun e w' => e = .returned (.tuple #[]) ∧ RDev w' O r (layS S ls 66) [] F a (.slice none 0 0) (.slice none 0 0) ∧ Chg w w' O := by
  obtain ⟨aa, ca, hav, _, ha0⟩ := row_form hD.sure
  obtain ⟨ga, rfl, oA, _, _⟩ := ha0 0 _ (suL_get S 0 (by decide))
  subst hav
  have d1 := hD.c1
  have d2 := hD.c2
  have f1 := hD.blk.frozen 1
  have f2 := hD.blk.frozen 2
  have hDc := hD.clear
  have HC0 := ((Chg.refl w O).setCell (b := r) (j := 1) (Or.inl hD.own) (.slice none 0 0)).setCell (b := r) (j := 2) (Or.inl hD.own) (.slice none 0 0)
  obtain ⟨w1, hw1⟩ : ∃ w1, (w.setCell ⟨r, 1, none⟩ (.slice none 0 0)).setCell ⟨r, 2, none⟩ (.slice none 0 0) = w1 := ⟨_, rfl⟩
  rw [hw1] at hDc HC0
  have c0 := hDc.c0
  go_enter Tryd.func40, Tryd.ntmps40
  go_wp2_with fail
  go_loopw [17] (fun i wr => ∃ k : Nat, k ≤ 66 ∧ i = .int .i64 k ∧ RDev wr O r (layS S ls k) [] F (.slice (some ⟨ga, 0, none⟩) 66 ca) (.slice none 0 0) (.slice none 0 0) ∧ Chg w wr O) (fun i _ => 66 - (intOf i).toNat)
  case atStart => exact ⟨0, by omega, rfl, by rw [layS_0]; exact hDc, HC0⟩
  case round =>
    clear hDc HC0 c0 hw1 ha0 d1 d2 f1 f2
    obtain ⟨k, hk, rfl, hD1, HC⟩ := hrel
    by_cases hlt : k < 66
    · have h0 : (0 : Int) ≤ (k : Int) := by omega
      have h1 : (k : Int) < 66 := by omega
      obtain ⟨x, hgd, hxz, hca⟩ : ∃ x : ByteArray, Hid (bAt x = bAt (ls.getD k ByteArray.empty)) ∧ x.size ≤ 1000 ∧ ((k < ls.length ∧ ∃ g o, la = some ⟨g, o, none⟩ ∧ g < w.heap.size ∧ ¬ O g ∧ w.cell? ⟨g, o + k, none⟩ = some (.string x)) ∨ (¬ k < ls.length ∧ Hid (x = ⟨#[]⟩))) := by
        by_cases hkl : k < ls.length
        · refine ⟨ls[k], ?_, hlz _ (List.getElem_mem hkl), Or.inl ⟨hkl, hls k ls[k] (List.getElem?_eq_getElem hkl)⟩⟩
          unfold Hid; rw [List.getD_eq_getElem?_getD, List.getElem?_eq_getElem hkl]; rfl
        · refine ⟨⟨#[]⟩, ?_, by decide, Or.inr ⟨hkl, rfl⟩⟩
          unfold Hid; rw [List.getD_eq_getElem?_getD, List.getElem?_eq_none (by omega)]; rfl
      clear hls hlz
      obtain ⟨aa', ca', hv3, _, ha⟩ := row_form hD1.sure
      obtain ⟨ga', ea, oA, cS, fS⟩ := ha k _ (suL_get _ _ hlt)
      obtain rfl : ga = ga' := by injection hv3 with e1; rw [ea] at e1; injection e1 with e2; injection e2
      clear hv3 ha ea
      have c0 := hD1.c0
      rcases hca with ⟨hkl, g, o, rfl, hg, hgO, hc⟩ | ⟨hkl, hxe⟩
      · have hkl' : (k : Int) < (ls.length : Int) := by omega
        have c2 := (World.cell?_of_block (HC.block g hg hgO)).trans hc
        go_wp2_with fail
        go_loopw [5] (fun s' wr' => ∃ n : Nat, s' = .string (pad x n) ∧ wr' = wr) (fun s' _ => 256 - szOf s')
        case atStart => exact ⟨0, by rw [pad_zero], rfl⟩
        case round =>
          obtain ⟨n, hs', hw'⟩ := hrel
          subst hs'
          subst hw'
          have hps := pad_size x n
          have hfe : Hid (256 ≤ x.size + n → (pad x n).extract 0 256 = sb 256 (bAt x)) := fun h => full_eq x n h
          have hsu : Hid (pad x n ++ ⟨#[0]⟩ = pad x (n + 1)) := pad_succ x n
          have hsz : Hid (szOf (.string (pad x (n + 1))) = x.size + n + 1) := (pad_size x (n + 1)).trans (by omega)
          have hsz0 : Hid (szOf (.string (pad x n)) = x.size + n) := pad_size x n
          generalize x.size + n = m at *
          generalize pad x n = y at *
          by_cases h : m < 256
          · have h' : (m : Int) < 256 := by omega
            go_wp2_with fail
            go_light
            refine ⟨⟨n + 1, by rw [← hsu.out], trivial⟩, ?_⟩
            rw [hsu.out, hsz.out, hsz0.out]
            omega
          · have h' : ¬ (m : Int) < 256 := by omega
            have h'' : (256 : Int) ≤ (m : Int) := by omega
            go_wp2_with fail
            refine region_s [(0, true), (1, true), (2, true), (3, false), (4, true), (5, true), (6, true), (7, true)] [] [8] (fun w' => w'.cell? ⟨r, 0, none⟩ = some (.slice (some ⟨ga, 0, none⟩) 66 ca)) mixed (by kernel_rfl) (fun _ _ _ _ _ h => h) c0 ?_
            refine lead_pure _ rfl _ rfl rfl _ (fun w' => by go_simp; rfl) ?_
            refine lead_pure _ rfl _ rfl rfl _ (fun w' => by go_simp; rfl) ?_
            refine lead_pure _ rfl _ rfl rfl _ (fun w' => by go_simp; rfl) ?_
            refine lead_read _ rfl _ rfl rfl (.slice (some ⟨ga, 0, none⟩) 66 ca) (fun w' hS => by go_simp) ?_
            refine lead_pure _ rfl _ rfl rfl _ (fun w' => by go_simp; rfl) ?_
            refine lead_pure _ rfl _ rfl rfl _ (fun w' => by go_simp; rfl) ?_
            refine lead_pure _ rfl _ rfl rfl (.string (y.extract 0 256)) (fun w' => by go_simp) ?_
            refine lead_pure _ rfl _ rfl rfl (.pointer (some ⟨ga, k, none⟩)) (fun w' => by go_simp) ?_
            simp only [lead_nil_eq, mid_nil_eq]
            simp only [Act.put, List.setIfInBounds_toArray, List.set_cons_succ, List.set_cons_zero, List.filterMap_cons, List.getElem?_toArray, List.getElem?_cons_succ, List.getElem?_cons_zero, List.filterMap_nil]
            rw [hfe.out (by omega)]
            have hD2 := (hD1.drewN 1).putS ga oA k hlt (bAt x)
            have C2 := (HC.drewN 1).setCell (j := k) (Or.inl (hD1.oa ga oA).1) (.string (sb 256 (bAt x)))
            rw [layS_succ _ _ _ _ hgd.out] at hD2
            go_wp2_with fail
            go_light
            exact ⟨⟨k + 1, by omega, by go_num, hD2, C2⟩, by simp [intOf]; omega⟩
      · have hkl' : decide ((k : Int) < (ls.length : Int)) = false := by simp only [decide_eq_false_iff_not]; omega
        go_wp2_with fail
        rw [← hxe.out]
        go_loopw [5] (fun s' wr' => ∃ n : Nat, s' = .string (pad x n) ∧ wr' = wr) (fun s' _ => 256 - szOf s')
        case atStart => exact ⟨0, by rw [pad_zero], rfl⟩
        case round =>
          obtain ⟨n, hs', hw'⟩ := hrel
          subst hs'
          subst hw'
          have hps := pad_size x n
          have hfe : Hid (256 ≤ x.size + n → (pad x n).extract 0 256 = sb 256 (bAt x)) := fun h => full_eq x n h
          have hsu : Hid (pad x n ++ ⟨#[0]⟩ = pad x (n + 1)) := pad_succ x n
          have hsz : Hid (szOf (.string (pad x (n + 1))) = x.size + n + 1) := (pad_size x (n + 1)).trans (by omega)
          have hsz0 : Hid (szOf (.string (pad x n)) = x.size + n) := pad_size x n
          generalize x.size + n = m at *
          generalize pad x n = y at *
          by_cases h : m < 256
          · have h' : (m : Int) < 256 := by omega
            go_wp2_with fail
            go_light
            refine ⟨⟨n + 1, by rw [← hsu.out], trivial⟩, ?_⟩
            rw [hsu.out, hsz.out, hsz0.out]
            omega
          · have h' : ¬ (m : Int) < 256 := by omega
            have h'' : (256 : Int) ≤ (m : Int) := by omega
            go_wp2_with fail
            refine region_s [(0, true), (1, true), (2, true), (3, false), (4, true), (5, true), (6, true), (7, true)] [] [8] (fun w' => w'.cell? ⟨r, 0, none⟩ = some (.slice (some ⟨ga, 0, none⟩) 66 ca)) mixed (by kernel_rfl) (fun _ _ _ _ _ h => h) c0 ?_
            refine lead_pure _ rfl _ rfl rfl _ (fun w' => by go_simp; rfl) ?_
            refine lead_pure _ rfl _ rfl rfl _ (fun w' => by go_simp; rfl) ?_
            refine lead_pure _ rfl _ rfl rfl _ (fun w' => by go_simp; rfl) ?_
            refine lead_read _ rfl _ rfl rfl (.slice (some ⟨ga, 0, none⟩) 66 ca) (fun w' hS => by go_simp) ?_
            refine lead_pure _ rfl _ rfl rfl _ (fun w' => by go_simp; rfl) ?_
            refine lead_pure _ rfl _ rfl rfl _ (fun w' => by go_simp; rfl) ?_
            refine lead_pure _ rfl _ rfl rfl (.string (y.extract 0 256)) (fun w' => by go_simp) ?_
            refine lead_pure _ rfl _ rfl rfl (.pointer (some ⟨ga, k, none⟩)) (fun w' => by go_simp) ?_
            simp only [lead_nil_eq, mid_nil_eq]
            simp only [Act.put, List.setIfInBounds_toArray, List.set_cons_succ, List.set_cons_zero, List.filterMap_cons, List.getElem?_toArray, List.getElem?_cons_succ, List.getElem?_cons_zero, List.filterMap_nil]
            rw [hfe.out (by omega)]
            have hD2 := (hD1.drewN 1).putS ga oA k hlt (bAt x)
            have C2 := (HC.drewN 1).setCell (j := k) (Or.inl (hD1.oa ga oA).1) (.string (sb 256 (bAt x)))
            rw [layS_succ _ _ _ _ hgd.out] at hD2
            go_wp2_with fail
            go_light
            exact ⟨⟨k + 1, by omega, by go_num, hD2, C2⟩, by simp [intOf]; omega⟩
    · have hn' : k = 66 := by omega
      subst hn'
      go_wp2_with fail
      go_end0
      exact ⟨rfl, hD1, HC⟩
end Go.Proofs.YtccnnfllgdplhaaDoor
