/-
  Part of the proof of TreeBinds: texts appended to texts; the reference's mark, marks, rows and Root are walked.
-/
import Derived.Test.YtgbfjdaelcfnjaaDoorU7
namespace Go.Proofs.YtgbfjdaelcfnjaaDoor.Tr
open Go.RowKit Go.Shelf
section
variable {ops : Array Oper} {Q : Exit → Act → World → Prop} {a : Act} {w : World} {rest : List Oper} {o : Oper}
theorem tx_cells {w : World} {sg so n : Nat} {f : Nat → ByteArray} (hT : Tx w (some ⟨sg, so, none⟩) f n) : ∀ j u, (strs f n)[j]? = some u → w.cell? ((⟨sg, so, none⟩ : Addr).add j) = some u := by
  intro j u hj
  have hjn : j < n := by have := (List.getElem?_eq_some_iff.1 hj).1; simpa [strs] using this
  rw [strs_get f n j hjn] at hj
  obtain rfl := Option.some.inj hj
  obtain ⟨g', o', e, _, hc⟩ := hT j hjn
  injection e with e
  injection e with e1 e2
  subst e1 e2
  have : (⟨sg, so, none⟩ : Addr).add j = ⟨sg, so + j, none⟩ := by
    unfold Addr.add; split
    · rename_i e; subst e; rfl
    · rfl
  rw [this]; exact hc
theorem strs_cell (f : Nat → ByteArray) (n : Nat) : ∀ u ∈ strs f n, u.oneCell' = true := by
  intro u hu
  simp only [strs, List.mem_map] at hu
  obtain ⟨_, _, rfl⟩ := hu; rfl
/-- Texts of a slice appended to a slice of texts that the call has made. -/
theorem wpl_pushTx (hgd : o.guard = none) (s x : Operand) (ho : o.op = .call { callee := .builtin .append, args := #[s, x], argTypes := #[22, 22] })
    (B k : Nat) (v : Value) (xs : List Value) (hs : a.eval s = v) (hown : w.ownsRow B 9 1 v k xs) (sa : Option Addr) (n c : Nat) (f : Nat → ByteArray) (hx : a.eval x = .slice sa n c) (hT : Tx w sa f n) (hn0 : 0 < n) (hk : k ≤ 100) (hn : n ≤ 100) (hbase : B ≤ w.heap.size)
    (h : ∀ g cap w', w'.ownsRow B 9 1 (.slice (some ⟨g, 0, none⟩) (k + n) cap) (k + n) (xs ++ strs f n) → w.grownBy w' v.ownBlock → (v.ownBlock = some g ∨ g = w.heap.size) → wpList Tryd.prog ops Q rest (a.put o.dst (.slice (some ⟨g, 0, none⟩) (k + n) cap)) w') :
    wpList Tryd.prog ops Q (o :: rest) a w := by
  obtain ⟨i, hi, hp⟩ := Option.map_eq_some_iff.1 infoStr
  simp only [Prod.mk.injEq] at hp
  obtain ⟨p1, p2, p3⟩ := hp
  obtain ⟨sg, so, rfl, _, _⟩ := hT 0 hn0
  refine wpList_append_lies w hgd s x 22 ho B 9 i (.string ByteArray.empty) 1 16 Tryd.underlying22 hi p1 p2 p3 rfl (by decide) v k xs hs hown ⟨sg, so, none⟩ n c (strs f n) hx (by simp [strs]) (tx_cells hT) (strs_cell f n) hn0 (by unfold maxLen; omega) (by omega) hbase w.heap.size rfl ?_
  intro g cap w' h1 h2 h3 _
  exact h g cap w' h1 h2 h3
/-- .. none of them. -/
theorem wpl_push0 (hgd : o.guard = none) (s x : Operand) (ho : o.op = .call { callee := .builtin .append, args := #[s, x], argTypes := #[22, 22] })
    (B g k cap : Nat) (xs : List Value) (hs : a.eval s = .slice (some ⟨g, 0, none⟩) k cap) (hown : w.ownsRow B 9 1 (.slice (some ⟨g, 0, none⟩) k cap) k xs) (sa : Option Addr) (c : Nat) (hx : a.eval x = .slice sa 0 c) (hnil : sa = none → c = 0) (hkc : k ≤ cap)
    (h : ∀ w', w'.ownsRow B 9 1 (.slice (some ⟨g, 0, none⟩) k cap) k xs → w.grownBy w' (some g) → wpList Tryd.prog ops Q rest (a.put o.dst (.slice (some ⟨g, 0, none⟩) k cap)) w') :
    wpList Tryd.prog ops Q (o :: rest) a w := by
  obtain ⟨i, hi, hp⟩ := Option.map_eq_some_iff.1 infoStr
  simp only [Prod.mk.injEq] at hp
  obtain ⟨p1, p2, p3⟩ := hp
  refine wpList_append_fits_any w hgd s x 22 ho B 9 i 1 Tryd.underlying22 hi p2 g k cap xs hs hown sa 0 c [] hx rfl (fun e => ⟨rfl, hnil e⟩) (fun _ _ j u hu => by simp at hu) (fun u hu => by simp at hu) (by omega) ?_
  intro w' h1 h2
  simp only [List.append_nil, Nat.add_zero] at h1
  exact h w' h1 h2
end
theorem own_cap {w : World} {B g n cap : Nat} {xs : List Value} (h : w.ownsRow B 9 1 (.slice (some ⟨g, 0, none⟩) n cap) n xs) : n ≤ cap := by
  obtain ⟨h1, h2⟩ := h
  rcases h2 with ⟨h2, _⟩ | ⟨g', cap', cur, hv, hgB, hh, hle, _⟩
  · cases h2
  · have e : cap = cap' := by injection hv
    subst e; exact hle
theorem own_ge {w : World} {B g n cap : Nat} {xs : List Value} (h : w.ownsRow B 9 1 (.slice (some ⟨g, 0, none⟩) n cap) n xs) : B ≤ g := by
  obtain ⟨h1, h2⟩ := h
  rcases h2 with ⟨h2, _⟩ | ⟨g', cap', cur, hv, hgB, hh, hle, _⟩
  · cases h2
  · have e : g = g' := by injection hv with a1; injection a1 with a2; injection a2
    subst e; exact hgB
theorem own_new (w : World) : (w.alloc (.cells #[] 9)).ownsRow w.heap.size 9 1 (.slice (some ⟨w.heap.size, 0, none⟩) 0 0) 0 [] :=
  ⟨rfl, Or.inr ⟨w.heap.size, 0, #[], rfl, Nat.le_refl _, heap_alloc_new w (.cells #[] 9), Nat.le_refl _, Nat.zero_le _, rfl, rfl⟩⟩
theorem tx_new (w : World) (x : ByteArray) : Tx (w.alloc (.cells #[.string x] 9)) (some ⟨w.heap.size, 0, none⟩) (fun _ => x) 1 := fun i hi => by
  obtain rfl : i = 0 := by omega
  have h := Blk.new w #[.string x] 9
  exact ⟨w.heap.size, 0, rfl, h.lt, h.cell 0⟩
theorem strs_one (x : ByteArray) : strs (fun _ => x) 1 = [.string x] := rfl
theorem strs_congr (f g : Nat → ByteArray) (n : Nat) (h : ∀ i, i < n → f i = g i) : strs f n = strs g n := by
  unfold strs; apply List.map_congr_left; intro j hj; rw [h j (by simpa using hj)]
theorem rmark1_any (s : ByteArray) (w : World) : Calls Tryd.prog 112 #[.string s] w fun e w' => e = .returned (.bool (decide (s.size = 16))) ∧ w' = w := by
  go_enter Tryd.func112, Tryd.ntmps112
  go_wp2
  go_ret
  refine ⟨?_, rfl⟩
  congr 2
  by_cases h : s.size = 16
  · simp [h]
  · simp [h]; omega
set_option maxHeartbeats 400000 in
theorem rmarks_any (a : Option Addr) (n cap : Nat) (f : Nat → ByteArray) (c : Nat) (w : World) (h : Tx w a f n) (hl : n ≤ 40) :
    Calls Tryd.prog 106 #[.slice a n cap, .int .i64 (c : Int)] w fun e w' => e = .returned (.bool (decide (n = c) && marksB f n)) ∧ w' = w := by
  go_enter Tryd.func106, Tryd.ntmps106
  go_wp2_with fail
  go_loop [9] (fun i => ∃ k : Nat, k ≤ n ∧ i = .int .i64 k ∧ ∀ j, j < k → (f j).size = 16) (fun i => n - (intOf i).toNat)
  case atStart => exact ⟨0, by omega, rfl, fun j hj => absurd hj (Nat.not_lt_zero _)⟩
  case round =>
    obtain ⟨k, hk, rfl, hp⟩ := hrel
    by_cases hlt : k < n
    · obtain ⟨g, o, rfl, hg, hcc⟩ := h k hlt
      have hlt' : (k : Int) < (n : Int) := by omega
      by_cases hx : (f k).size = 16
      · have dx : decide ((f k).size = 16) = true := by simp [hx]
        have HP : Hid (∀ j, j < k + 1 → (f j).size = 16) := fun j hj => by
          by_cases e : j = k
          · rw [e]; exact hx
          · exact hp j (by omega)
        clear hp hx
        generalize f k = x at *
        go_wp2_with (go_at_call 112; refine (rmark1_any _ _).mono ?_; rintro e w' ⟨rfl, rfl⟩; rw [dx])
        go_round
        case rel => exact ⟨k + 1, by omega, by go_num, HP.out⟩
        case measure => simp [intOf]; omega
      · have dx : decide ((f k).size = 16) = false := by simp [hx]
        have hm : Hid (marksB f n = false) := marksB_not hlt hx
        clear hp hx
        generalize f k = x at *
        go_wp2_with (go_at_call 112; refine (rmark1_any _ _).mono ?_; rintro e w' ⟨rfl, rfl⟩; rw [dx])
        go_ret
        refine ⟨?_, rfl⟩
        rw [hm.out, Bool.and_false]; rfl
    · have hk' : k = n := by omega
      subst hk'
      have hm : Hid (marksB f k = true) := marksB_spec.2 hp
      clear hp
      have dd : ((k : Int) == (c : Int)) = decide (k = c) := by
        by_cases e : k = c
        · simp [e]
        · simp [e]; omega
      go_wp2_with fail
      go_ret
      refine ⟨?_, rfl⟩
      rw [hm.out, Bool.and_true, ← dd]
      first | rfl | simp
theorem rin_any (k : Int) (w : World) : Calls Tryd.prog 78 #[.int .i64 k, .int .i64 0, .int .i64 31] w fun e w' => e = .returned (.bool (decide (0 ≤ k ∧ k < 32))) ∧ w' = w := by
  by_cases h : 0 ≤ k
  · go_enter Tryd.func78, Tryd.ntmps78
    go_wp2
    go_ret
    refine ⟨?_, rfl⟩
    congr 2
    by_cases h2 : k < 32
    · simp [h, h2]; omega
    · simp [h2]; omega
  · have d : decide ((0 : Int) ≤ k) = false := decide_eq_false h
    go_enter Tryd.func78, Tryd.ntmps78
    go_wp2
    go_ret
    refine ⟨?_, rfl⟩
    simp
end Go.Proofs.YtgbfjdaelcfnjaaDoor.Tr
