/-
  Part of the proof: plain facts: a device that has been laid down again, and what an elder state says of a later Count.
  Part of the proof: kept is walked: a page that is there again.
  Part of the proof: lists is walked.
-/
import Derived.Test.YtkapkphhceknfaaGreatDoorB46
namespace Go.Proofs.YtkapkphhceknfaaGreatDoor.Vt
open Go.RowKit
/-- An image, as texts. -/
def imgL (S : Nat → Nat → UInt8) : List ByteArray := (List.range 66).map fun k => sb 256 (S k)
theorem imgL_len (S : Nat → Nat → UInt8) : (imgL S).length = 66 := by simp [imgL]
theorem imgT {w : World} {O : Nat → Prop} {G : Nat} {S : Nat → Nat → UInt8} {T : TypeId} (h : Blk w G (Dv.ts 66 fun k => sb 256 (S k)) T) (hG : ¬ O G) : Dv.Texts w O (some ⟨G, 0, none⟩) (imgL S) := by
  intro i x hx
  have hi : i < 66 := by have := (List.getElem?_eq_some_iff.1 hx).1; simpa [imgL_len] using this
  refine ⟨G, 0, rfl, h.lt, hG, ?_⟩
  have e : x = sb 256 (S i) := by
    unfold imgL at hx
    rw [List.getElem?_map, List.getElem?_range hi] at hx
    injection hx with hx
    exact hx.symm
  rw [Nat.zero_add, h.cell, Dv.ts_get _ _ _ hi, e]
theorem sb_back (f : Nat → UInt8) : sb 256 (Dv.bAt (sb 256 f)) = sb 256 f := by
  refine sb_congr _ _ _ fun j hj => ?_
  unfold Dv.bAt sb
  simp [hj]
/-- Two devices say the same. -/
def Sam (S S' : Nat → Nat → UInt8) : Prop := ∀ k, k < 66 → sb 256 (S' k) = sb 256 (S k)
theorem lay_sam (S T : Nat → Nat → UInt8) : Sam T (Dv.layS S (imgL T) 66) := by
  intro k hk
  unfold Dv.layS
  rw [if_pos hk]
  have : (imgL T).getD k ByteArray.empty = sb 256 (T k) := by
    unfold imgL
    rw [List.getD_eq_getElem?_getD, List.getElem?_map, List.getElem?_range hk]; rfl
  rw [this, sb_back]
theorem SupAt.sam {S S' : Nat → Nat → UInt8} {sec : ByteArray} {b : Nat} {c : Option Int} (hs : Sam S S') (hb : b < 66) (h : SupAt S [] sec b c) : SupAt S' [] sec b c := by
  unfold SupAt at *
  rw [read_nil, hs b hb]
  rw [read_nil] at h
  exact h
theorem Tld.sam {S S' : Nat → Nat → UInt8} {sec : ByteArray} {n : Nat} {f : Nat → Bool} {p : Int → Option (Int × ByteArray)} (hs : Sam S S') (h : Tld S sec n f p) : Tld S' sec n f p := by
  refine ⟨⟨fun id hi x hx => ?_, fun id hi hx => ?_, h.pgs.keys⟩, fun h1 => ?_, ?_, fun h0 => ?_, h.n1, fun b h1 h2 => by rw [hs b h2]; exact h.low b h1 h2⟩
  · rw [hs _ (plc_lt f id hi)]; exact h.pgs.some' id hi x hx
  · rw [hs _ (plc_lt f id hi)]; exact h.pgs.none' id hi hx
  · rw [hs _ (by omega)]; exact h.sup h1
  · obtain ⟨x, h1, h2⟩ := h.old
    exact ⟨x, h1.sam hs (by omega), h2⟩
  · obtain ⟨h1, h2, h3⟩ := h.new h0
    exact ⟨h1.sam hs (by decide), h2.sam hs (by decide), h3⟩
/-- No block of Supers is of so great a Count. -/
theorem Tld.elder {S : Nat → Nat → UInt8} {sec : ByteArray} {n : Nat} {f : Nat → Bool} {p : Int → Option (Int × ByteArray)} (h : Tld S sec n f p) (m b : Nat) (hm : n < m) (hb : b < 2) : ∃ x, SupAt S [] sec b x ∧ x ≠ some (m : Int) := by
  by_cases h0 : n = 0
  · subst h0
    obtain ⟨h1, h2, _⟩ := h.new rfl
    by_cases hb0 : b = 0
    · subst hb0; exact ⟨none, h1, fun e => by cases e⟩
    · obtain rfl : b = 1 := by omega
      exact ⟨none, h2, fun e => by cases e⟩
  · by_cases hbn : b = n % 2
    · subst hbn
      exact ⟨some (n : Int), on_sup (h.on (by omega)), fun e => by injection e with e; omega⟩
    · obtain rfl : b = (n + 1) % 2 := by omega
      obtain ⟨x, h1, h2⟩ := h.old
      exact ⟨x, h1, fun e => by have := h2 _ e; omega⟩
end Go.Proofs.YtkapkphhceknfaaGreatDoor.Vt
namespace Go.Proofs.YtkapkphhceknfaaGreatDoor.Vt
open Go.RowKit
theorem wpl_insertW {P : Program} {ops : Array Oper} {Q : Exit → Act → World → Prop} {a : Act} {w : World} {rest : List Oper} {o : Oper} (hw : Region.wanted o (yielded ops a.tmps) = true) (hdn : o.dst = none) (t : TypeId) (m x y : Operand) (ho : o.op = .insert t m x y) (vm vx vy : Value) (hm : a.eval m = vm) (hx : a.eval x = vx) (hy : a.eval y = vy) (w' : World) (hr : (Instr.mapUpdate t vm vx vy).run P w = .ok () w')
    (h : wpList P ops Q rest a w') : wpList P ops Q (o :: rest) a w := by
  refine BigFrame.wpList_want hw fun K hK => ?_
  unfold Oper.wp execOp
  simp only [ho, hm, hx, hy, Sem.run_bind, Sem.run_pure, Result.andThen_ok, hr]
  simp only [Oper.upon_skip, hdn, Act.put]
  exact hK _ _ h
/-- One page that says one letter. -/
def g3 (j : Int) : Option ByteArray := if j = 3 then some ⟨#[120]⟩ else none
theorem g3_sv : (fun j => if j = 3 then some (Value.string ⟨#[120]⟩) else (fun _ => none) j) = sv g3 := by
  funext j; unfold sv g3; by_cases e : j = 3
  · rw [if_pos e, if_pos e]; rfl
  · rw [if_neg e, if_neg e]; rfl
theorem g3_ok : ∀ i s, g3 i = some s → (0 ≤ i ∧ i < 32) ∧ s.size ≤ 200 := fun i s h => by
  unfold g3 at h
  by_cases e : i = 3
  · rw [if_pos e] at h; injection h with h; subst h; subst e; exact ⟨by omega, by decide⟩
  · rw [if_neg e] at h; cases h
theorem g3_get (c : Int) : getT (nxP (fun _ => none) (tel g3 (fun _ => none) c)) 3 = ⟨#[120]⟩ := by
  have h1 : tel g3 (fun _ => none) c 3 = some (c, ⟨#[120]⟩) := by
    unfold tel g3
    rw [if_pos rfl]
    simp only [Option.bind_some]
    rw [if_neg (by decide +kernel)]
  unfold getT
  rw [if_pos (by decide)]
  unfold rd nxP
  rw [h1]; rfl
theorem lose_nil (S : Nat → Nat → UInt8) (k : Nat → Bool) : Dv.loseS S [] k 0 = S := rfl
set_option maxRecDepth 100000 in
set_option maxHeartbeats 400000 in
theorem kept_any (w : World) (hK : Sm.KB w) : Calls Tryz.prog 5 #[] w fun e w' => e = .returned (.bool true) ∧ Below w.heap.size w w' := by
  go_enter Tryz.func5, Tryz.ntmps5
  go_wp2_with fail
  refine (Dv.dnew_any w).mono ?_
  rintro e w2 ⟨rfl, hD2, g2, z2⟩
  have Z2 : Hid (w2.heap.size = w.heap.size + 1) := z2
  clear z2
  have g3 := Pg.below_alloc w2 (.cells #[.int .i64 0] 56)
  have b3 := g2.trans (g3.mono g2.size)
  have hC3 : Dv.Cnt (w2.alloc (.cells #[.int .i64 0] 56)) w2.heap.size 0 := Blk.new w2 _ _
  have hD3 := hD2.below g3
  have z3 : Hid ((w2.alloc (.cells #[.int .i64 0] 56)).heap.size = w2.heap.size + 1) := by unfold Hid; simp
  have ho := fun (sec : ByteArray) (h : sec.size = 16) => open_0 _ _ _ _ _ _ _ _ sec _ hD3 hC3 (by decide) h (hK.below b3) ((par_zS (supK_size sec)).1)
  have HO : Hid _ := ho
  clear g2 g3 hD2 ho
  go_wp2_with fail
  refine Calls.mono (HO.out _ rfl) ?_
  rintro e w4 ⟨⟨VB, CB, rfl, hV4', hVB, hCB⟩, g4⟩
  obtain ⟨sec, hs, hs16, hV4⟩ : ∃ sec : ByteArray, Hid (_ = sec) ∧ sec.size = 16 ∧ Vlt w4 VB w.heap.size w2.heap.size sec ((0 : Nat) : Int) 1 (fun _ => false) ⟨#[]⟩ CB 0 (fun _ => none) false := ⟨_, rfl, rfl, hV4'⟩
  have b4 := b3.trans (g4.mono b3.size)
  have hD4 := hD3.below g4
  have hC4 : Dv.Cnt w4 w2.heap.size ((0 : Nat) : Int) := hC3.below g4 hC3.lt
  have hVl := hV4.blk.lt
  have hCl := hV4.map.lt
  have z4 := g4.size
  rw [z3.out] at hVB hCB z4
  generalize w2.alloc (.cells #[.int .i64 0] 56) = w3 at *
  obtain ⟨D, hDD⟩ : ∃ D, Hid (w.heap.size = D) := ⟨_, rfl⟩
  obtain ⟨C, hCC⟩ : ∃ C, Hid (w2.heap.size = C) := ⟨_, rfl⟩
  rw [hDD.out] at hV4 hD4 Z2
  rw [hCC.out] at hV4 hC4 Z2 hVB hCB z4
  rw [hDD.out, hCC.out]
  clear hD3 hC3 b3 HO g4 hV4' z3
  go_wp2_with fail
  refine (count_any w4 VB D C sec _ 1 _ _ CB 0 _ false hV4).mono ?_
  rintro e w5 ⟨rfl, hw5⟩
  obtain rfl : w4 = w5 := hw5.symm
  clear hw5
  rw [show ((0 : Nat) : Int) = 0 from rfl]
  have hmk := mkMapS
  obtain ⟨w5, hr5, m5, gr5, z5⟩ := (mapF_made Tryz.prog w4).update (t := 38) und3 undS (by decide) (i := 3) (by decide) (.string ⟨#[120]⟩)
  rw [g3_sv] at m5
  have u5 := upd_of_grown gr5 z5
  have s5 : Below w4.heap.size w4 w5 := below_upd (Pg.below_alloc w4 (.map #[] 0)) u5 (Nat.le_refl _)
  have b5 := b4.trans (s5.mono b4.size)
  have hV5 := hV4.below s5 hV4.blk.lt hV4.map.lt
  have hD5 := hD4.below s5
  have hC5 := hC4.below s5 hC4.lt
  have z5' := s5.size
  go_wp2_with (first
    | (refine wpl_insertW (by kernel_rfl) rfl 38 _ _ _ rfl (.map (some w4.heap.size)) (.int .i64 3) (.string ⟨#[120]⟩) rfl rfl rfl w5 hr5 ?_)
    | fail)
  have hT := tld_new sec
  refine (tell_tld VB D C sec 0 _ _ CB 0 _ (.map (some w4.heap.size)) 1 g3 (fun q => q = D) _ _ _ w5 hV5 (Or.inr ⟨_, rfl, m5⟩) g3_ok hD5 hC5 hT (by decide) (by decide) (by omega) (fun q hq => by subst hq; have := Z2.out; omega) (fun h => by have := Z2.out; omega) (fun h => by have := Z2.out; omega) (by omega) (hK.below b5)).mono ?_
  rintro e w6 ⟨rfl, S6, f6, CB6, n6, O6, v6, l6, hV6, hCB6, hn6, hT6, hD6, hO6, hC6, C6⟩
  have e1 : ((0 + 1 : Nat) : Int) = 1 := rfl
  have hw0 := b5.size
  have b6 : Below w.heap.size w w6 := C6.to b5 b5.size (fun q hq => by
    have := Z2.out
    have := hDD.out
    rcases hq with rfl | rfl | rfl <;> omega)
  have hCO : ¬ O6 C := fun h => by
    have := Z2.out
    rcases hO6 C h with h | h
    · omega
    · omega
  have hOn := hT6.on (by decide)
  obtain ⟨xo, hxo, hxo'⟩ := hT6.old
  clear hV4 hV5 hD4 hD5 hC4 hC5 m5 u5 s5 gr5 hr5 hT C6 hV6 hmk
  go_wp2_with fail
  refine (Dv.crash_any D O6 S6 [] (-1) v6 l6 w6 hD6 none 0 [] (by decide) (fun i x hx => by simp at hx)).mono ?_
  rintro e w7 ⟨rfl, ⟨l7, hD7⟩, C7⟩
  have hC7 := hC6.chg C7 hCO
  have b7 : Below w.heap.size w w7 := C7.to b6 b6.size (fun q hq => by
    have := hDD.out
    rcases hO6 q hq with h | h
    · omega
    · omega)
  have hop := fun (s' : ByteArray) (h : s' = sec) => show Calls Tryz.prog 15 #[.pointer (some ⟨D, 0, none⟩), .pointer (some ⟨C, 0, none⟩), .string s'] w7 _ from h ▸ open_some D C O6 S6 [] (-1) _ _ sec 1 xo 1 f6 _ w7 hD7 hC7 (by decide) hs16 (hK.below b7) hxo (fun e => by have := hxo' _ e; omega) hOn
  have HO2 : Hid _ := hop
  clear hop hxo hxo' hOn hT6 hD6 hC6 C7 hD7
  go_wp2_with fail
  refine Calls.mono (HO2.out _ hs.out) ?_
  rintro e w8 ⟨⟨VB8, CB8, rfl, hV8, hVB8, hCB8⟩, g8⟩
  have hC8 := hC7.below g8 hC7.lt
  have b8 := b7.trans (g8.mono b7.size)
  rw [show ((1 : Nat) : Int) = 1 from rfl, hs.out] at hV8
  have hC8' : Dv.Cnt w8 C 1 := hC8
  clear HO2 hC7 b7 g8 hC8
  have hg := g3_get 1
  go_wp2_with fail
  refine (count_any w8 VB8 D C sec 1 1 _ _ CB8 32 _ false hV8).mono ?_
  rintro e w9 ⟨rfl, hw9⟩
  obtain rfl : w8 = w9 := hw9.symm
  clear hw9
  go_wp2_with fail
  refine (get_any w8 VB8 D C sec 1 1 _ _ CB8 32 _ false 3 hV8).mono ?_
  rintro e w9 ⟨rfl, hw9⟩
  obtain rfl : w8 = w9 := hw9.symm
  clear hw9
  have e3 : errV (getC 3) = .nilIface := by unfold getC; rw [if_pos (by decide)]; rfl
  rw [hg, e3]
  clear hg e3 hV8
  go_wp2_with fail
  refine (Dv.get_any C 1 w8 hC8').mono ?_
  rintro e wa ⟨rfl, hwa⟩
  obtain rfl : w8 = wa := hwa.symm
  clear hwa
  go_wp2_with fail
  go_ret
  exact ⟨rfl, b8⟩
end Go.Proofs.YtkapkphhceknfaaGreatDoor.Vt
namespace Go.Proofs.YtkapkphhceknfaaGreatDoor.Vt
open Go.RowKit
theorem l11_any (s : ByteArray) (w : World) (hs : s.size ≤ maxLen) : Calls Tryz.prog 23 #[.string s] w fun e w' => e = .returned (.bool (decide (200 < s.size))) ∧ w' = w := by
  unfold maxLen at hs
  go_enter Tryz.func23, Tryz.ntmps23
  go_wp2
  go_ret
  refine ⟨?_, rfl⟩
  simp
  omega
set_option maxHeartbeats 400000 in
/-- No text is too long: -1; else a number that is not below 0. -/
theorem idx1_any (a : Option Addr) (cap : Nat) (ls : List ByteArray) (w : World) (h : Dv.Texts w (fun _ => False) a ls) (hl : ls.length ≤ 6) (hs : ∀ s ∈ ls, s.size ≤ maxLen) :
    Calls Tryz.prog 34 #[.slice a ls.length cap, .func (.func 23) #[] #[]] w fun e w' => (∃ j : Int, e = .returned (.int .i64 j) ∧ (decide (0 ≤ j) = ls.any fun s => decide (200 < s.size))) ∧ w' = w := by
  go_enter Tryz.func34, Tryz.ntmps34
  go_wp2_with fail
  go_loop [8] (fun i => ∃ k : Nat, k ≤ ls.length ∧ i = .int .i64 k ∧ ∀ s ∈ ls.take k, s.size ≤ 200) (fun i => ls.length - (intOf i).toNat)
  case atStart => exact ⟨0, by omega, rfl, fun s hs => by simp at hs⟩
  case round =>
    obtain ⟨k, hk, rfl, hp⟩ := hrel
    by_cases hlt : k < ls.length
    · obtain ⟨g, o, rfl, hg, _, hc⟩ := h k ls[k] (List.getElem?_eq_getElem hlt)
      have hm : ls[k] ∈ ls := List.getElem_mem hlt
      have htk : Hid (ls.take (k + 1) = ls.take k ++ [ls[k]]) := by unfold Hid; rw [List.take_add_one, List.getElem?_eq_getElem hlt]; rfl
      have hsz := hs _ hm
      have hlt' : (k : Int) < (ls.length : Int) := by omega
      generalize ls[k] = x at *
      by_cases hx : 200 < x.size
      · have dx : decide (200 < x.size) = true := decide_eq_true hx
        go_wp2_with (go_at_call 23; refine (l11_any _ _ hsz).mono ?_; rintro e w' ⟨rfl, rfl⟩; rw [dx])
        go_ret
        refine ⟨⟨k, rfl, ?_⟩, rfl⟩
        have : ls.any (fun s => decide (200 < s.size)) = true := List.any_eq_true.2 ⟨x, hm, dx⟩
        rw [this]; simp
      · have dx : decide (200 < x.size) = false := decide_eq_false hx
        go_wp2_with (go_at_call 23; refine (l11_any _ _ hsz).mono ?_; rintro e w' ⟨rfl, rfl⟩; rw [dx])
        go_round
        case rel =>
          refine ⟨k + 1, by omega, by go_num, fun s hs' => ?_⟩
          rw [htk.out] at hs'
          rcases List.mem_append.1 hs' with h' | h'
          · exact hp s h'
          · simp at h'; subst h'; omega
        case measure => simp [intOf]; omega
    · have hk' : k = ls.length := by omega
      subst hk'
      rw [List.take_length] at hp
      have : ls.any (fun s => decide (200 < s.size)) = false := by
        rw [List.any_eq_false]; intro s hs'; have := hp s hs'; simp; omega
      go_wp2_with fail
      go_ret
      exact ⟨⟨-1, rfl, by first | decide | (rw [this]; decide)⟩, rfl⟩
theorem con1_any (a : Option Addr) (cap : Nat) (ls : List ByteArray) (w : World) (h : Dv.Texts w (fun _ => False) a ls) (hl : ls.length ≤ 6) (hs : ∀ s ∈ ls, s.size ≤ maxLen) :
    Calls Tryz.prog 22 #[.slice a ls.length cap, .func (.func 23) #[] #[]] w fun e w' => e = .returned (.bool (ls.any fun s => decide (200 < s.size))) ∧ w' = w := by
  go_enter Tryz.func22, Tryz.ntmps22
  go_wp2_with (go_at_call 34; refine (idx1_any _ _ _ _ h hl hs).mono ?_; rintro e w' ⟨⟨j, rfl, hj⟩, rfl⟩)
  go_ret
  refine ⟨?_, rfl⟩
  rw [← hj]; simp
/-- A list of texts that may be told. -/
def l1B (ls : List ByteArray) : Bool := decide (6 < ls.length) || ls.any fun s => decide (200 < s.size)
theorem l1_any (a : Option Addr) (cap : Nat) (ls : List ByteArray) (w : World) (h : Dv.Texts w (fun _ => False) a ls) (hl : ls.length ≤ maxLen) (hs : ∀ s ∈ ls, s.size ≤ maxLen) :
    Calls Tryz.prog 21 #[.slice a ls.length cap] w fun e w' => e = .returned (.bool (l1B ls)) ∧ w' = w := by
  unfold maxLen at hl
  by_cases hlt : ls.length ≤ 6
  · have d1 : decide ((6 : Int) < (ls.length : Int)) = false := by simp; omega
    go_enter Tryz.func21, Tryz.ntmps21
    go_wp2_with (go_at_call 22; refine (con1_any _ _ _ _ h hlt hs).mono ?_; rintro e w' ⟨rfl, rfl⟩)
    go_ret
    refine ⟨?_, rfl⟩
    have d2 : decide (6 < ls.length) = false := decide_eq_false (by omega)
    simp [l1B, d2]
  · have d1 : decide ((6 : Int) < (ls.length : Int)) = true := by simp; omega
    go_enter Tryz.func21, Tryz.ntmps21
    go_wp2
    go_ret
    refine ⟨?_, rfl⟩
    have d2 : decide (6 < ls.length) = true := decide_eq_true (by omega)
    simp [l1B, d2]
/-- A slice of slices of texts: where each lies, its capacity, its texts. -/
def Lst (w : World) (a : Option Addr) (L : List (Option Addr × Nat × List ByteArray)) : Prop :=
  ∀ i x, L[i]? = some x → ∃ g o, a = some ⟨g, o, none⟩ ∧ g < w.heap.size ∧ w.cell? ⟨g, o + i, none⟩ = some (.slice x.1 x.2.2.length x.2.1) ∧ Dv.Texts w (fun _ => False) x.1 x.2.2 ∧ x.2.2.length ≤ maxLen ∧ ∀ s ∈ x.2.2, s.size ≤ maxLen
theorem Lst.below {w w' : World} {a : Option Addr} {L : List (Option Addr × Nat × List ByteArray)} (h : Lst w a L) (hb : Below w.heap.size w w') : Lst w' a L := fun i x hx => by
  obtain ⟨g, o, h1, h2, h3, h4, h5⟩ := h i x hx
  exact ⟨g, o, h1, Nat.lt_of_lt_of_le h2 hb.size, (World.cell?_of_block (hb.block g h2)).trans h3, h4.chg ((Dv.Chg.refl w (fun _ => False)).below hb) (fun _ _ h => h), h5⟩
set_option maxHeartbeats 400000 in
theorem idx2_any (a : Option Addr) (cap : Nat) (L : List (Option Addr × Nat × List ByteArray)) (w : World) (h : Lst w a L) (hl : L.length ≤ 8) :
    Calls Tryz.prog 33 #[.slice a L.length cap, .func (.func 21) #[] #[]] w fun e w' => (∃ j : Int, e = .returned (.int .i64 j) ∧ (decide (0 ≤ j) = L.any fun x => l1B x.2.2)) ∧ w' = w := by
  go_enter Tryz.func33, Tryz.ntmps33
  go_wp2_with fail
  go_loop [8] (fun i => ∃ k : Nat, k ≤ L.length ∧ i = .int .i64 k ∧ ∀ x ∈ L.take k, l1B x.2.2 = false) (fun i => L.length - (intOf i).toNat)
  case atStart => exact ⟨0, by omega, rfl, fun s hs => by simp at hs⟩
  case round =>
    obtain ⟨k, hk, rfl, hp⟩ := hrel
    by_cases hlt : k < L.length
    · obtain ⟨g, o, rfl, hg, hc, ht, hz1, hz2⟩ := h k L[k] (List.getElem?_eq_getElem hlt)
      have hm : L[k] ∈ L := List.getElem_mem hlt
      have htk : Hid (L.take (k + 1) = L.take k ++ [L[k]]) := by unfold Hid; rw [List.take_add_one, List.getElem?_eq_getElem hlt]; rfl
      have hlt' : (k : Int) < (L.length : Int) := by omega
      generalize L[k] = x at *
      cases dx : l1B x.2.2 with
      | true =>
        go_wp2_with (go_at_call 21; refine (l1_any _ _ _ _ ht hz1 hz2).mono ?_; rintro e w' ⟨rfl, rfl⟩; rw [dx])
        go_ret
        refine ⟨⟨k, rfl, ?_⟩, rfl⟩
        have : L.any (fun x => l1B x.2.2) = true := List.any_eq_true.2 ⟨x, hm, dx⟩
        rw [this]; simp
      | false =>
        go_wp2_with (go_at_call 21; refine (l1_any _ _ _ _ ht hz1 hz2).mono ?_; rintro e w' ⟨rfl, rfl⟩; rw [dx])
        go_round
        case rel =>
          refine ⟨k + 1, by omega, by go_num, fun s hs' => ?_⟩
          rw [htk.out] at hs'
          rcases List.mem_append.1 hs' with h' | h'
          · exact hp s h'
          · simp at h'; subst h'; exact dx
        case measure => simp [intOf]; omega
    · have hk' : k = L.length := by omega
      subst hk'
      rw [List.take_length] at hp
      have : L.any (fun x => l1B x.2.2) = false := by
        rw [List.any_eq_false]; intro s hs'; rw [hp s hs']; decide
      go_wp2_with fail
      go_ret
      exact ⟨⟨-1, rfl, by first | decide | (rw [this]; decide)⟩, rfl⟩
theorem con2_any (a : Option Addr) (cap : Nat) (L : List (Option Addr × Nat × List ByteArray)) (w : World) (h : Lst w a L) (hl : L.length ≤ 8) :
    Calls Tryz.prog 20 #[.slice a L.length cap, .func (.func 21) #[] #[]] w fun e w' => e = .returned (.bool (L.any fun x => l1B x.2.2)) ∧ w' = w := by
  go_enter Tryz.func20, Tryz.ntmps20
  go_wp2_with (go_at_call 33; refine (idx2_any _ _ _ _ h hl).mono ?_; rintro e w' ⟨⟨j, rfl, hj⟩, rfl⟩)
  go_ret
  refine ⟨?_, rfl⟩
  rw [← hj]; simp
/-- Lists are few, and short enough. -/
def lsB (L : List (Option Addr × Nat × List ByteArray)) : Bool := decide (L.length ≤ 8) && !(L.any fun x => l1B x.2.2)
theorem lists_any (a : Option Addr) (cap : Nat) (L : List (Option Addr × Nat × List ByteArray)) (w : World) (h : Lst w a L) (hl : L.length ≤ maxLen) :
    Calls Tryz.prog 4 #[.slice a L.length cap] w fun e w' => e = .returned (.bool (lsB L)) ∧ w' = w := by
  unfold maxLen at hl
  by_cases hlt : L.length ≤ 8
  · go_enter Tryz.func4, Tryz.ntmps4
    go_wp2_with (go_at_call 20; refine (con2_any _ _ _ _ h hlt).mono ?_; rintro e w' ⟨rfl, rfl⟩)
    go_ret
    refine ⟨?_, rfl⟩
    simp [lsB, hlt]
  · have d1 : decide ((L.length : Int) ≤ 8) = false := by simp; omega
    go_enter Tryz.func4, Tryz.ntmps4
    go_wp2
    go_ret
    refine ⟨?_, rfl⟩
    simp [lsB, hlt]
theorem lsB_ok {L : List (Option Addr × Nat × List ByteArray)} (h : lsB L = true) : L.length ≤ 8 ∧ ∀ x ∈ L, x.2.2.length ≤ 6 ∧ ∀ s ∈ x.2.2, s.size ≤ 200 := by
  unfold lsB l1B at h
  simp at h
  exact ⟨h.1, fun x hx => ⟨(h.2 x.1 x.2.1 x.2.2 hx).1, fun s hs => (h.2 x.1 x.2.1 x.2.2 hx).2 s hs⟩⟩
end Go.Proofs.YtkapkphhceknfaaGreatDoor.Vt
