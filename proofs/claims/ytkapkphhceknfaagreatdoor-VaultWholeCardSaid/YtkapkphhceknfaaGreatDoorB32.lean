/-
  Part of the proof of TreeBinds: texts appended to texts; the reference's mark, marks, rows and Root are walked.
  Part of the proof: texts that are cloned, and changed while a map is gone through; which texts are there behind a Tell, a Turn.
  Part of the proof: what is known behind a Tell or a Turn that a fuse may have ended; the last Tell.
-/
import Derived.Test.YtkapkphhceknfaaGreatDoorB31
import Derived.Test.YtkapkphhceknfaaGreatDoorB29
namespace Go.Proofs.YtkapkphhceknfaaGreatDoor.Tr
open Go.RowKit Go.Shelf
section
variable {ops : Array Oper} {Q : Exit → Act → World → Prop} {a : Act} {w : World} {rest : List Oper} {o : Oper}
theorem tx_cells {w : World} {sg so n : Nat} {f : Nat → ByteArray} (hT : Tx w (some ⟨sg, so, none⟩) f n) : ∀ j u, (strs f n)[j]? = some u → w.cell? ((⟨sg, so, none⟩ : Addr).add j) = some u := by
  intro j u hj
  have hjn : j < n := by have := (List.getElem?_eq_some_iff.1 hj).1; simpa [strs] using this
  rw [strs_get f n j hjn] at hj
  obtain rfl := Option.some.inj hj
  obtain ⟨g', o', e, _, hc⟩ := hT j hjn
  injection e with e
  injection e with e1 e2
  subst e1 e2
  have : (⟨sg, so, none⟩ : Addr).add j = ⟨sg, so + j, none⟩ := by
    unfold Addr.add; split
    · rename_i e; subst e; rfl
    · rfl
  rw [this]; exact hc
theorem strs_cell (f : Nat → ByteArray) (n : Nat) : ∀ u ∈ strs f n, u.oneCell' = true := by
  intro u hu
  simp only [strs, List.mem_map] at hu
  obtain ⟨_, _, rfl⟩ := hu; rfl
/-- Texts of a slice appended to a slice of texts that the call has made. -/
theorem wpl_pushTx (hgd : o.guard = none) (s x : Operand) (ho : o.op = .call { callee := .builtin .append, args := #[s, x], argTypes := #[23, 23] })
    (B k : Nat) (v : Value) (xs : List Value) (hs : a.eval s = v) (hown : w.ownsRow B 9 1 v k xs) (sa : Option Addr) (n c : Nat) (f : Nat → ByteArray) (hx : a.eval x = .slice sa n c) (hT : Tx w sa f n) (hn0 : 0 < n) (hk : k ≤ 100) (hn : n ≤ 100) (hbase : B ≤ w.heap.size)
    (h : ∀ g cap w', w'.ownsRow B 9 1 (.slice (some ⟨g, 0, none⟩) (k + n) cap) (k + n) (xs ++ strs f n) → w.grownBy w' v.ownBlock → (v.ownBlock = some g ∨ g = w.heap.size) → wpList Tryz.prog ops Q rest (a.put o.dst (.slice (some ⟨g, 0, none⟩) (k + n) cap)) w') :
    wpList Tryz.prog ops Q (o :: rest) a w := by
  obtain ⟨i, hi, hp⟩ := Option.map_eq_some_iff.1 infoStr
  simp only [Prod.mk.injEq] at hp
  obtain ⟨p1, p2, p3⟩ := hp
  obtain ⟨sg, so, rfl, _, _⟩ := hT 0 hn0
  refine wpList_append_lies w hgd s x 23 ho B 9 i (.string ByteArray.empty) 1 16 Tryz.underlying23 hi p1 p2 p3 rfl (by decide) v k xs hs hown ⟨sg, so, none⟩ n c (strs f n) hx (by simp [strs]) (tx_cells hT) (strs_cell f n) hn0 (by unfold maxLen; omega) (by omega) hbase w.heap.size rfl ?_
  intro g cap w' h1 h2 h3 _
  exact h g cap w' h1 h2 h3
/-- .. none of them. -/
theorem wpl_push0 (hgd : o.guard = none) (s x : Operand) (ho : o.op = .call { callee := .builtin .append, args := #[s, x], argTypes := #[23, 23] })
    (B g k cap : Nat) (xs : List Value) (hs : a.eval s = .slice (some ⟨g, 0, none⟩) k cap) (hown : w.ownsRow B 9 1 (.slice (some ⟨g, 0, none⟩) k cap) k xs) (sa : Option Addr) (c : Nat) (hx : a.eval x = .slice sa 0 c) (hnil : sa = none → c = 0) (hkc : k ≤ cap)
    (h : ∀ w', w'.ownsRow B 9 1 (.slice (some ⟨g, 0, none⟩) k cap) k xs → w.grownBy w' (some g) → wpList Tryz.prog ops Q rest (a.put o.dst (.slice (some ⟨g, 0, none⟩) k cap)) w') :
    wpList Tryz.prog ops Q (o :: rest) a w := by
  obtain ⟨i, hi, hp⟩ := Option.map_eq_some_iff.1 infoStr
  simp only [Prod.mk.injEq] at hp
  obtain ⟨p1, p2, p3⟩ := hp
  refine wpList_append_fits_any w hgd s x 23 ho B 9 i 1 Tryz.underlying23 hi p2 g k cap xs hs hown sa 0 c [] hx rfl (fun e => ⟨rfl, hnil e⟩) (fun _ _ j u hu => by simp at hu) (fun u hu => by simp at hu) (by omega) ?_
  intro w' h1 h2
  simp only [List.append_nil, Nat.add_zero] at h1
  exact h w' h1 h2
end
theorem own_cap {w : World} {B g n cap : Nat} {xs : List Value} (h : w.ownsRow B 9 1 (.slice (some ⟨g, 0, none⟩) n cap) n xs) : n ≤ cap := by
  obtain ⟨h1, h2⟩ := h
  rcases h2 with ⟨h2, _⟩ | ⟨g', cap', cur, hv, hgB, hh, hle, _⟩
  · cases h2
  · have e : cap = cap' := by injection hv
    subst e; exact hle
theorem own_ge {w : World} {B g n cap : Nat} {xs : List Value} (h : w.ownsRow B 9 1 (.slice (some ⟨g, 0, none⟩) n cap) n xs) : B ≤ g := by
  obtain ⟨h1, h2⟩ := h
  rcases h2 with ⟨h2, _⟩ | ⟨g', cap', cur, hv, hgB, hh, hle, _⟩
  · cases h2
  · have e : g = g' := by injection hv with a1; injection a1 with a2; injection a2
    subst e; exact hgB
theorem own_new (w : World) : (w.alloc (.cells #[] 9)).ownsRow w.heap.size 9 1 (.slice (some ⟨w.heap.size, 0, none⟩) 0 0) 0 [] :=
  ⟨rfl, Or.inr ⟨w.heap.size, 0, #[], rfl, Nat.le_refl _, heap_alloc_new w (.cells #[] 9), Nat.le_refl _, Nat.zero_le _, rfl, rfl⟩⟩
theorem tx_new (w : World) (x : ByteArray) : Tx (w.alloc (.cells #[.string x] 9)) (some ⟨w.heap.size, 0, none⟩) (fun _ => x) 1 := fun i hi => by
  obtain rfl : i = 0 := by omega
  have h := Blk.new w #[.string x] 9
  exact ⟨w.heap.size, 0, rfl, h.lt, h.cell 0⟩
theorem strs_one (x : ByteArray) : strs (fun _ => x) 1 = [.string x] := rfl
theorem strs_congr (f g : Nat → ByteArray) (n : Nat) (h : ∀ i, i < n → f i = g i) : strs f n = strs g n := by
  unfold strs; apply List.map_congr_left; intro j hj; rw [h j (by simpa using hj)]
end Go.Proofs.YtkapkphhceknfaaGreatDoor.Tr
namespace Go.Proofs.YtkapkphhceknfaaGreatDoor.Vt
open Go.RowKit
theorem toLI {s t : ByteArray} (h : s.toList = t.toList) : s = t := ba_eq (by rw [← ByteArray.toList_eq, ← ByteArray.toList_eq]; exact h)
theorem txt_trn (p : Int → Option (Int × ByteArray)) (c : Int) (j : Nat) (hj : j < 32) : txt (nxP p (trn p c 32)) j = txt p j := by
  unfold txt
  conv => lhs; unfold rd nxP trn
  rw [if_pos (by omega)]; rfl
theorem txt_tel (g : Int → Option ByteArray) (p : Int → Option (Int × ByteArray)) (c : Int) (j : Nat) : txt (nxP p (tel g p c)) j = (g (j : Int)).getD (txt p j) := by
  unfold txt
  conv => lhs; unfold rd nxP tel
  cases hg : g (j : Int) with
  | none => rfl
  | some s =>
    show (((if s.toList = (rd p (j : Int)).2.toList then none else some (c, s)).or (p (j : Int))).getD ent0).2 = s
    by_cases e : s.toList = (rd p (j : Int)).2.toList
    · rw [if_pos e, toLI e]; rfl
    · rw [if_neg e]; rfl
/-- A slice of 32 texts in a block of its own. -/
def Aft (w : World) (g : Nat) (h : Nat → ByteArray) : Prop := ∃ cur : Array Value, Blk w g cur 9 ∧ ∀ j, j < 32 → cur[j]? = some (.string (h j))
theorem Aft.lt {w : World} {g : Nat} {h : Nat → ByteArray} (a : Aft w g h) : g < w.heap.size := by obtain ⟨cur, hb, _⟩ := a; exact hb.lt
theorem Aft.cell {w : World} {g : Nat} {h : Nat → ByteArray} (a : Aft w g h) (j : Nat) (hj : j < 32) : w.cell? ⟨g, j, none⟩ = some (.string (h j)) := by
  obtain ⟨cur, hb, hc⟩ := a
  rw [hb.cell, hc j hj]
theorem Aft.frozen {w : World} {g : Nat} {h : Nat → ByteArray} (a : Aft w g h) (j : Nat) : w.frozen? ⟨g, j, none⟩ = false := by obtain ⟨cur, hb, _⟩ := a; exact hb.frozen j
theorem Aft.chg {w w' : World} {P : Nat → Prop} {g : Nat} {h : Nat → ByteArray} (a : Aft w g h) (c : Dv.Chg w w' P) (hP : ¬ P g) : Aft w' g h := by obtain ⟨cur, hb, hc⟩ := a; exact ⟨cur, hb.chg c hP, hc⟩
theorem Aft.below {w w' : World} {g : Nat} {h : Nat → ByteArray} (a : Aft w g h) (b : Below w.heap.size w w') : Aft w' g h := a.chg (Dv.Chg.of b (fun _ => False)) (fun h => h)
theorem Aft.congr {w : World} {g : Nat} {h h' : Nat → ByteArray} (a : Aft w g h) (e : ∀ j, j < 32 → h j = h' j) : Aft w g h' := by obtain ⟨cur, hb, hc⟩ := a; exact ⟨cur, hb, fun j hj => by rw [hc j hj, e j hj]⟩
theorem Aft.set {w : World} {g : Nat} {h : Nat → ByteArray} (a : Aft w g h) (i : Nat) (s : ByteArray) (hi : i < 32) : Aft (w.setCell ⟨g, i, none⟩ (.string s)) g (fun j => if j = i then s else h j) := by
  obtain ⟨cur, hb, hc⟩ := a
  refine ⟨_, hb.set i (.string s), fun j hj => ?_⟩
  have hl : i < cur.size := by have := hc i hi; exact (Array.getElem?_eq_some_iff.1 this).1
  rw [Array.getElem?_setIfInBounds]
  by_cases e : i = j
  · subst e; rw [if_pos rfl, if_pos hl]; simp
  · rw [if_neg e, hc j hj]; simp [Ne.symm e]
theorem Aft.texts {w : World} {g : Nat} {h : Nat → ByteArray} (a : Aft w g h) : Dv.Texts w (fun _ => False) (some ⟨g, 0, none⟩) (tls h) := by
  intro i x hx
  have hi : i < 32 := by have := (List.getElem?_eq_some_iff.1 hx).1; simpa [tls] using this
  refine ⟨g, 0, rfl, a.lt, fun hf => hf, ?_⟩
  rw [Nat.zero_add, a.cell i hi]
  unfold tls at hx
  rw [List.getElem?_map, List.getElem?_range hi] at hx
  injection hx with hx
  rw [← hx]
theorem Aft.of_row {w : World} {B g c : Nat} {f : Nat → ByteArray} (h : w.ownsRow B 9 1 (.slice (some ⟨g, 0, none⟩) 32 c) 32 (Tr.strs f 32)) : Aft w g f := by
  obtain ⟨h1, ⟨h2, _⟩ | ⟨g', cap, cur, hv, hg, hh, hc1, hc2, hs, ht⟩⟩ := h
  · cases h2
  · injection hv with hv
    injection hv with hv
    injection hv with hv
    subst hv
    refine ⟨cur, hh, fun j hj => ?_⟩
    have h3 := Tr.strs_get f 32 j hj
    rw [← ht, List.getElem?_take] at h3
    rw [if_pos (by omega)] at h3
    simpa using h3
theorem aft_rows {w : World} {B g g' c c' : Nat} {f h : Nat → ByteArray} (hr : w.ownsRow B 9 1 (.slice (some ⟨g, 0, none⟩) 32 c) 32 (Tr.strs f 32)) (ha : Aft w g' h) (e : ∀ j, j < 32 → h j = f j) :
    Calls Tryz.prog 17 #[.slice (some ⟨g, 0, none⟩) 32 c, .slice (some ⟨g', 0, none⟩) 32 c'] w fun e w' => e = .returned (.bool true) ∧ Below w.heap.size w w' := by
  have e := equal_same (some ⟨g, 0, none⟩) (some ⟨g', 0, none⟩) c c' (tls f) w (row_texts hr) (ha.congr e).texts (by simp [tls])
  rwa [show (tls f).length = 32 from by simp [tls]] at e
/-- Which texts are there while pages are put in. -/
def mid (p : Int → Option (Int × ByteArray)) (g : Int → Option ByteArray) (left : Int → Bool) (j : Nat) : ByteArray := (if left (j : Int) then none else g (j : Int)).getD (txt p j)
theorem mid_start (p : Int → Option (Int × ByteArray)) (g : Int → Option ByteArray) (j : Nat) : mid p g (fun i => (sv g i).isSome) j = txt p j := by
  unfold mid sv
  cases hg : g (j : Int) <;> simp [hg]
theorem mid_end (p : Int → Option (Int × ByteArray)) (g : Int → Option ByteArray) (left : Int → Bool) (j : Nat) (h : left (j : Int) = false) : mid p g left j = (g (j : Int)).getD (txt p j) := by
  unfold mid; rw [h]; rfl
theorem mid_step (p : Int → Option (Int × ByteArray)) (g : Int → Option ByteArray) (left : Int → Bool) (i : Nat) (s : ByteArray) (hl : left (i : Int) = true) (hg : g (i : Int) = some s) (j : Nat) :
    (if j = i then s else mid p g left j) = mid p g (fun k => left k && !decide (k = (i : Int))) j := by
  by_cases e : j = i
  · subst e; rw [if_pos rfl]; unfold mid; simp [hg]
  · rw [if_neg e]; unfold mid
    have : ¬ (j : Int) = (i : Int) := by omega
    simp [this]
set_option maxRecDepth 100000 in
set_option maxHeartbeats 400000 in
theorem slclone_any (B g c : Nat) (f : Nat → ByteArray) (w : World) (h : w.ownsRow B 9 1 (.slice (some ⟨g, 0, none⟩) 32 c) 32 (Tr.strs f 32)) :
    Calls Tryz.prog 7 #[.slice (some ⟨g, 0, none⟩) 32 c] w fun e w' => (∃ g' c', e = .returned (.slice (some ⟨g', 0, none⟩) 32 c') ∧ Aft w' g' f ∧ w.heap.size ≤ g') ∧ Below w.heap.size w w' := by
  have hT := Tr.own_tx h
  have s1 := Pg.below_alloc w (.cells #[] 9)
  have hT1 := hT.below s1
  have hB : Blk (w.alloc (.cells #[] 9)) w.heap.size #[] 9 := Blk.new w _ _
  have ow1 : (w.alloc (.cells #[] 9)).ownsRow w.heap.size 9 1 (.slice (some ⟨w.heap.size, 0, none⟩) 0 0) 0 [] := row_fresh hB (Nat.le_refl _) (by decide) rfl
  have hq : ∀ w : World, (binOp .eql 23 (.slice (some ⟨g, 0, none⟩) 32 c) (.slice none 0 0)).run Tryz.prog w = .ok (.bool false) w := fun w => by kernel_rfl
  clear h hT
  go_enter Tryz.func7, Tryz.ntmps7
  go_wp2_with (first
    | (refine Tr.wpl_pushTx rfl _ _ rfl w.heap.size 0 _ [] rfl ow1 (some ⟨g, 0, none⟩) 32 c f rfl hT1 (by decide) (by decide) (by decide) (by simp) ?_; intro g6 c6 w6 ow6 gr6 hat6)
    | fail)
  go_ret
  have ow7 : w6.ownsRow w.heap.size 9 1 (.slice (some ⟨g6, 0, none⟩) 32 c6) 32 (Tr.strs f 32) := by simpa using ow6
  refine ⟨⟨g6, c6, rfl, Aft.of_row ow7, (Dv.ownsRow_lt ow7 g6 rfl).1⟩, s1.grown gr6 s1.size (fun j e => (Dv.ownsRow_lt ow1 j e).1)⟩
end Go.Proofs.YtkapkphhceknfaaGreatDoor.Vt
namespace Go.Proofs.YtkapkphhceknfaaGreatDoor.Vt
open Go.RowKit
/-- What is known where Tell and Turn meet again. -/
structure Cutd (w wc : World) (D C VB gA gB : Nat) (sec : ByteArray) (n : Nat) (S : Nat → Nat → UInt8) (f : Nat → Bool) (p t : Int → Option (Int × ByteArray)) (en : Int) (y : Fz) : Prop where
  on : On (nxS S sec (n + 1) en f p t) [] sec (n + 1) en (nxF f t) (nxP p t)
  st : y.b = true → ∃ st, st.size = 36 ∧ Blk wc VB (vaA D C sec st true) 76
  dev : ∃ O', y.At wc O' D ∧ (∀ k, O' k → w.heap.size ≤ k ∧ k < wc.heap.size) ∧ ¬ O' C ∧ ¬ O' gA ∧ ¬ O' gB
  cnt : Dv.Cnt wc C (if y.b then (n : Int) else ((n + 1 : Nat) : Int))
  aft : Aft wc gA (txt (nxP p t))
  bef : Aft wc gB (txt p)
  lo : Below w.heap.size w wc
  ne : w.heap.size ≤ C ∧ C ≠ gA ∧ C ≠ gB
  crash : ∀ kp, (y.b = true ∧ Kp S (Dv.loseS y.S y.W kp y.W.length) f) ∨ Dv.loseS y.S y.W kp y.W.length = nxS S sec (n + 1) en f p t
  good : y.b = false → ∀ kp, Dv.loseS y.S y.W kp y.W.length = nxS S sec (n + 1) en f p t
theorem cutd_of {w w6 wc : World} {D C VB gA gB : Nat} {sec : ByteArray} {n : Nat} {S : Nat → Nat → UInt8} {f : Nat → Bool} {p t : Int → Option (Int × ByteArray)} {en : Int} {y : Fz} {e : Ending} {O : Nat → Prop} {F : Int} {hA : Nat → ByteArray}
    (h : Did w6 wc O VB D C sec n y e) (hy : y = Fz.all ⟨S, [], F, false⟩ (sl (epoK sec en) (nxF f t) t 32) ((n + 1) % 2) (Su.allT (supK sec) ((n + 1 : Nat) : Int) en (nxF f t) (rootP (nxP p t))))
    (hOn : On (nxS S sec (n + 1) en f p t) [] sec (n + 1) en (nxF f t) (nxP p t)) (hO : ∀ k, O k → w.heap.size ≤ k ∧ k < w6.heap.size) (oC : ¬ O C) (oA : ¬ O gA) (oB : ¬ O gB) (hC : w.heap.size ≤ C) (hVB : w.heap.size ≤ VB) (cA : C ≠ gA) (cB : C ≠ gB) (vA : VB ≠ gA) (vB : VB ≠ gB)
    (hCl : C < w6.heap.size) (ha : Aft w6 gA hA) (he : ∀ j, j < 32 → hA j = txt (nxP p t) j) (hb : Aft w6 gB (txt p)) (lo : Below w.heap.size w w6) : Cutd w wc D C VB gA gB sec n S f p t en y := by
  have hlA := ha.lt
  have hlB := hb.lt
  have nb : ∀ k, k < w6.heap.size → ∀ {O' : Nat → Prop}, (∀ q, O' q → Dv.gro O w6 wc q) → ¬ O k → ¬ O' k := fun k hk O' hg hn hx => by
    rcases hg k hx with h1 | h1
    · exact hn h1
    · omega
  obtain ⟨O', hD, hg⟩ := h.dev
  have hz := h.chg.size
  have hwz := lo.size
  refine ⟨hOn, h.st, ⟨O', hD, fun k hk => ?_, nb C hCl hg oC, nb gA hlA hg oA, nb gB hlB hg oB⟩, h.cnt, (ha.chg h.chg ?_).congr he, hb.chg h.chg ?_, h.chg.to lo hwz ?_, ⟨hC, cA, cB⟩, fun kp => ?_, fun hyb kp => ?_⟩
  · rcases hg k hk with h1 | h1
    · exact ⟨(hO k h1).1, Nat.lt_of_lt_of_le (hO k h1).2 hz⟩
    · exact ⟨by omega, h1.2⟩
  · rintro (h1 | h1 | h1)
    · exact oA h1
    · exact cA h1.symm
    · exact vA h1.symm
  · rintro (h1 | h1 | h1)
    · exact oB h1
    · exact cB h1.symm
    · exact vB h1.symm
  · rintro k (h1 | h1 | h1)
    · exact (hO k h1).1
    · subst h1; exact hC
    · subst h1; exact hVB
  · exact crash_case ⟨S, [], F, false⟩ y sec n en f p t rfl rfl kp hy
  · exact crash_good ⟨S, [], F, false⟩ y sec n en f p t rfl rfl kp hy hyb
/-- One page that says one letter. -/
def g0 (j : Int) : Option ByteArray := if j = 0 then some ⟨#[122]⟩ else none
theorem g0_sv : (fun j => if j = 0 then some (Value.string ⟨#[122]⟩) else (fun _ => none) j) = sv g0 := by
  funext j; unfold sv g0; by_cases e : j = 0
  · rw [if_pos e, if_pos e]; rfl
  · rw [if_neg e, if_neg e]; rfl
theorem g0_ok : ∀ i s, g0 i = some s → (0 ≤ i ∧ i < 32) ∧ s.size ≤ 200 := fun i s h => by
  unfold g0 at h
  by_cases e : i = 0
  · rw [if_pos e] at h; injection h with h; subst h; subst e; exact ⟨by omega, by decide⟩
  · rw [if_neg e] at h; cases h
theorem tell_z (vb d c : Nat) (sec : ByteArray) (cn en : Int) (f : Nat → Bool) (r : ByteArray) (mb n : Nat) (p : Int → Option (Int × ByteArray)) (m : Value) (O : Nat → Prop) (S : Nat → Nat → UInt8) (v : Value) (lf : Int) (w : World)
    (hV : Vlt w vb d c sec cn en f r mb n p false) (hM : MapV Tryz.prog w m 1 (sv g0)) (hD : Dv.Dev w O d S [] (-1) v lf) (hC : Dv.Cnt w c cn) (hn : n ≤ 32) (hc0 : 0 ≤ cn) (hc1 : cn ≤ 2000000) (he0 : 1 ≤ en) (he1 : en ≤ 2) (hp : ∀ j : Nat, j < 32 → (rd p j).2.size ≤ 200)
    (hsec : sec.size ≤ 300) (hO : ∀ k, O k → k < w.heap.size) (o2 : ¬ O vb) (o3 : ¬ O c) (o4 : vb ≠ c) (hK : Sm.KB w) :
    Calls Tryz.prog 12 #[.pointer (some ⟨vb, 0, none⟩), m] w fun e w' => e = .returned .nilIface ∧ Dv.Chg w w' (fun k => O k ∨ k = c ∨ k = vb) := by
  have hF : ¬ Far g0 := fun ⟨i, _, h2, h3⟩ => by
    obtain ⟨s, hs⟩ := Option.isSome_iff_exists.1 h2
    exact h3 (g0_ok i s hs).1
  have hWd : ¬ Wide g0 := fun ⟨i, s, _, h2, h3⟩ => by have := (g0_ok i s h2).2; omega
  refine (tell_ok vb d c sec cn en f r mb n p m 1 g0 O S [] v lf cn w hV hM (fun i s hs => by have := (g0_ok i s hs).2; omega) hF hWd hD hC (by omega) (by omega) hc0 (by omega) he0 (by omega) (fun j hj => by have := hp j hj; omega) hsec (Nat.zero_le _) hO o2 o3 o4 hK).mono ?_
  rintro e w' ⟨rfl, _, _, _, C'⟩
  exact ⟨rfl, C'⟩
theorem tld_rd {S : Nat → Nat → UInt8} {sec : ByteArray} {n : Nat} {f : Nat → Bool} {p : Int → Option (Int × ByteArray)} (hT : Tld S sec n f p) (j : Nat) (hj : j < 32) : (rd p j).2.size ≤ 200 := by
  unfold rd
  cases hx : p (j : Int) with
  | none => exact Nat.zero_le _
  | some x => have := (hT.pgs.some' j hj x hx).2.2.2; simpa using this
theorem on_rd {S : Nat → Nat → UInt8} {W : List (Nat × (Nat → UInt8))} {sec : ByteArray} {n : Nat} {en : Int} {f : Nat → Bool} {p : Int → Option (Int × ByteArray)} (hT : On S W sec n en f p) (j : Nat) (hj : j < 32) : (rd p j).2.size ≤ 200 := by
  unfold rd
  cases hx : p (j : Int) with
  | none => exact Nat.zero_le _
  | some x => have := (hT.some' j hj x hx).2.2.2; simpa using this
end Go.Proofs.YtkapkphhceknfaaGreatDoor.Vt
