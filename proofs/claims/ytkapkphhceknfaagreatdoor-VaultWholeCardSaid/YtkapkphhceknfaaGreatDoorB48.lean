/-
  Part of the proof: what is known while lists are told: the vault, the device, and what was had behind each.
-/
import Derived.Test.YtkapkphhceknfaaGreatDoorB47
namespace Go.Proofs.YtkapkphhceknfaaGreatDoor.Vt
open Go.RowKit
/-- One state that was told: its device, its sides, its pages, the row of its pages' texts, its image's block. -/
structure Hs where
  S : Nat → Nat → UInt8
  f : Nat → Bool
  p : Int → Option (Int × ByteArray)
  H : Nat
  hc : Nat
  G : Nat
/-- The row of its pages' texts, and its image. -/
def Hs.v (x : Hs) : Value := .slice (some ⟨x.H, 0, none⟩) 32 x.hc
def Hs.i (x : Hs) : Value := .slice (some ⟨x.G, 0, none⟩) 66 66
/-- What a Tell changes. -/
def Busy (O : Nat → Prop) (C VB : Nat) (k : Nat) : Prop := O k ∨ k = C ∨ k = VB
/-- What is known of one that was told. -/
structure HsOk (w : World) (X : Nat → Prop) (B : Nat) (sec : ByteArray) (k : Nat) (x : Hs) : Prop where
  tld : Tld x.S sec k x.f x.p
  had : w.ownsRow B 9 1 x.v 32 (Tr.strs (txt x.p) 32)
  hadO : ¬ X x.H
  img : Blk w x.G (Dv.ts 66 fun k => sb 256 (x.S k)) 9
  imgO : ¬ X x.G
theorem row_chg {w w' : World} {P : Nat → Prop} {B : Nat} {e : TypeId} {z : Nat} {v : Value} {n : Nat} {xs : List Value} (h : w.ownsRow B e z v n xs) (hc : Dv.Chg w w' P) (hP : ∀ g, v.ownBlock = some g → ¬ P g) : w'.ownsRow B e z v n xs :=
  Dv.ownsRow_same h fun g hg => hc.block g (Dv.ownsRow_lt h g hg).2 (hP g hg)
theorem row_tag {w : World} {B : Nat} {e : TypeId} {z : Nat} {v : Value} {n : Nat} {xs : List Value} (h : w.ownsRow B e z v n xs) (g : Nat) (hg : v.ownBlock = some g) : ∃ cur, w.heap[g]? = some (.cells cur e (0, 0)) := by
  obtain ⟨_, ⟨h2, _⟩ | ⟨g', cap, cur, hv, _, hh, _⟩⟩ := h
  · rw [h2] at hg; cases hg
  · rw [hv] at hg; simp only [Value.ownBlock, Option.some.injEq] at hg; subst hg; exact ⟨cur, hh⟩
theorem tag_ne {w : World} {g g' : Nat} {a b : Array Value} {T U : TypeId} (h : w.heap[g]? = some (.cells a T (0, 0))) (h' : w.heap[g']? = some (.cells b U (0, 0))) (hT : T ≠ U) : g ≠ g' := by
  intro e
  subst e
  rw [h] at h'
  injection h' with h'
  injection h' with _ h2
  exact hT h2
theorem Hs.own (x : Hs) (g : Nat) (h : x.v.ownBlock = some g) : g = x.H := by
  unfold Hs.v at h; simp only [Value.ownBlock, Option.some.injEq] at h; exact h.symm
theorem HsOk.lt {w : World} {X : Nat → Prop} {B : Nat} {sec : ByteArray} {k : Nat} {x : Hs} (h : HsOk w X B sec k x) : x.H < w.heap.size := (Dv.ownsRow_lt h.had x.H rfl).2
theorem HsOk.chg {w w' : World} {X X' P : Nat → Prop} {B : Nat} {sec : ByteArray} {k : Nat} {x : Hs} (h : HsOk w X B sec k x) (hc : Dv.Chg w w' P) (h1 : ¬ P x.H) (h2 : ¬ P x.G) (hX : ∀ g, g < w.heap.size → X' g → X g) : HsOk w' X' B sec k x :=
  ⟨h.tld, row_chg h.had hc fun g hg => by rw [Hs.own _ _ hg]; exact h1, fun hx => h.hadO (hX x.H h.lt hx), h.img.chg hc h2, fun hx => h.imgO (hX _ h.img.lt hx)⟩
theorem map_ne_cells {P : Program} {w : World} {b n : Nat} {f : Int → Option Value} (h : MapF P w b n f) {k : Nat} {cur : Array Value} {T : TypeId} {fr : Nat × Nat} (hh : w.heap[k]? = some (.cells cur T fr)) : k ≠ b := by
  obtain ⟨D, ⟨es, clock, hb, _⟩, _⟩ := h
  intro e; subst e; rw [hb] at hh; cases hh
theorem row_fresh {w : World} {b B : Nat} {e : TypeId} {z n : Nat} {xs : List Value} (h : Blk w b xs.toArray e) (hB : B ≤ b) (hl : n ≤ maxLen) (hn : xs.length = n * z) : w.ownsRow B e z (.slice (some ⟨b, 0, none⟩) n n) n xs :=
  ⟨hn, Or.inr ⟨b, n, xs.toArray, rfl, hB, h, Nat.le_refl _, hl, by simpa using hn, by rw [← hn]; simp⟩⟩
/-- A row of at least one has a block of its own. -/
theorem row_val {w : World} {B : Nat} {e : TypeId} {z : Nat} {v : Value} {n : Nat} {xs : List Value} (h : w.ownsRow B e z v n xs) (hn : 0 < n * z) : ∃ g cap, v = .slice (some ⟨g, 0, none⟩) n cap ∧ B ≤ g ∧ g < w.heap.size ∧ ∀ (j : Nat) (u : Value), xs[j]? = some u → w.cell? ⟨g, j, none⟩ = some u := by
  obtain ⟨h1, ⟨h2, h3⟩ | ⟨g, cap, cur, hv, hgB, hh, _, _, _, ht⟩⟩ := h
  · exfalso; rw [h3] at hn; simp at hn
  · refine ⟨g, cap, hv, hgB, ?_, fun j u hj => ?_⟩
    · rcases Nat.lt_or_ge g w.heap.size with h' | h'
      · exact h'
      · simp [Array.getElem?_eq_none h'] at hh
    · simp only [World.cell?, hh]
      rw [← ht, List.getElem?_take] at hj
      split at hj
      · simpa using hj
      · cases hj
/-- All that is known. -/
structure Ld (w0 w : World) (D C VB CB : Nat) (sec : ByteArray) (m nn : Nat) (O : Nat → Prop) (dv : Value) (lf : Int) (S : Nat → Nat → UInt8) (f : Nat → Bool) (p : Int → Option (Int × ByteArray)) (r : ByteArray) (vH vI : Value) (LH LI : List Value) (hs : List Hs) : Prop where
  vlt : Vlt w VB D C sec (m : Int) 1 f r CB nn p false
  dev : Dv.Dev w O D S [] (-1) dv lf
  cnt : Dv.Cnt w C (m : Int)
  tld : Tld S sec m f p
  own : ∀ k, O k → w0.heap.size ≤ k ∧ k < w.heap.size
  o1 : ¬ O VB
  o2 : ¬ O C
  o3 : VB ≠ C
  lo : w0.heap.size ≤ C ∧ w0.heap.size ≤ VB
  rowH : w.ownsRow w0.heap.size 23 1 vH LH.length LH
  rowHO : ∀ g, vH.ownBlock = some g → ¬ Busy O C VB g
  rowI : w.ownsRow w0.heap.size 23 1 vI LI.length LI
  rowIO : ∀ g, vI.ownBlock = some g → ¬ Busy O C VB g
  apart : ∀ g, vH.ownBlock = some g → vI.ownBlock ≠ some g
  each : ∀ k y, hs[k]? = some y → HsOk w (Busy O C VB) w0.heap.size sec k y
  bel : Below w0.heap.size w0 w
section
variable {w0 w w' : World} {D C VB CB : Nat} {sec : ByteArray} {m nn : Nat} {O : Nat → Prop} {dv : Value} {lf : Int} {S : Nat → Nat → UInt8} {f : Nat → Bool} {p : Int → Option (Int × ByteArray)} {r : ByteArray} {vH vI : Value} {LH LI : List Value} {hs : List Hs}
theorem Ld.below (h : Ld w0 w D C VB CB sec m nn O dv lf S f p r vH vI LH LI hs) (hb : Below w.heap.size w w') : Ld w0 w' D C VB CB sec m nn O dv lf S f p r vH vI LH LI hs := by
  have hc : Dv.Chg w w' (fun _ => False) := Dv.Chg.of hb _
  exact ⟨h.vlt.below hb h.vlt.blk.lt h.vlt.map.lt, h.dev.below hb, h.cnt.below hb h.cnt.lt, h.tld, fun k hk => ⟨(h.own k hk).1, Nat.lt_of_lt_of_le (h.own k hk).2 hb.size⟩, h.o1, h.o2, h.o3, h.lo,
    row_chg h.rowH hc (fun _ _ hf => hf), h.rowHO, row_chg h.rowI hc (fun _ _ hf => hf), h.rowIO, h.apart, fun k y hy => (h.each k y hy).chg hc (fun hf => hf) (fun hf => hf) (fun _ _ hx => hx), h.bel.trans (hb.mono h.bel.size)⟩
theorem Ld.busy (h : Ld w0 w D C VB CB sec m nn O dv lf S f p r vH vI LH LI hs) (k : Nat) (hk : Busy O C VB k) : w0.heap.size ≤ k ∧ k < w.heap.size := by
  have h1 := h.lo
  have h2 := h.cnt.lt
  have h3 := h.vlt.blk.lt
  rcases hk with hk | rfl | rfl
  · exact h.own k hk
  · exact ⟨h1.1, h2⟩
  · exact ⟨h1.2, h3⟩
/-- Behind a Tell. -/
theorem Ld.told (h : Ld w0 w D C VB CB sec m nn O dv lf S f p r vH vI LH LI hs) {CB' n' : Nat} {O' : Nat → Prop} {v' : Value} {l' : Int} {S' : Nat → Nat → UInt8} {f' : Nat → Bool} {p' : Int → Option (Int × ByteArray)} {r' : ByteArray}
    (hV : Vlt w' VB D C sec ((m + 1 : Nat) : Int) 1 f' r' CB' n' p' false) (hT : Tld S' sec (m + 1) f' p') (hD : Dv.Dev w' O' D S' [] (-1) v' l') (hO : ∀ k, O' k → Dv.gro O w w' k) (hC : Dv.Cnt w' C ((m + 1 : Nat) : Int)) (hc : Dv.Chg w w' (Busy O C VB)) :
    Ld w0 w' D C VB CB' sec (m + 1) n' O' v' l' S' f' p' r' vH vI LH LI hs := by
  have hb : ∀ g, g < w.heap.size → Busy O' C VB g → Busy O C VB g := fun g hg hx => by
    rcases hx with hx | hx
    · rcases hO g hx with h1 | h1
      · exact Or.inl h1
      · exact absurd hg (by omega)
    · exact Or.inr hx
  have hw := h.bel.size
  have hlC := h.cnt.lt
  have hlV := h.vlt.blk.lt
  refine ⟨hV, hD, hC, hT, fun k hk => ?_, fun hx => ?_, fun hx => ?_, h.o3, h.lo, row_chg h.rowH hc h.rowHO, fun g hg hx => h.rowHO g hg (hb g (Dv.ownsRow_lt h.rowH g hg).2 hx), row_chg h.rowI hc h.rowIO, fun g hg hx => h.rowIO g hg (hb g (Dv.ownsRow_lt h.rowI g hg).2 hx), h.apart, fun k y hy => ?_, hc.to h.bel hw fun k hk => (h.busy k hk).1⟩
  · rcases hO k hk with h1 | h1
    · exact ⟨(h.own k h1).1, Nat.lt_of_lt_of_le (h.own k h1).2 hc.size⟩
    · exact ⟨by omega, h1.2⟩
  · rcases hO _ hx with h1 | h1
    · exact h.o1 h1
    · omega
  · rcases hO _ hx with h1 | h1
    · exact h.o2 h1
    · omega
  · have hy' := h.each k y hy
    exact hy'.chg hc hy'.hadO hy'.imgO hb
/-- Behind a growth of a row of rows. -/
theorem Ld.grown (h : Ld w0 w D C VB CB sec m nn O dv lf S f p r vH vI LH LI hs) {row : Option Nat} (hg : w.grownBy w' row) (ht : ∀ g, row = some g → ∃ cur, w.heap[g]? = some (.cells cur 23 (0, 0))) (hX : ∀ g, row = some g → ¬ Busy O C VB g) :
    (Vlt w' VB D C sec (m : Int) 1 f r CB nn p false ∧ Dv.Dev w' O D S [] (-1) dv lf ∧ Dv.Cnt w' C (m : Int)) ∧ (∀ k y, hs[k]? = some y → HsOk w' (Busy O C VB) w0.heap.size sec k y) ∧ Dv.Chg w w' (fun k => row = some k) := by
  have hc : Dv.Chg w w' (fun k => row = some k) := (Dv.Chg.refl w _).grown hg (fun k hk => Or.inl hk)
  have hvb : row ≠ some VB := fun e => hX _ e (Or.inr (Or.inr rfl))
  have hcb : row ≠ some CB := fun e => by
    obtain ⟨cur, hh⟩ := ht _ e
    exact map_ne_cells h.vlt.map hh rfl
  have hcc : row ≠ some C := fun e => hX _ e (Or.inr (Or.inl rfl))
  refine ⟨⟨h.vlt.same (hc.block _ h.vlt.blk.lt hvb) (hc.block _ h.vlt.map.lt hcb), h.dev.chg hc (fun k hk e => hX _ e (Or.inl hk)), h.cnt.chg hc hcc⟩, fun k y hy => ?_, hc⟩
  have hy' := h.each k y hy
  refine hy'.chg hc (fun e => ?_) (fun e => ?_) (fun _ _ hx => hx)
  · obtain ⟨cur, hh⟩ := ht _ e
    obtain ⟨cur', hh'⟩ := row_tag hy'.had y.H rfl
    exact tag_ne hh hh' (by decide) rfl
  · obtain ⟨cur, hh⟩ := ht _ e
    exact tag_ne hh hy'.img (by decide) rfl
theorem Ld.pushH (h : Ld w0 w D C VB CB sec m nn O dv lf S f p r vH vI LH LI hs) {v v2 : Value} {g : Nat} (hg2 : v2.ownBlock = some g) (ow : w'.ownsRow w0.heap.size 23 1 v2 (LH.length + 1) (LH ++ [v])) (gr : w.grownBy w' vH.ownBlock) (hat : vH.ownBlock = some g ∨ g = w.heap.size) :
    Ld w0 w' D C VB CB sec m nn O dv lf S f p r v2 vI (LH ++ [v]) LI hs ∧ Dv.Chg w w' (fun k => vH.ownBlock = some k) := by
  obtain ⟨⟨a1, a2, a3⟩, a4, hc⟩ := h.grown gr (fun g hg => row_tag h.rowH g hg) h.rowHO
  refine ⟨⟨a1, a2, a3, h.tld, fun k hk => ⟨(h.own k hk).1, Nat.lt_of_lt_of_le (h.own k hk).2 hc.size⟩, h.o1, h.o2, h.o3, h.lo, by rw [List.length_append]; exact ow, fun k hk hx => ?_, row_chg h.rowI hc (fun k hk e => h.apart k e hk), h.rowIO, fun k hk hi => ?_, a4, h.bel.grown gr h.bel.size fun k hk => (Dv.ownsRow_lt h.rowH k hk).1⟩, hc⟩
  · have e : k = g := by rw [hg2] at hk; injection hk with hk; exact hk.symm
    subst e
    rcases hat with ha | ha
    · exact h.rowHO _ ha hx
    · have := (h.busy _ hx).2; omega
  · have e : k = g := by rw [hg2] at hk; injection hk with hk; exact hk.symm
    subst e
    rcases hat with ha | ha
    · exact h.apart _ ha hi
    · have := (Dv.ownsRow_lt h.rowI _ hi).2; omega
theorem Ld.pushI (h : Ld w0 w D C VB CB sec m nn O dv lf S f p r vH vI LH LI hs) {v v2 : Value} {g : Nat} (hg2 : v2.ownBlock = some g) (ow : w'.ownsRow w0.heap.size 23 1 v2 (LI.length + 1) (LI ++ [v])) (gr : w.grownBy w' vI.ownBlock) (hat : vI.ownBlock = some g ∨ g = w.heap.size) :
    Ld w0 w' D C VB CB sec m nn O dv lf S f p r vH v2 LH (LI ++ [v]) hs ∧ Dv.Chg w w' (fun k => vI.ownBlock = some k) := by
  obtain ⟨⟨a1, a2, a3⟩, a4, hc⟩ := h.grown gr (fun g hg => row_tag h.rowI g hg) h.rowIO
  refine ⟨⟨a1, a2, a3, h.tld, fun k hk => ⟨(h.own k hk).1, Nat.lt_of_lt_of_le (h.own k hk).2 hc.size⟩, h.o1, h.o2, h.o3, h.lo, row_chg h.rowH hc (fun k hk e => h.apart k hk e), h.rowHO, by rw [List.length_append]; exact ow, fun k hk hx => ?_, fun k hk hi => ?_, a4, h.bel.grown gr h.bel.size fun k hk => (Dv.ownsRow_lt h.rowI k hk).1⟩, hc⟩
  · have e : k = g := by rw [hg2] at hk; injection hk with hk; exact hk.symm
    subst e
    rcases hat with ha | ha
    · exact h.rowIO _ ha hx
    · have := (h.busy _ hx).2; omega
  · have e : k = g := by rw [hg2] at hi; injection hi with hi; exact hi.symm
    subst e
    rcases hat with ha | ha
    · exact h.apart _ hk ha
    · have := (Dv.ownsRow_lt h.rowH _ hk).2; omega
theorem Ld.setH (h : Ld w0 w D C VB CB sec m nn O dv lf S f p r vH vI LH LI hs) {v2 : Value} {L2 : List Value} (h1 : w.ownsRow w0.heap.size 23 1 v2 L2.length L2) (h2 : ∀ g, v2.ownBlock = some g → ¬ Busy O C VB g) (h3 : ∀ g, v2.ownBlock = some g → vI.ownBlock ≠ some g) :
    Ld w0 w D C VB CB sec m nn O dv lf S f p r v2 vI L2 LI hs :=
  ⟨h.vlt, h.dev, h.cnt, h.tld, h.own, h.o1, h.o2, h.o3, h.lo, h1, h2, h.rowI, h.rowIO, h3, h.each, h.bel⟩
theorem Ld.setI (h : Ld w0 w D C VB CB sec m nn O dv lf S f p r vH vI LH LI hs) {v2 : Value} {L2 : List Value} (h1 : w.ownsRow w0.heap.size 23 1 v2 L2.length L2) (h2 : ∀ g, v2.ownBlock = some g → ¬ Busy O C VB g) (h3 : ∀ g, vH.ownBlock = some g → v2.ownBlock ≠ some g) :
    Ld w0 w D C VB CB sec m nn O dv lf S f p r vH v2 LH L2 hs :=
  ⟨h.vlt, h.dev, h.cnt, h.tld, h.own, h.o1, h.o2, h.o3, h.lo, h.rowH, h.rowHO, h1, h2, h3, h.each, h.bel⟩
/-- One more that was told is known. -/
theorem Ld.more (h : Ld w0 w D C VB CB sec m nn O dv lf S f p r vH vI LH LI hs) (y : Hs) (hl : hs.length = m) (hS : y.S = S) (hf : y.f = f) (hp : y.p = p) (h1 : w.ownsRow w0.heap.size 9 1 y.v 32 (Tr.strs (txt p) 32)) (h2 : ¬ Busy O C VB y.H) (h3 : Blk w y.G (Dv.ts 66 fun k => sb 256 (S k)) 9) (h4 : ¬ Busy O C VB y.G) :
    Ld w0 w D C VB CB sec m nn O dv lf S f p r vH vI LH LI (hs ++ [y]) := by
  refine ⟨h.vlt, h.dev, h.cnt, h.tld, h.own, h.o1, h.o2, h.o3, h.lo, h.rowH, h.rowHO, h.rowI, h.rowIO, h.apart, fun k x hx => ?_, h.bel⟩
  rw [List.getElem?_append] at hx
  split at hx
  · exact h.each k x hx
  · rename_i hk
    obtain ⟨j, hj⟩ : ∃ j, k - hs.length = j := ⟨_, rfl⟩
    rw [hj] at hx
    match j, hx with
    | 0, hx =>
      simp at hx
      subst hx
      obtain rfl : k = m := by omega
      subst hS hf hp
      exact ⟨h.tld, h1, h2, h3, h4⟩
end
section
variable {P : Program} {ops : Array Oper} {Q : Exit → Act → World → Prop} {a : Act} {w : World} {rest : List Oper} {o : Oper}
/-- One element, of whatever many cells, appended to a slice that the call has made. -/
theorem wpl_pushR (hgd : o.guard = none) (s x : Operand) (t : TypeId) (ho : o.op = .call { callee := .builtin .append, args := #[s, x], argTypes := #[t, t] })
    (B : Nat) (e : TypeId) (z : Value) (size bytes : Nat) (ht : P.underlying t = some (.slice e)) (hinfo : (P.info? e).map (fun i => (i.zero, i.size, i.bytes)) = some (some z, size, bytes)) (hz1 : z.cells.size = size) (hsz : 0 < size)
    (v : Value) (n : Nat) (xs : List Value) (hs : a.eval s = v) (hown : w.ownsRow B e size v n xs) (sb c : Nat) (news : List Value) (hx : a.eval x = .slice (some ⟨sb, 0, none⟩) 1 c) (T : TypeId) (hu : Blk w sb news.toArray T) (hl : news.length = size) (hu1 : ∀ u ∈ news, u.oneCell' = true)
    (hlen : n < 100000) (hby : bytes ≤ 1000) (hbase : B ≤ w.heap.size)
    (h : ∀ g cap w', w'.ownsRow B e size (.slice (some ⟨g, 0, none⟩) (n + 1) cap) (n + 1) (xs ++ news) → w.grownBy w' v.ownBlock → (v.ownBlock = some g ∨ g = w.heap.size) → g < w'.heap.size → wpList P ops Q rest (a.put o.dst (.slice (some ⟨g, 0, none⟩) (n + 1) cap)) w') :
    wpList P ops Q (o :: rest) a w := by
  obtain ⟨i, hi, hp⟩ := Option.map_eq_some_iff.1 hinfo
  simp only [Prod.mk.injEq] at hp
  obtain ⟨p1, p2, p3⟩ := hp
  refine wpList_append_lies w hgd s x t ho B e i z size bytes ht hi p1 p2 p3 hz1 hsz v n xs hs hown ⟨sb, 0, none⟩ 1 c news hx (by omega) ?_ hu1 (by decide) (by unfold maxLen; omega) ?_ hbase w.heap.size rfl ?_
  · intro j u hj
    rw [addr_add, hu.cell]; simpa using hj
  · have := Nat.mul_le_mul (show n + 1 ≤ 100000 by omega) hby; omega
  · intro g cap w' h1 h2 h3 h4
    exact h g cap w' h1 h2 h3 h4
end
theorem infoTexts : (Tryz.prog.info? 23).map (fun i => (i.zero, i.size, i.bytes)) = some (some (.slice none 0 0), 1, 24) := by kernel_rfl
end Go.Proofs.YtkapkphhceknfaaGreatDoor.Vt
