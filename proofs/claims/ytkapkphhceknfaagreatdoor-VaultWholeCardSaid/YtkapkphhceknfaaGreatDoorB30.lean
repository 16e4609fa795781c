/-
  Part of the proof: what is known while lists are told: the vault, the device, and what was had behind each.
  Part of the proof: laid is walked: lists are told, one behind the other.
  Part of the proof: a device that is laid down again is opened; texts that are the same are equal.
-/
import Derived.Test.YtkapkphhceknfaaGreatDoorB29
import Derived.Test.YtkapkphhceknfaaGreatDoorB16
namespace Go.Proofs.YtkapkphhceknfaaGreatDoor.Vt
open Go.RowKit
/-- One state that was told: its device, its sides, its pages, the row of its pages' texts, its image's block. -/
structure Hs where
  S : Nat → Nat → UInt8
  f : Nat → Bool
  p : Int → Option (Int × ByteArray)
  H : Nat
  hc : Nat
  G : Nat
/-- The row of its pages' texts, and its image. -/
def Hs.v (x : Hs) : Value := .slice (some ⟨x.H, 0, none⟩) 32 x.hc
def Hs.i (x : Hs) : Value := .slice (some ⟨x.G, 0, none⟩) 66 66
/-- What a Tell changes. -/
def Busy (O : Nat → Prop) (C VB : Nat) (k : Nat) : Prop := O k ∨ k = C ∨ k = VB
/-- What is known of one that was told. -/
structure HsOk (w : World) (X : Nat → Prop) (B : Nat) (sec : ByteArray) (k : Nat) (x : Hs) : Prop where
  tld : Tld x.S sec k x.f x.p
  had : w.ownsRow B 9 1 x.v 32 (Tr.strs (txt x.p) 32)
  hadO : ¬ X x.H
  img : Blk w x.G (Dv.ts 66 fun k => sb 256 (x.S k)) 9
  imgO : ¬ X x.G
theorem row_chg {w w' : World} {P : Nat → Prop} {B : Nat} {e : TypeId} {z : Nat} {v : Value} {n : Nat} {xs : List Value} (h : w.ownsRow B e z v n xs) (hc : Dv.Chg w w' P) (hP : ∀ g, v.ownBlock = some g → ¬ P g) : w'.ownsRow B e z v n xs :=
  Dv.ownsRow_same h fun g hg => hc.block g (Dv.ownsRow_lt h g hg).2 (hP g hg)
theorem row_tag {w : World} {B : Nat} {e : TypeId} {z : Nat} {v : Value} {n : Nat} {xs : List Value} (h : w.ownsRow B e z v n xs) (g : Nat) (hg : v.ownBlock = some g) : ∃ cur, w.heap[g]? = some (.cells cur e (0, 0)) := by
  obtain ⟨_, ⟨h2, _⟩ | ⟨g', cap, cur, hv, _, hh, _⟩⟩ := h
  · rw [h2] at hg; cases hg
  · rw [hv] at hg; simp only [Value.ownBlock, Option.some.injEq] at hg; subst hg; exact ⟨cur, hh⟩
theorem tag_ne {w : World} {g g' : Nat} {a b : Array Value} {T U : TypeId} (h : w.heap[g]? = some (.cells a T (0, 0))) (h' : w.heap[g']? = some (.cells b U (0, 0))) (hT : T ≠ U) : g ≠ g' := by
  intro e
  subst e
  rw [h] at h'
  injection h' with h'
  injection h' with _ h2
  exact hT h2
theorem Hs.own (x : Hs) (g : Nat) (h : x.v.ownBlock = some g) : g = x.H := by
  unfold Hs.v at h; simp only [Value.ownBlock, Option.some.injEq] at h; exact h.symm
theorem HsOk.lt {w : World} {X : Nat → Prop} {B : Nat} {sec : ByteArray} {k : Nat} {x : Hs} (h : HsOk w X B sec k x) : x.H < w.heap.size := (Dv.ownsRow_lt h.had x.H rfl).2
theorem HsOk.chg {w w' : World} {X X' P : Nat → Prop} {B : Nat} {sec : ByteArray} {k : Nat} {x : Hs} (h : HsOk w X B sec k x) (hc : Dv.Chg w w' P) (h1 : ¬ P x.H) (h2 : ¬ P x.G) (hX : ∀ g, g < w.heap.size → X' g → X g) : HsOk w' X' B sec k x :=
  ⟨h.tld, row_chg h.had hc fun g hg => by rw [Hs.own _ _ hg]; exact h1, fun hx => h.hadO (hX x.H h.lt hx), h.img.chg hc h2, fun hx => h.imgO (hX _ h.img.lt hx)⟩
theorem map_ne_cells {P : Program} {w : World} {b n : Nat} {f : Int → Option Value} (h : MapF P w b n f) {k : Nat} {cur : Array Value} {T : TypeId} {fr : Nat × Nat} (hh : w.heap[k]? = some (.cells cur T fr)) : k ≠ b := by
  obtain ⟨D, ⟨es, clock, hb, _⟩, _⟩ := h
  intro e; subst e; rw [hb] at hh; cases hh
theorem row_fresh {w : World} {b B : Nat} {e : TypeId} {z n : Nat} {xs : List Value} (h : Blk w b xs.toArray e) (hB : B ≤ b) (hl : n ≤ maxLen) (hn : xs.length = n * z) : w.ownsRow B e z (.slice (some ⟨b, 0, none⟩) n n) n xs :=
  ⟨hn, Or.inr ⟨b, n, xs.toArray, rfl, hB, h, Nat.le_refl _, hl, by simpa using hn, by rw [← hn]; simp⟩⟩
/-- A row of at least one has a block of its own. -/
theorem row_val {w : World} {B : Nat} {e : TypeId} {z : Nat} {v : Value} {n : Nat} {xs : List Value} (h : w.ownsRow B e z v n xs) (hn : 0 < n * z) : ∃ g cap, v = .slice (some ⟨g, 0, none⟩) n cap ∧ B ≤ g ∧ g < w.heap.size ∧ ∀ (j : Nat) (u : Value), xs[j]? = some u → w.cell? ⟨g, j, none⟩ = some u := by
  obtain ⟨h1, ⟨h2, h3⟩ | ⟨g, cap, cur, hv, hgB, hh, _, _, _, ht⟩⟩ := h
  · exfalso; rw [h3] at hn; simp at hn
  · refine ⟨g, cap, hv, hgB, ?_, fun j u hj => ?_⟩
    · rcases Nat.lt_or_ge g w.heap.size with h' | h'
      · exact h'
      · simp [Array.getElem?_eq_none h'] at hh
    · simp only [World.cell?, hh]
      rw [← ht, List.getElem?_take] at hj
      split at hj
      · simpa using hj
      · cases hj
/-- All that is known. -/
structure Ld (w0 w : World) (D C VB CB : Nat) (sec : ByteArray) (m nn : Nat) (O : Nat → Prop) (dv : Value) (lf : Int) (S : Nat → Nat → UInt8) (f : Nat → Bool) (p : Int → Option (Int × ByteArray)) (r : ByteArray) (vH vI : Value) (LH LI : List Value) (hs : List Hs) : Prop where
  vlt : Vlt w VB D C sec (m : Int) 1 f r CB nn p false
  dev : Dv.Dev w O D S [] (-1) dv lf
  cnt : Dv.Cnt w C (m : Int)
  tld : Tld S sec m f p
  own : ∀ k, O k → w0.heap.size ≤ k ∧ k < w.heap.size
  o1 : ¬ O VB
  o2 : ¬ O C
  o3 : VB ≠ C
  lo : w0.heap.size ≤ C ∧ w0.heap.size ≤ VB
  rowH : w.ownsRow w0.heap.size 23 1 vH LH.length LH
  rowHO : ∀ g, vH.ownBlock = some g → ¬ Busy O C VB g
  rowI : w.ownsRow w0.heap.size 23 1 vI LI.length LI
  rowIO : ∀ g, vI.ownBlock = some g → ¬ Busy O C VB g
  apart : ∀ g, vH.ownBlock = some g → vI.ownBlock ≠ some g
  each : ∀ k y, hs[k]? = some y → HsOk w (Busy O C VB) w0.heap.size sec k y
  bel : Below w0.heap.size w0 w
section
variable {w0 w w' : World} {D C VB CB : Nat} {sec : ByteArray} {m nn : Nat} {O : Nat → Prop} {dv : Value} {lf : Int} {S : Nat → Nat → UInt8} {f : Nat → Bool} {p : Int → Option (Int × ByteArray)} {r : ByteArray} {vH vI : Value} {LH LI : List Value} {hs : List Hs}
theorem Ld.below (h : Ld w0 w D C VB CB sec m nn O dv lf S f p r vH vI LH LI hs) (hb : Below w.heap.size w w') : Ld w0 w' D C VB CB sec m nn O dv lf S f p r vH vI LH LI hs := by
  have hc : Dv.Chg w w' (fun _ => False) := Dv.Chg.of hb _
  exact ⟨h.vlt.below hb h.vlt.blk.lt h.vlt.map.lt, h.dev.below hb, h.cnt.below hb h.cnt.lt, h.tld, fun k hk => ⟨(h.own k hk).1, Nat.lt_of_lt_of_le (h.own k hk).2 hb.size⟩, h.o1, h.o2, h.o3, h.lo,
    row_chg h.rowH hc (fun _ _ hf => hf), h.rowHO, row_chg h.rowI hc (fun _ _ hf => hf), h.rowIO, h.apart, fun k y hy => (h.each k y hy).chg hc (fun hf => hf) (fun hf => hf) (fun _ _ hx => hx), h.bel.trans (hb.mono h.bel.size)⟩
theorem Ld.busy (h : Ld w0 w D C VB CB sec m nn O dv lf S f p r vH vI LH LI hs) (k : Nat) (hk : Busy O C VB k) : w0.heap.size ≤ k ∧ k < w.heap.size := by
  have h1 := h.lo
  have h2 := h.cnt.lt
  have h3 := h.vlt.blk.lt
  rcases hk with hk | rfl | rfl
  · exact h.own k hk
  · exact ⟨h1.1, h2⟩
  · exact ⟨h1.2, h3⟩
/-- Behind a Tell. -/
theorem Ld.told (h : Ld w0 w D C VB CB sec m nn O dv lf S f p r vH vI LH LI hs) {CB' n' : Nat} {O' : Nat → Prop} {v' : Value} {l' : Int} {S' : Nat → Nat → UInt8} {f' : Nat → Bool} {p' : Int → Option (Int × ByteArray)} {r' : ByteArray}
    (hV : Vlt w' VB D C sec ((m + 1 : Nat) : Int) 1 f' r' CB' n' p' false) (hT : Tld S' sec (m + 1) f' p') (hD : Dv.Dev w' O' D S' [] (-1) v' l') (hO : ∀ k, O' k → Dv.gro O w w' k) (hC : Dv.Cnt w' C ((m + 1 : Nat) : Int)) (hc : Dv.Chg w w' (Busy O C VB)) :
    Ld w0 w' D C VB CB' sec (m + 1) n' O' v' l' S' f' p' r' vH vI LH LI hs := by
  have hb : ∀ g, g < w.heap.size → Busy O' C VB g → Busy O C VB g := fun g hg hx => by
    rcases hx with hx | hx
    · rcases hO g hx with h1 | h1
      · exact Or.inl h1
      · exact absurd hg (by omega)
    · exact Or.inr hx
  have hw := h.bel.size
  have hlC := h.cnt.lt
  have hlV := h.vlt.blk.lt
  refine ⟨hV, hD, hC, hT, fun k hk => ?_, fun hx => ?_, fun hx => ?_, h.o3, h.lo, row_chg h.rowH hc h.rowHO, fun g hg hx => h.rowHO g hg (hb g (Dv.ownsRow_lt h.rowH g hg).2 hx), row_chg h.rowI hc h.rowIO, fun g hg hx => h.rowIO g hg (hb g (Dv.ownsRow_lt h.rowI g hg).2 hx), h.apart, fun k y hy => ?_, hc.to h.bel hw fun k hk => (h.busy k hk).1⟩
  · rcases hO k hk with h1 | h1
    · exact ⟨(h.own k h1).1, Nat.lt_of_lt_of_le (h.own k h1).2 hc.size⟩
    · exact ⟨by omega, h1.2⟩
  · rcases hO _ hx with h1 | h1
    · exact h.o1 h1
    · omega
  · rcases hO _ hx with h1 | h1
    · exact h.o2 h1
    · omega
  · have hy' := h.each k y hy
    exact hy'.chg hc hy'.hadO hy'.imgO hb
/-- Behind a growth of a row of rows. -/
theorem Ld.grown (h : Ld w0 w D C VB CB sec m nn O dv lf S f p r vH vI LH LI hs) {row : Option Nat} (hg : w.grownBy w' row) (ht : ∀ g, row = some g → ∃ cur, w.heap[g]? = some (.cells cur 23 (0, 0))) (hX : ∀ g, row = some g → ¬ Busy O C VB g) :
    (Vlt w' VB D C sec (m : Int) 1 f r CB nn p false ∧ Dv.Dev w' O D S [] (-1) dv lf ∧ Dv.Cnt w' C (m : Int)) ∧ (∀ k y, hs[k]? = some y → HsOk w' (Busy O C VB) w0.heap.size sec k y) ∧ Dv.Chg w w' (fun k => row = some k) := by
  have hc : Dv.Chg w w' (fun k => row = some k) := (Dv.Chg.refl w _).grown hg (fun k hk => Or.inl hk)
  have hvb : row ≠ some VB := fun e => hX _ e (Or.inr (Or.inr rfl))
  have hcb : row ≠ some CB := fun e => by
    obtain ⟨cur, hh⟩ := ht _ e
    exact map_ne_cells h.vlt.map hh rfl
  have hcc : row ≠ some C := fun e => hX _ e (Or.inr (Or.inl rfl))
  refine ⟨⟨h.vlt.same (hc.block _ h.vlt.blk.lt hvb) (hc.block _ h.vlt.map.lt hcb), h.dev.chg hc (fun k hk e => hX _ e (Or.inl hk)), h.cnt.chg hc hcc⟩, fun k y hy => ?_, hc⟩
  have hy' := h.each k y hy
  refine hy'.chg hc (fun e => ?_) (fun e => ?_) (fun _ _ hx => hx)
  · obtain ⟨cur, hh⟩ := ht _ e
    obtain ⟨cur', hh'⟩ := row_tag hy'.had y.H rfl
    exact tag_ne hh hh' (by decide) rfl
  · obtain ⟨cur, hh⟩ := ht _ e
    exact tag_ne hh hy'.img (by decide) rfl
theorem Ld.pushH (h : Ld w0 w D C VB CB sec m nn O dv lf S f p r vH vI LH LI hs) {v v2 : Value} {g : Nat} (hg2 : v2.ownBlock = some g) (ow : w'.ownsRow w0.heap.size 23 1 v2 (LH.length + 1) (LH ++ [v])) (gr : w.grownBy w' vH.ownBlock) (hat : vH.ownBlock = some g ∨ g = w.heap.size) :
    Ld w0 w' D C VB CB sec m nn O dv lf S f p r v2 vI (LH ++ [v]) LI hs ∧ Dv.Chg w w' (fun k => vH.ownBlock = some k) := by
  obtain ⟨⟨a1, a2, a3⟩, a4, hc⟩ := h.grown gr (fun g hg => row_tag h.rowH g hg) h.rowHO
  refine ⟨⟨a1, a2, a3, h.tld, fun k hk => ⟨(h.own k hk).1, Nat.lt_of_lt_of_le (h.own k hk).2 hc.size⟩, h.o1, h.o2, h.o3, h.lo, by rw [List.length_append]; exact ow, fun k hk hx => ?_, row_chg h.rowI hc (fun k hk e => h.apart k e hk), h.rowIO, fun k hk hi => ?_, a4, h.bel.grown gr h.bel.size fun k hk => (Dv.ownsRow_lt h.rowH k hk).1⟩, hc⟩
  · have e : k = g := by rw [hg2] at hk; injection hk with hk; exact hk.symm
    subst e
    rcases hat with ha | ha
    · exact h.rowHO _ ha hx
    · have := (h.busy _ hx).2; omega
  · have e : k = g := by rw [hg2] at hk; injection hk with hk; exact hk.symm
    subst e
    rcases hat with ha | ha
    · exact h.apart _ ha hi
    · have := (Dv.ownsRow_lt h.rowI _ hi).2; omega
theorem Ld.pushI (h : Ld w0 w D C VB CB sec m nn O dv lf S f p r vH vI LH LI hs) {v v2 : Value} {g : Nat} (hg2 : v2.ownBlock = some g) (ow : w'.ownsRow w0.heap.size 23 1 v2 (LI.length + 1) (LI ++ [v])) (gr : w.grownBy w' vI.ownBlock) (hat : vI.ownBlock = some g ∨ g = w.heap.size) :
    Ld w0 w' D C VB CB sec m nn O dv lf S f p r vH v2 LH (LI ++ [v]) hs ∧ Dv.Chg w w' (fun k => vI.ownBlock = some k) := by
  obtain ⟨⟨a1, a2, a3⟩, a4, hc⟩ := h.grown gr (fun g hg => row_tag h.rowI g hg) h.rowIO
  refine ⟨⟨a1, a2, a3, h.tld, fun k hk => ⟨(h.own k hk).1, Nat.lt_of_lt_of_le (h.own k hk).2 hc.size⟩, h.o1, h.o2, h.o3, h.lo, row_chg h.rowH hc (fun k hk e => h.apart k hk e), h.rowHO, by rw [List.length_append]; exact ow, fun k hk hx => ?_, fun k hk hi => ?_, a4, h.bel.grown gr h.bel.size fun k hk => (Dv.ownsRow_lt h.rowI k hk).1⟩, hc⟩
  · have e : k = g := by rw [hg2] at hk; injection hk with hk; exact hk.symm
    subst e
    rcases hat with ha | ha
    · exact h.rowIO _ ha hx
    · have := (h.busy _ hx).2; omega
  · have e : k = g := by rw [hg2] at hi; injection hi with hi; exact hi.symm
    subst e
    rcases hat with ha | ha
    · exact h.apart _ hk ha
    · have := (Dv.ownsRow_lt h.rowH _ hk).2; omega
theorem Ld.setH (h : Ld w0 w D C VB CB sec m nn O dv lf S f p r vH vI LH LI hs) {v2 : Value} {L2 : List Value} (h1 : w.ownsRow w0.heap.size 23 1 v2 L2.length L2) (h2 : ∀ g, v2.ownBlock = some g → ¬ Busy O C VB g) (h3 : ∀ g, v2.ownBlock = some g → vI.ownBlock ≠ some g) :
    Ld w0 w D C VB CB sec m nn O dv lf S f p r v2 vI L2 LI hs :=
  ⟨h.vlt, h.dev, h.cnt, h.tld, h.own, h.o1, h.o2, h.o3, h.lo, h1, h2, h.rowI, h.rowIO, h3, h.each, h.bel⟩
theorem Ld.setI (h : Ld w0 w D C VB CB sec m nn O dv lf S f p r vH vI LH LI hs) {v2 : Value} {L2 : List Value} (h1 : w.ownsRow w0.heap.size 23 1 v2 L2.length L2) (h2 : ∀ g, v2.ownBlock = some g → ¬ Busy O C VB g) (h3 : ∀ g, vH.ownBlock = some g → v2.ownBlock ≠ some g) :
    Ld w0 w D C VB CB sec m nn O dv lf S f p r vH v2 LH L2 hs :=
  ⟨h.vlt, h.dev, h.cnt, h.tld, h.own, h.o1, h.o2, h.o3, h.lo, h.rowH, h.rowHO, h1, h2, h3, h.each, h.bel⟩
/-- One more that was told is known. -/
theorem Ld.more (h : Ld w0 w D C VB CB sec m nn O dv lf S f p r vH vI LH LI hs) (y : Hs) (hl : hs.length = m) (hS : y.S = S) (hf : y.f = f) (hp : y.p = p) (h1 : w.ownsRow w0.heap.size 9 1 y.v 32 (Tr.strs (txt p) 32)) (h2 : ¬ Busy O C VB y.H) (h3 : Blk w y.G (Dv.ts 66 fun k => sb 256 (S k)) 9) (h4 : ¬ Busy O C VB y.G) :
    Ld w0 w D C VB CB sec m nn O dv lf S f p r vH vI LH LI (hs ++ [y]) := by
  refine ⟨h.vlt, h.dev, h.cnt, h.tld, h.own, h.o1, h.o2, h.o3, h.lo, h.rowH, h.rowHO, h.rowI, h.rowIO, h.apart, fun k x hx => ?_, h.bel⟩
  rw [List.getElem?_append] at hx
  split at hx
  · exact h.each k x hx
  · rename_i hk
    obtain ⟨j, hj⟩ : ∃ j, k - hs.length = j := ⟨_, rfl⟩
    rw [hj] at hx
    match j, hx with
    | 0, hx =>
      simp at hx
      subst hx
      obtain rfl : k = m := by omega
      subst hS hf hp
      exact ⟨h.tld, h1, h2, h3, h4⟩
end
section
variable {P : Program} {ops : Array Oper} {Q : Exit → Act → World → Prop} {a : Act} {w : World} {rest : List Oper} {o : Oper}
/-- One element, of whatever many cells, appended to a slice that the call has made. -/
theorem wpl_pushR (hgd : o.guard = none) (s x : Operand) (t : TypeId) (ho : o.op = .call { callee := .builtin .append, args := #[s, x], argTypes := #[t, t] })
    (B : Nat) (e : TypeId) (z : Value) (size bytes : Nat) (ht : P.underlying t = some (.slice e)) (hinfo : (P.info? e).map (fun i => (i.zero, i.size, i.bytes)) = some (some z, size, bytes)) (hz1 : z.cells.size = size) (hsz : 0 < size)
    (v : Value) (n : Nat) (xs : List Value) (hs : a.eval s = v) (hown : w.ownsRow B e size v n xs) (sb c : Nat) (news : List Value) (hx : a.eval x = .slice (some ⟨sb, 0, none⟩) 1 c) (T : TypeId) (hu : Blk w sb news.toArray T) (hl : news.length = size) (hu1 : ∀ u ∈ news, u.oneCell' = true)
    (hlen : n < 100000) (hby : bytes ≤ 1000) (hbase : B ≤ w.heap.size)
    (h : ∀ g cap w', w'.ownsRow B e size (.slice (some ⟨g, 0, none⟩) (n + 1) cap) (n + 1) (xs ++ news) → w.grownBy w' v.ownBlock → (v.ownBlock = some g ∨ g = w.heap.size) → g < w'.heap.size → wpList P ops Q rest (a.put o.dst (.slice (some ⟨g, 0, none⟩) (n + 1) cap)) w') :
    wpList P ops Q (o :: rest) a w := by
  obtain ⟨i, hi, hp⟩ := Option.map_eq_some_iff.1 hinfo
  simp only [Prod.mk.injEq] at hp
  obtain ⟨p1, p2, p3⟩ := hp
  refine wpList_append_lies w hgd s x t ho B e i z size bytes ht hi p1 p2 p3 hz1 hsz v n xs hs hown ⟨sb, 0, none⟩ 1 c news hx (by omega) ?_ hu1 (by decide) (by unfold maxLen; omega) ?_ hbase w.heap.size rfl ?_
  · intro j u hj
    rw [addr_add, hu.cell]; simpa using hj
  · have := Nat.mul_le_mul (show n + 1 ≤ 100000 by omega) hby; omega
  · intro g cap w' h1 h2 h3 h4
    exact h g cap w' h1 h2 h3 h4
end
theorem infoTexts : (Tryz.prog.info? 23).map (fun i => (i.zero, i.size, i.bytes)) = some (some (.slice none 0 0), 1, 24) := by kernel_rfl
end Go.Proofs.YtkapkphhceknfaaGreatDoor.Vt
namespace Go.Proofs.YtkapkphhceknfaaGreatDoor.Vt
open Go.RowKit
theorem results_tmp5 {fn : Func} {t u v x y : Tmp} (h : fn.results = #[.tmp t, .tmp u, .tmp v, .tmp x, .tmp y]) (tmps : Array Value) (P : Program) (w : World) :
    (results fn tmps).run P w = .ok (.tuple #[tmps.getD t undef, tmps.getD u undef, tmps.getD v undef, tmps.getD x undef, tmps.getD y undef]) w := by
  simp [results, h]
theorem rows_ne {w : World} {B B' : Nat} {z z' : Nat} {v v' : Value} {n n' : Nat} {xs xs' : List Value} {e e' : TypeId} (h : w.ownsRow B e z v n xs) (h' : w.ownsRow B' e' z' v' n' xs') (he : e ≠ e') (g : Nat) (hg : v.ownBlock = some g) : v'.ownBlock ≠ some g := fun hg' => by
  obtain ⟨c1, h1⟩ := row_tag h g hg
  obtain ⟨c2, h2⟩ := row_tag h' g hg'
  exact tag_ne h1 h2 he rfl
theorem row_blk_ne {w : World} {B : Nat} {z : Nat} {v : Value} {n : Nat} {xs : List Value} {e T : TypeId} {b : Nat} {arr : Array Value} (h : w.ownsRow B e z v n xs) (h' : Blk w b arr T) (he : e ≠ T) : v.ownBlock ≠ some b := fun hg => by
  obtain ⟨c1, h1⟩ := row_tag h b hg
  exact tag_ne h1 h' he rfl
theorem own_slice {b n c : Nat} {g : Nat} (h : (Value.slice (some ⟨b, 0, none⟩) n c).ownBlock = some g) : g = b := by
  simp only [Value.ownBlock, Option.some.injEq] at h; exact h.symm
set_option maxRecDepth 100000 in
set_option maxHeartbeats 400000 in
theorem laid_any (a : Option Addr) (cap : Nat) (L : List (Option Addr × Nat × List ByteArray)) (w : World) (hL : Lst w a L) (hok : lsB L = true) (hK : Sm.KB w) (sec : ByteArray) (hsec : sec = ⟨#[48, 49, 50, 51, 52, 53, 54, 55, 56, 57, 97, 98, 99, 100, 101, 102]⟩) :
    Calls Tryz.prog 6 #[.slice a L.length cap] w fun e w' => ∃ D C VB CB nn O dv lf S f p r vH vI hs,
      e = .returned (.tuple #[.pointer (some ⟨D, 0, none⟩), .pointer (some ⟨C, 0, none⟩), .pointer (some ⟨VB, 0, none⟩), vH, vI]) ∧
      Ld w w' D C VB CB sec L.length nn O dv lf S f p r vH vI (hs.map Hs.v) (hs.map Hs.i) hs ∧ hs.length = L.length + 1 ∧ nn ≤ 6 * L.length ∧ ∃ y, hs[L.length]? = some y ∧ y.p = p := by
  obtain ⟨hL8, hLx⟩ := lsB_ok hok
  have hs16 : sec.size = 16 := by subst hsec; rfl
  have hsec' : Hid (sec = ⟨#[48, 49, 50, 51, 52, 53, 54, 55, 56, 57, 97, 98, 99, 100, 101, 102]⟩) := hsec
  clear hsec hok
  go_enter Tryz.func6, Tryz.ntmps6
  go_wp2_with fail
  refine (Dv.dnew_any w).mono ?_
  rintro e w2 ⟨rfl, hD2, g2, z2⟩
  have Z2 : Hid (w2.heap.size = w.heap.size + 1) := z2
  clear z2
  have g3 := Pg.below_alloc w2 (.cells #[.int .i64 0] 56)
  have b3 := g2.trans (g3.mono g2.size)
  have hC3 : Dv.Cnt (w2.alloc (.cells #[.int .i64 0] 56)) w2.heap.size 0 := Blk.new w2 _ _
  have hD3 := hD2.below g3
  have z3 : Hid ((w2.alloc (.cells #[.int .i64 0] 56)).heap.size = w2.heap.size + 1) := by unfold Hid; simp
  have ho := fun (s' : ByteArray) (h : s' = sec) => show Calls Tryz.prog 15 #[.pointer (some ⟨w.heap.size, 0, none⟩), .pointer (some ⟨w2.heap.size, 0, none⟩), .string s'] (w2.alloc (.cells #[.int .i64 0] 56)) _ from h ▸ open_0 _ _ _ _ _ _ _ _ sec _ hD3 hC3 (by decide) hs16 (hK.below b3) ((par_zS (supK_size sec)).1)
  have HO : Hid _ := ho
  clear g2 g3 hD2 ho
  go_wp2_with fail
  refine Calls.mono (HO.out _ hsec'.out.symm) ?_
  rintro e w4 ⟨⟨VB, CB, rfl, hV4', hVB, hCB⟩, g4⟩
  have hV4 : Vlt w4 VB w.heap.size w2.heap.size sec ((0 : Nat) : Int) 1 (fun _ => false) ⟨#[]⟩ CB 0 (fun _ => none) false := by rw [hsec'.out]; exact hV4'
  have b4 := b3.trans (g4.mono b3.size)
  have hD4 := hD3.below g4
  have hC4 : Dv.Cnt w4 w2.heap.size ((0 : Nat) : Int) := hC3.below g4 hC3.lt
  have hVl := hV4.blk.lt
  have hCl := hV4.map.lt
  have z4 := g4.size
  rw [z3.out] at hVB hCB z4
  generalize w2.alloc (.cells #[.int .i64 0] 56) = w3 at *
  obtain ⟨D, hDD⟩ : ∃ D, Hid (w.heap.size = D) := ⟨_, rfl⟩
  obtain ⟨C, hCC⟩ : ∃ C, Hid (w2.heap.size = C) := ⟨_, rfl⟩
  have hD4' : Dv.Dev w4 (fun k => k = D) D (fun _ _ => 0) [] (-1) (.slice none 0 0) 0 := by rw [← hDD.out]; exact hD4
  rw [hDD.out] at hV4 Z2
  rw [hCC.out] at hV4 hC4 Z2 hVB hCB z4
  have hw : w.heap.size ≤ w4.heap.size := b4.size
  have hl0 : Ld w w4 D C VB CB sec 0 0 (fun k => k = D) (.slice none 0 0) 0 (fun _ _ => 0) (fun _ => false) (fun _ => none) ⟨#[]⟩ (.slice none 0 0) (.slice none 0 0) [] [] [] :=
    ⟨hV4, hD4', hC4, tld_new sec, fun k hk => by { have := Z2.out; have := hDD.out; subst hk; omega }, fun h => by { have := Z2.out; omega }, fun h => by { have := Z2.out; omega }, by omega, ⟨by { have := Z2.out; have := hDD.out; omega }, by { have := Z2.out; have := hDD.out; omega }⟩,
      ⟨rfl, Or.inl ⟨rfl, rfl⟩⟩, (fun g hg => by cases hg), ⟨rfl, Or.inl ⟨rfl, rfl⟩⟩, (fun g hg => by cases hg), (fun g hg => by cases hg), (fun k y hy => by simp at hy), b4⟩
  rw [hDD.out, hCC.out]
  clear hD3 hC3 b3 HO g4 hV4' z3 hD4 hD4' hC4 hV4 hVl hCl hVB hCB z4
  go_wp2_with fail
  refine (all_any w4 VB D C sec _ 1 _ _ CB 0 _ false hl0.vlt).mono ?_
  rintro e w5 ⟨⟨v5, rfl, ow5⟩, g5⟩
  obtain ⟨H5, c5, rfl, hH5, hH5', _⟩ := row_val ow5 (by decide)
  have hl5 := hl0.below g5
  have s6 := Pg.below_alloc w5 (.cells #[.slice (some ⟨H5, 0, none⟩) 32 c5] 23)
  have hl6 := hl5.below s6
  have ow6 := row_below ow5 s6
  have B6 : Blk (w5.alloc (.cells #[.slice (some ⟨H5, 0, none⟩) 32 c5] 23)) w5.heap.size #[.slice (some ⟨H5, 0, none⟩) 32 c5] 23 := Blk.new w5 _ _
  have z6 : Hid ((w5.alloc (.cells #[.slice (some ⟨H5, 0, none⟩) 32 c5] 23)).heap.size = w5.heap.size + 1) := by unfold Hid; simp
  have hb5 := hl5.bel.size
  have hl7 := hl6.setH (v2 := .slice (some ⟨w5.heap.size, 0, none⟩) 1 1) (L2 := [.slice (some ⟨H5, 0, none⟩) 32 c5]) (row_fresh B6 hb5 (by decide) rfl) (fun g hg hx => by have := own_slice hg; have := (hl5.busy _ hx).2; omega) (fun g hg hi => by cases hi)
  clear B6 hl6
  go_wp2_with fail
  generalize w5.alloc (.cells #[.slice (some ⟨H5, 0, none⟩) 32 c5] 23) = w6 at *
  refine (Dv.image_any D _ _ [] (-1) _ _ w6 hl7.dev).mono ?_
  rintro e w7 ⟨rfl, B7, g7⟩
  obtain ⟨G7, hG7⟩ : ∃ G, Hid (w6.heap.size = G) := ⟨_, rfl⟩
  have hl8 := hl7.below g7
  have ow7 := row_below ow6 g7
  have s8 := Pg.below_alloc w7 (.cells #[.slice (some ⟨w6.heap.size, 0, none⟩) 66 66] 23)
  have hl9 := hl8.below s8
  have ow9 := row_below ow7 s8
  have G9 := B7.below s8 B7.lt
  have B9 : Blk (w7.alloc (.cells #[.slice (some ⟨w6.heap.size, 0, none⟩) 66 66] 23)) w7.heap.size #[.slice (some ⟨w6.heap.size, 0, none⟩) 66 66] 23 := Blk.new w7 _ _
  have hb7 := hl8.bel.size
  have hz7 := g7.size
  have hle : w6.heap.size < w7.heap.size := B7.lt
  have hl10 := hl9.setI (v2 := .slice (some ⟨w7.heap.size, 0, none⟩) 1 1) (L2 := [.slice (some ⟨w6.heap.size, 0, none⟩) 66 66]) (row_fresh B9 hb7 (by decide) rfl) (fun g hg hx => by have := own_slice hg; have := (hl8.busy _ hx).2; omega) (fun g hg hi => by have := own_slice hg; have := own_slice hi; have := z6.out; omega)
  have hla := hl10.more ⟨fun _ _ => 0, fun _ => false, fun _ => none, H5, c5, w6.heap.size⟩ rfl rfl rfl rfl (row_base ow9 hw) (fun hx => by have h1 : H5 < w4.heap.size := (hl0.busy _ hx).2; omega) G9 (fun hx => by have h1 : w6.heap.size < w6.heap.size := (hl7.busy _ hx).2; omega)
  clear hl0 hl5 hl7 hl8 hl9 hl10 B9 G9 ow9 s8 B7 ow7 ow6 ow5 s6 z6 g7 g5
  go_wp2_with fail
  generalize w7.alloc (.cells #[.slice (some ⟨w6.heap.size, 0, none⟩) 66 66] 23) = w8 at *
  generalize w7.heap.size = t7 at *
  generalize w6.heap.size = t6 at *
  generalize w5.heap.size = t5 at *
  clear hz7 hb7 hle hb5
  go_loopw [11, 12, 13] (fun vH vI i wr => ∃ k nn CB O dv lf S f p r hs, k ≤ L.length ∧ i = .int .i64 k ∧ nn ≤ 6 * k ∧ hs.length = k + 1 ∧ Ld w wr D C VB CB sec k nn O dv lf S f p r vH vI (hs.map Hs.v) (hs.map Hs.i) hs ∧ ∃ y, hs[k]? = some y ∧ y.p = p) (fun _ _ i _ => L.length - (intOf i).toNat)
  case atStart => exact ⟨0, 0, CB, _, _, _, _, _, _, _, [⟨fun _ _ => 0, fun _ => false, fun _ => none, H5, c5, t6⟩], by omega, rfl, Nat.le_refl _, rfl, hla, _, rfl, rfl⟩
  case round =>
    clear hla
    obtain ⟨k, nn, CB1, O, dv, lf, S, f, p, r, hs, hk, rfl, hnn, hhs, hd, hlast⟩ := hrel
    by_cases hlt : k < L.length
    · clear hlast
      obtain ⟨g, o, rfl, hg, hc, ht, hz1, hz2⟩ := hL.below hd.bel k L[k] (List.getElem?_eq_getElem hlt)
      have hx := hLx _ (List.getElem_mem hlt)
      generalize L[k] = x at *
      obtain ⟨xa, xc, xs⟩ := x
      obtain ⟨hx6, hxs⟩ := hx
      have hlt' : (k : Int) < (L.length : Int) := by omega
      simp only at hc ht hz1 hz2 hx6 hxs
      go_wp2_with fail
      refine (pages_any xa xc xs (k : Int) wr ht (by omega) (by omega) (by omega)).mono ?_
      rintro e w2 ⟨⟨rfl, mm⟩, g2⟩
      have hd2 := hd.below g2
      generalize wr.heap.size = tm at *
      go_wp2_with fail
      refine (tell_tld VB D C sec k f r CB1 nn p (.map (some tm)) xs.length (pgF xs (k : Int) xs.length) O S dv lf w2 hd2.vlt (Or.inr ⟨_, rfl, mm⟩) (fun i s h => ⟨(pgF_some h).1, hxs s (pgF_some h).2⟩) hd2.dev hd2.cnt hd2.tld (by omega) (by omega) (by omega) (fun q hq => (hd2.own q hq).2) hd2.o1 hd2.o2 hd2.o3 (hK.below hd2.bel)).mono ?_
      rintro e w3 ⟨rfl, S3, f3, CB3, n3, O3, v3, l3, hV3, hCB3, hn3, hT3, hD3, hO3, hC3, C3⟩
      have hd3 := hd2.told hV3 hT3 hD3 hO3 hC3 C3
      generalize nxP p (tel (pgF xs (k : Int) xs.length) p ((k + 1 : Nat) : Int)) = p3 at *
      generalize rootP p3 = r3 at *
      have hn3' : Hid (n3 ≤ 6 * (k + 1)) := by unfold Hid; omega
      clear hV3 hT3 hD3 hO3 hC3 C3 hd hd2 mm g2 hCB3 hn3 hnn
      go_wp2_with fail
      refine (all_any w3 VB D C sec _ 1 _ _ CB3 _ _ false hd3.vlt).mono ?_
      rintro e w4 ⟨⟨v4, rfl, ow4⟩, g4⟩
      obtain ⟨H4, c4, rfl, hH4, hH4', _⟩ := row_val ow4 (by decide)
      have hd4 := hd3.below g4
      have s5 := Pg.below_alloc w4 (.cells #[.slice (some ⟨H4, 0, none⟩) 32 c4] 23)
      have hd5 := hd4.below s5
      have ow5 := row_below ow4 s5
      have B5 : Blk (w4.alloc (.cells #[.slice (some ⟨H4, 0, none⟩) 32 c4] 23)) w4.heap.size #[.slice (some ⟨H4, 0, none⟩) 32 c4] 23 := Blk.new w4 _ _
      have rH : (w4.alloc (.cells #[.slice (some ⟨H4, 0, none⟩) 32 c4] 23)).ownsRow w.heap.size 23 1 u11 (k + 1) (hs.map Hs.v) := by have h := hd5.rowH; rwa [List.length_map, hhs] at h
      have hb5 := hd5.bel.size
      have nH : ¬ Busy O3 C VB H4 := fun hx => by have := (hd3.busy _ hx).2; omega
      have hbase : w.heap.size ≤ w3.heap.size := hd3.bel.size
      go_wp2_with (first
        | (refine wpl_pushR rfl _ _ _ rfl w.heap.size 23 (.slice none 0 0) 1 24 Tryz.underlying22 infoTexts rfl (by decide) u11 (k + 1) (hs.map Hs.v) rfl rH w4.heap.size 1 [.slice (some ⟨H4, 0, none⟩) 32 c4] rfl 23 B5 rfl (fun u hu => by { simp at hu; subst hu; rfl }) (by omega) (by decide) hb5 ?_; intro g6 c6 w6 ow6 gr6 hat6 hlt6)
        | fail)
      obtain ⟨hd6, C6⟩ := hd5.pushH (v := .slice (some ⟨H4, 0, none⟩) 32 c4) (g := g6) rfl (by rw [List.length_map, hhs]; exact ow6) gr6 hat6
      have ow6' := row_chg ow5 C6 (fun g hg e => rows_ne ow5 rH (by decide) g hg e)
      clear hd3 hd4 hd5 rH B5 s5 ow4 ow5 ow6 gr6 hat6 hb5 hH4 hH4' C6 g4
      refine (Dv.image_any D O3 S3 [] (-1) v3 l3 w6 hd6.dev).mono ?_
      rintro e w7 ⟨rfl, B7, g7⟩
      have hd7 := hd6.below g7
      have ow7 := row_below ow6' g7
      have s8 := Pg.below_alloc w7 (.cells #[.slice (some ⟨w6.heap.size, 0, none⟩) 66 66] 23)
      have hd8 := hd7.below s8
      have ow8 := row_below ow7 s8
      have G8 := B7.below s8 B7.lt
      have B8 : Blk (w7.alloc (.cells #[.slice (some ⟨w6.heap.size, 0, none⟩) 66 66] 23)) w7.heap.size #[.slice (some ⟨w6.heap.size, 0, none⟩) 66 66] 23 := Blk.new w7 _ _
      have rI : (w7.alloc (.cells #[.slice (some ⟨w6.heap.size, 0, none⟩) 66 66] 23)).ownsRow w.heap.size 23 1 u12 (k + 1) (hs.map Hs.i) := by have h := hd8.rowI; rwa [List.length_map, hhs] at h
      have hb8 := hd8.bel.size
      have nG : ¬ Busy O3 C VB w6.heap.size := fun hx => by have := (hd6.busy _ hx).2; omega
      clear hd6 hd7 ow6' ow7 B7 s8 g7
      generalize w6.heap.size = t9 at *
      go_wp2_with (first
        | (refine wpl_pushR rfl _ _ _ rfl w.heap.size 23 (.slice none 0 0) 1 24 Tryz.underlying22 infoTexts rfl (by decide) u12 (k + 1) (hs.map Hs.i) rfl rI w7.heap.size 1 [.slice (some ⟨t9, 0, none⟩) 66 66] rfl 23 B8 rfl (fun u hu => by { simp at hu; subst hu; rfl }) (by omega) (by decide) hb8 ?_; intro g9 c9 w9 ow9 gr9 hat9 hlt9)
        | fail)
      obtain ⟨hd9, C9⟩ := hd8.pushI (v := .slice (some ⟨t9, 0, none⟩) 66 66) (g := g9) rfl (by rw [List.length_map, hhs]; exact ow9) gr9 hat9
      have ow9' := row_chg ow8 C9 (fun g hg e => rows_ne ow8 rI (by decide) g hg e)
      have G9 := G8.chg C9 (fun e => row_blk_ne rI G8 (by decide) e)
      have hda := hd9.more ⟨S3, f3, p3, H4, c4, t9⟩ hhs rfl rfl rfl (row_base ow9' hbase) nH G9 nG
      refine ⟨⟨k + 1, n3, CB3, O3, v3, l3, S3, f3, p3, r3, hs ++ [⟨S3, f3, p3, H4, c4, t9⟩], by omega, by go_num, hn3'.out, by simp [hhs], ?_, ⟨S3, f3, p3, H4, c4, t9⟩, by simp [hhs], rfl⟩, by simp [intOf]; omega⟩
      rw [List.map_append, List.map_append]
      exact hda
    · have hk' : k = L.length := by omega
      subst hk'
      go_wp2_with fail
      refine bodyPost_ret (results_tmp5 rfl _ _ _) rfl ?_
      exact ⟨_, _, _, _, _, _, _, _, _, _, _, _, _, _, _, rfl, hd, hhs, hnn, hlast⟩
end Go.Proofs.YtkapkphhceknfaaGreatDoor.Vt
namespace Go.Proofs.YtkapkphhceknfaaGreatDoor.Vt
open Go.RowKit
theorem open_tld (d c : Nat) (O : Nat → Prop) (S : Nat → Nat → UInt8) (v : Value) (lf : Int) (sec : ByteArray) (n : Nat) (f : Nat → Bool) (p : Int → Option (Int × ByteArray)) (w : World) (hD : Dv.Dev w O d S [] (-1) v lf) (hC : Dv.Cnt w c (n : Int)) (hsec : sec.size = 16) (hK : Sm.KB w) (hT : Tld S sec n f p) :
    Calls Tryz.prog 15 #[.pointer (some ⟨d, 0, none⟩), .pointer (some ⟨c, 0, none⟩), .string sec] w fun e w' => (∃ VB CB n' f' r, e = .returned (.tuple #[.pointer (some ⟨VB, 0, none⟩), .nilIface]) ∧ Vlt w' VB d c sec (n : Int) 1 f' r CB n' p false) ∧ Below w.heap.size w w' := by
  by_cases h0 : n = 0
  · subst h0
    obtain ⟨_, h1, rfl⟩ := hT.new rfl
    refine (open_0 d c O S [] (-1) v lf sec w hD hC (by decide) hsec hK h1).mono ?_
    rintro e w' ⟨⟨VB, CB, rfl, hV, _, _⟩, g⟩
    exact ⟨⟨VB, CB, _, _, _, rfl, hV⟩, g⟩
  · obtain ⟨x, hx, hx'⟩ := hT.old
    refine (open_some d c O S [] (-1) v lf sec n x 1 f p w hD hC (by decide) hsec hK hx (fun e => by have := hx' _ e; omega) (hT.on (by omega))).mono ?_
    rintro e w' ⟨⟨VB, CB, rfl, hV, _, _⟩, g⟩
    exact ⟨⟨VB, CB, _, _, _, rfl, hV⟩, g⟩
theorem open_old (d c : Nat) (O : Nat → Prop) (S : Nat → Nat → UInt8) (v : Value) (lf : Int) (sec : ByteArray) (n k : Nat) (f : Nat → Bool) (p : Int → Option (Int × ByteArray)) (w : World) (hD : Dv.Dev w O d S [] (-1) v lf) (hC : Dv.Cnt w c (n : Int)) (hsec : sec.size = 16) (hK : Sm.KB w) (hT : Tld S sec k f p) (hk : k < n) (hn : n ≤ 1000000) :
    Calls Tryz.prog 15 #[.pointer (some ⟨d, 0, none⟩), .pointer (some ⟨c, 0, none⟩), .string sec] w fun e w' => e = .returned (.tuple #[.pointer none, .iface 41 (.int .i64 15)]) ∧ Below w.heap.size w w' := by
  obtain ⟨x, hx, hx'⟩ := hT.elder (n + 1) ((n + 1) % 2) (by omega) (by omega)
  obtain ⟨y, hy, hy'⟩ := hT.elder n (n % 2) hk (by omega)
  exact open_spoilt d c O S [] (-1) v lf sec n x y w hD hC (by decide) hsec hK (by omega) (by omega) hx hx' hy hy'
theorem pickJ_any (a : Int) (n : Nat) (w : World) (h0 : 0 < n) (h1 : n ≤ 10000) :
    Calls Tryz.prog 9 #[.int .i64 a, .int .i64 (n : Int)] w fun e w' => ∃ j : Nat, e = .returned (.int .i64 (j : Int)) ∧ j < n ∧ w' = w := by
  obtain ⟨u, hu⟩ : ∃ u : Nat, IntKind.u64.wrap a = (u : Int) := ⟨(a % 18446744073709551616).toNat, by simp [IntKind.wrap, IntKind.bits, IntKind.signed]; omega⟩
  obtain ⟨j, hj, hjn⟩ : ∃ j : Nat, (u : Int) % (n : Int) = (j : Int) ∧ j < n := ⟨u % n, by simp, Nat.mod_lt _ h0⟩
  go_enter Tryz.func9, Tryz.ntmps9
  go_wp2
  go_ret
  exact ⟨j, rfl, hjn, rfl⟩
/-- A row of texts, as texts. -/
def tls (f : Nat → ByteArray) : List ByteArray := (List.range 32).map f
theorem row_texts {w : World} {B g c : Nat} {f : Nat → ByteArray} (h : w.ownsRow B 9 1 (.slice (some ⟨g, 0, none⟩) 32 c) 32 (Tr.strs f 32)) : Dv.Texts w (fun _ => False) (some ⟨g, 0, none⟩) (tls f) := by
  intro i x hx
  have hi : i < 32 := by have := (List.getElem?_eq_some_iff.1 hx).1; simpa [tls] using this
  obtain ⟨g', o, e, hg, hc⟩ := Tr.own_tx h i hi
  refine ⟨g', o, e, hg, fun hf => hf, ?_⟩
  rw [hc]
  unfold tls at hx
  rw [List.getElem?_map, List.getElem?_range hi] at hx
  injection hx with hx
  rw [← hx]
set_option maxHeartbeats 400000 in
theorem equal_same (a b : Option Addr) (c d : Nat) (ls : List ByteArray) (w : World) (ha : Dv.Texts w (fun _ => False) a ls) (hb : Dv.Texts w (fun _ => False) b ls) (hl : ls.length ≤ 1000) :
    Calls Tryz.prog 17 #[.slice a ls.length c, .slice b ls.length d] w fun e w' => e = .returned (.bool true) ∧ Below w.heap.size w w' := by
  go_enter Tryz.func17, Tryz.ntmps17
  go_wp2_with fail
  go_loopw [13] (fun i wr => ∃ k n : Nat, k ≤ ls.length ∧ i = .int .i64 k ∧ wr = w.drewN n) (fun i _ => ls.length - (intOf i).toNat)
  case atStart => exact ⟨0, 0, by omega, rfl, rfl⟩
  case round =>
    obtain ⟨k, n, hk, rfl, rfl⟩ := hrel
    by_cases hlt : k < ls.length
    · obtain ⟨g, o, rfl, hg, _, hc⟩ := ha k ls[k] (List.getElem?_eq_getElem hlt)
      obtain ⟨g', o', rfl, hg', _, hc'⟩ := hb k ls[k] (List.getElem?_eq_getElem hlt)
      have hlt' : (k : Int) < (ls.length : Int) := by omega
      generalize ls[k] = x at *
      go_wp2_with fail
      go_quiet (fail)
      go_wp2
      go_light
      exact ⟨⟨k + 1, n + nq, by omega, by go_num, rfl⟩, by simp [intOf]; omega⟩
    · go_wp2_with fail
      go_ret
      exact ⟨rfl, below_drewN (Below.refl _ _) n⟩
theorem equal_rows {w : World} {B B' g g' c c' : Nat} {f : Nat → ByteArray} (h : w.ownsRow B 9 1 (.slice (some ⟨g, 0, none⟩) 32 c) 32 (Tr.strs f 32)) (h' : w.ownsRow B' 9 1 (.slice (some ⟨g', 0, none⟩) 32 c') 32 (Tr.strs f 32)) :
    Calls Tryz.prog 17 #[.slice (some ⟨g, 0, none⟩) 32 c, .slice (some ⟨g', 0, none⟩) 32 c'] w fun e w' => e = .returned (.bool true) ∧ Below w.heap.size w w' := by
  have e := equal_same (some ⟨g, 0, none⟩) (some ⟨g', 0, none⟩) c c' (tls f) w (row_texts h) (row_texts h') (by simp [tls])
  rwa [show (tls f).length = 32 from by simp [tls]] at e
end Go.Proofs.YtkapkphhceknfaaGreatDoor.Vt
