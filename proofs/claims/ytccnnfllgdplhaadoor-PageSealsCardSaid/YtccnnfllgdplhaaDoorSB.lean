/-
  Part of the proof: a builder that has been written, beside other blocks of the same call: WriteByte touches none of them.
-/
import Derived.Test.YtccnnfllgdplhaaDoorRow
import Derived.Test.YtccnnfllgdplhaaDoorShelf
namespace Go.Proofs.YtccnnfllgdplhaaDoor
open Go.RowKit
theorem info5 : (Tryd.prog.info? 5).map (fun i => (i.zero, i.size, i.bytes)) = some (some (.int .u8 0), 1, 1) := by kernel_rfl
/-- A builder at block b, its row the slice v. -/
structure BW (B b : Nat) (v : Value) (bs : List Value) (w : World) : Prop where
  ge : B ≤ b
  blk : w.heap[b]? = some (.cells #[.pointer (some ⟨b, 0, none⟩), v] 98 (0, 0))
  own : Row w B 5 v bs
  ne : v.ownBlock ≠ some b
theorem BW.of {B b : Nat} {bs : List Value} {w : World} (h : Lib.BuilderAt 98 5 B b (.pointer (some ⟨b, 0, none⟩)) bs w) : ∃ v, BW B b v bs w := by
  obtain ⟨h1, v, h2, h3, h4⟩ := h
  exact ⟨v, h1, h2, h3, h4⟩
theorem BW.to {B b : Nat} {v : Value} {bs : List Value} {w : World} (h : BW B b v bs w) : Lib.BuilderAt 98 5 B b (.pointer (some ⟨b, 0, none⟩)) bs w := ⟨h.ge, v, h.blk, h.own, h.ne⟩
theorem BW.lt {B b : Nat} {v : Value} {bs : List Value} {w : World} (h : BW B b v bs w) : b < w.heap.size := by
  rcases Nat.lt_or_ge b w.heap.size with h' | h'
  · exact h'
  · have := h.blk; simp [Array.getElem?_eq_none h'] at this
theorem Row.own_lt {B : Nat} {e : TypeId} {v : Value} {xs : List Value} {w : World} (h : Row w B e v xs) (k : Nat) (hk : v.ownBlock = some k) : B ≤ k ∧ k < w.heap.size := by
  rcases h.form with ⟨e1, _⟩ | ⟨g, cap, e1, h1, h2⟩
  · rw [e1] at hk; cases hk
  · rw [e1] at hk; simp only [Value.ownBlock, Option.some.injEq] at hk; subst hk; exact ⟨h1, h2⟩
/-- Where the blocks that it uses are as they were it is as it was. -/
theorem BW.keep {B b : Nat} {v : Value} {bs : List Value} {w w' : World} (h : BW B b v bs w) (h1 : w'.heap[b]? = w.heap[b]?) (h2 : ∀ k, v.ownBlock = some k → w'.heap[k]? = w.heap[k]?) : BW B b v bs w' := by
  refine ⟨h.ge, by rw [h1]; exact h.blk, ?_, h.ne⟩
  obtain ⟨g1, g2⟩ := h.own
  refine ⟨g1, ?_⟩
  rcases g2 with g2 | ⟨g, cap, cur, hv, hg, hh, r⟩
  · exact Or.inl g2
  · exact Or.inr ⟨g, cap, cur, hv, hg, by rw [h2 g (by rw [hv]; rfl)]; exact hh, r⟩
theorem BW.below {B b : Nat} {v : Value} {bs : List Value} {w w' : World} (h : BW B b v bs w) (hb : Below w.heap.size w w') : BW B b v bs w' :=
  h.keep (hb.block _ h.lt) fun k hk => hb.block _ (h.own.own_lt k hk).2
theorem BW.upd {B b c : Nat} {v : Value} {bs : List Value} {w w' : World} (h : BW B b v bs w) (hu : Upd w w' c) (h1 : b ≠ c) (h2 : v.ownBlock ≠ some c) : BW B b v bs w' :=
  h.keep (hu.block _ h1) fun _ hk => hu.block _ fun e => h2 (e ▸ hk)
set_option maxRecDepth 100000 in
set_option maxHeartbeats 400000 in
theorem writeByte_w (B b : Nat) (v : Value) (bs : List Value) (c : Int) (w : World) (h : BW B b v bs w) (hlen : bs.length < 100000) (hBw : B ≤ w.heap.size) :
    Calls Tryd.prog 66 #[.pointer (some ⟨b, 0, none⟩), .int .u8 c] w fun e w' => e = .returned .nilIface ∧ ∃ v', BW B b v' (bs ++ [.int .u8 c]) w' ∧ (v'.ownBlock = v.ownBlock ∨ ∀ k, v'.ownBlock = some k → w.heap.size ≤ k) ∧ Below B w w' ∧ ∀ k, k < w.heap.size → k ≠ b → v.ownBlock ≠ some k → w'.heap[k]? = w.heap[k]? := by
  have hlt := h.lt
  obtain ⟨hB, hbk, hown, hne⟩ := h
  have c0 : w.cell? ⟨b, 0, none⟩ = some (.pointer (some ⟨b, 0, none⟩)) := by rw [Lib.cell_of_heap hbk]; rfl
  have c1 : w.cell? ⟨b, 1, none⟩ = some v := by rw [Lib.cell_of_heap hbk]; rfl
  go_enter Tryd.func66, Tryd.ntmps66
  go_wp2_with (first
    | (go_at_call 101; refine (Any.Builder_copyCheck_used { lays167 with } extra.toX72 b _ c0).mono ?_; rintro e w1 ⟨rfl, rfl⟩)
    | (refine wpl_push rfl _ _ 94 rfl B 5 (.int .u8 0) 1 Tryd.underlying94 info5 rfl v bs rfl (hown.below ((Below.refl _ _).alloc (Nat.le_refl _) _)) _ _ (.int .u8 c) rfl ?c1 rfl hlen (by decide) (by simp; omega) ?_)
    | fail)
  case c1 => exact (Blk.new w1 #[Value.int .u8 c] 5).cell 0
  intro g cap w2 hrow hgrow hg hgl
  have hbg : b ≠ g := by
    rcases hg with hg | hg
    · intro e; subst e; exact hne hg
    · omega
  have hb2 : w2.heap[b]? = some (.cells #[.pointer (some ⟨b, 0, none⟩), v] 98 (0, 0)) := by
    rw [hgrow.block b (by simp; omega) (fun e => hne e.symm), Lib.alloc_old w1 _ b hlt]; exact hbk
  have d1 : w2.cell? ⟨b, 1, none⟩ = some v := by rw [Lib.cell_of_heap hb2]; rfl
  have f1 : w2.frozen? ⟨b, 1, none⟩ = false := Lib.frozen_of_heap hb2 1
  go_wp2
  go_ret
  refine ⟨rfl, .slice (some ⟨g, 0, none⟩) (bs.length + 1) cap, ⟨hB, ?_, ?_, ?_⟩, ?_, ?_, ?_⟩
  · exact Blk.set (arr := #[.pointer (some ⟨b, 0, none⟩), v]) hb2 1 (.slice (some ⟨g, 0, none⟩) (bs.length + 1) cap)
  · obtain ⟨g1, g2⟩ := hrow
    refine ⟨g1, ?_⟩
    rcases g2 with g2 | ⟨g', cap', cur, hv, hgB, hh, r⟩
    · exact Or.inl g2
    · have eg : g = g' := by injection hv with a1; injection a1 with a2; injection a2
      exact Or.inr ⟨g', cap', cur, hv, hgB, by rw [Below.heap_setCell _ _ _ _ (by simp; omega)]; exact hh, r⟩
  · intro e; injection e with e; exact hbg e.symm
  · rcases hg with hg | hg
    · exact Or.inl hg.symm
    · refine Or.inr fun k hk => ?_
      have hk' : g = k := by simpa [Value.ownBlock] using hk
      omega
  · exact (((Below.refl B w1).alloc hBw _).grown hgrow (by simp; omega) (fun k hk => (hown.own_lt k hk).1)).setCell (p := ⟨b, 1, none⟩) hB _
  · intro k hk hkb hkv
    rw [Below.heap_setCell _ _ _ _ (by simp; exact hkb), hgrow.block k (by simp; omega) (fun e => hkv e.symm), Lib.alloc_old w1 _ k hk]
end Go.Proofs.YtccnnfllgdplhaaDoor
