/-
  Part of the proof: slices of words: append of several; the words that a block begins with.
-/
import Derived.Test.YtccnnfllgdplhaaDoorR2
namespace Go.Proofs.YtccnnfllgdplhaaDoor
open Go.RowKit
section
variable {P : Program} {ops : Array Oper} {Q : Exit → Act → World → Prop} {a : Act} {w : World} {rest : List Oper} {o : Oper}
/-- Several elements of another slice appended to a slice that the call has made. -/
theorem wpl_pushN (hgd : o.guard = none) (s x : Operand) (t : TypeId) (ho : o.op = .call { callee := .builtin .append, args := #[s, x], argTypes := #[t, t] })
    (B : Nat) (e : TypeId) (z : Value) (bytes : Nat) (ht : P.underlying t = some (.slice e)) (hinfo : (P.info? e).map (fun i => (i.zero, i.size, i.bytes)) = some (some z, 1, bytes)) (hz1 : z.cells.size = 1)
    (v : Value) (xs : List Value) (hs : a.eval s = v) (hown : Row w B e v xs) (sb m c : Nat) (news : List Value) (hx : a.eval x = .slice (some ⟨sb, 0, none⟩) m c) (hm : news.length = m) (hnews : ∀ j u, news[j]? = some u → w.cell? ⟨sb, j, none⟩ = some u) (hu1 : ∀ u ∈ news, u.oneCell' = true)
    (hm0 : 0 < m) (hlen : xs.length + m < 100000) (hby : bytes ≤ 8) (hbase : B ≤ w.heap.size)
    (h : ∀ g cap w', Row w' B e (.slice (some ⟨g, 0, none⟩) (xs.length + m) cap) (xs ++ news) → w.grownBy w' v.ownBlock → (v.ownBlock = some g ∨ g = w.heap.size) → g < w'.heap.size → wpList P ops Q rest (a.put o.dst (.slice (some ⟨g, 0, none⟩) (xs.length + m) cap)) w') :
    wpList P ops Q (o :: rest) a w := by
  obtain ⟨i, hi, hp⟩ := Option.map_eq_some_iff.1 hinfo
  simp only [Prod.mk.injEq] at hp
  obtain ⟨p1, p2, p3⟩ := hp
  refine wpList_append_lies w hgd s x t ho B e i z 1 bytes ht hi p1 p2 p3 hz1 (by decide) v xs.length xs hs hown ⟨sb, 0, none⟩ m c news hx (by omega) ?_ hu1 hm0 (by unfold maxLen; omega) ?_ hbase w.heap.size rfl ?_
  · intro j u' hj
    rw [addr_add]; exact hnews j u' hj
  · have := Nat.mul_le_mul (Nat.le_of_lt hlen) hby; omega
  · intro g cap w' h1 h2 h3 h4
    exact h g cap w' (by unfold Row; simpa [hm] using h1) h2 h3 h4
end
/-- A slice's row as a block. -/
theorem Row.blk {w : World} {B g n cap : Nat} {e : TypeId} {xs : List Value} (h : Row w B e (.slice (some ⟨g, 0, none⟩) n cap) xs) : ∃ rest, Blk w g (xs.toArray ++ rest) e := by
  obtain ⟨h1, h2⟩ := h
  rcases h2 with ⟨h2, _⟩ | ⟨g', cap', cur, hv, hgB, hh, _, _, _, ht⟩
  · injection h2 with a1; cases a1
  · have eg : g = g' := by injection hv with a1; injection a1 with a2; injection a2
    subst eg
    refine ⟨(cur.toList.drop (xs.length * 1)).toArray, ?_⟩
    unfold Blk
    rw [hh]
    congr 2
    apply Array.toList_inj.1
    rw [Array.toList_append]
    have ht' : cur.toList.take (xs.length * 1) = xs := by simpa using ht
    conv => lhs; rw [← List.take_append_drop (xs.length * 1) cur.toList]
    rw [ht']
def exK : ByteArray := ⟨#[101, 120, 112, 97, 110, 100, 32, 51, 50, 45, 98, 121, 116, 101, 32, 107]⟩
theorem byteAt_append_l (a b : ByteArray) (i : Nat) (h : i < a.size) : byteAt (a ++ b) i = byteAt a i := by
  have h' : i < a.data.toList.length := by simpa using h
  unfold byteAt; simp only [ByteArray.data_append, Array.toList_append, List.getD_eq_getElem?_getD]
  rw [List.getElem?_append_left h']
theorem byteAt_append_r (a b : ByteArray) (i : Nat) : byteAt (a ++ b) (a.size + i) = byteAt b i := by
  unfold byteAt; simp only [ByteArray.data_append, Array.toList_append, List.getD_eq_getElem?_getD]
  rw [List.getElem?_append_right (by simp)]
  simp
theorem wAt_ex_r (key : ByteArray) (t : Nat) : wAt (exK ++ key) (4 + t) = wAt key t := by
  unfold wAt
  rw [show 4 * (4 + t) = exK.size + 4 * t from by show _ = 16 + _; omega]
  rw [Nat.add_assoc, Nat.add_assoc, Nat.add_assoc, byteAt_append_r, byteAt_append_r, byteAt_append_r, byteAt_append_r]
theorem wAt_ex_l (key : ByteArray) (t : Nat) (h : t < 4) : wAt (exK ++ key) t = wAt exK t := by
  have hz : exK.size = 16 := rfl
  unfold wAt
  rw [byteAt_append_l _ _ _ (by omega), byteAt_append_l _ _ _ (by omega), byteAt_append_l _ _ _ (by omega), byteAt_append_l _ _ _ (by omega)]
theorem exK_words : ∀ t : Fin 4, wAt exK t.1 = BitVec.ofNat 32 ([1634760805, 857760878, 2036477234, 1797285236].getD t.1 0) := by decide +kernel
theorem stW_ex (key : ByteArray) (n : BitVec 32) (nonce : ByteArray) (t : Nat) (h : t < 12) : wAt (exK ++ key) t = stW key n nonce t := by
  unfold stW
  by_cases h4 : t < 4
  · rw [if_pos h4, wAt_ex_l key t h4]; exact exK_words ⟨t, h4⟩
  · rw [if_neg h4, if_pos h, ← wAt_ex_r key (t - 4)]; congr 1; omega
theorem start_words (key : ByteArray) (n : BitVec 32) (nonce : ByteArray) : ((wL (exK ++ key) 12 ++ [Value.int .u32 (I n)]) ++ wL nonce 3).toArray = tab 16 (stW key n nonce) := by
  refine congrArg List.toArray ?_
  have e : List.range 16 = List.range 12 ++ [12] ++ [13, 14, 15] := by decide
  rw [e, List.map_append, List.map_append]
  have e1 : wL (exK ++ key) 12 = (List.range 12).map fun j => Value.int .u32 (I (stW key n nonce j)) := by
    unfold wL; apply List.map_congr_left; intro t ht; rw [stW_ex key n nonce t (by simpa using ht)]
  have e3 : wL nonce 3 = [13, 14, 15].map fun j => Value.int .u32 (I (stW key n nonce j)) := by
    have r : List.range 3 = [0, 1, 2] := by decide
    unfold wL
    rw [r]
    simp only [List.map_cons, List.map_nil]
    rw [← stW_nonce key n nonce 0, ← stW_nonce key n nonce 1, ← stW_nonce key n nonce 2]
  rw [e1, e3]
  simp only [List.map_cons, List.map_nil, stW_n]
end Go.Proofs.YtccnnfllgdplhaaDoor
