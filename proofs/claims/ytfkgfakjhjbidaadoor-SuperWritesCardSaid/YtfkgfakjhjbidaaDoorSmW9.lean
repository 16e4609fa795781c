/-
  Part of the proof of SumTells: the code's Mark answers the plain mark (at most 10 texts of at most 300 bytes).
-/
import Derived.Test.YtfkgfakjhjbidaaDoorSmW8
namespace Go.Proofs.YtfkgfakjhjbidaaDoor.Sm
open Go.RowKit
/-- The texts that a slice holds. -/
structure Parts (w : World) (a : Option Addr) (n : Nat) (ss : List ByteArray) : Prop where
  len : ss.length = n
  at' : ∀ j, j < n → ∃ b off p, a = some ⟨b, off, none⟩ ∧ b < w.heap.size ∧ w.cell? ⟨b, off + j, none⟩ = some (.string p) ∧ Hid (ss[j]? = some p)
theorem Parts.below {w w' : World} {a : Option Addr} {n : Nat} {ss : List ByteArray} (h : Parts w a n ss) (hb : Below w.heap.size w w') : Parts w' a n ss :=
  ⟨h.len, fun j hj => by
    obtain ⟨b, off, p, e, hl, hc, hs⟩ := h.at' j hj
    exact ⟨b, off, p, e, Nat.lt_of_lt_of_le hl hb.size, by rw [hb.cell hl]; exact hc, hs⟩⟩
def markPart (p : ByteArray) : List UInt8 := (List.range 8).map (numB p.size) ++ p.data.toList
/-- The text whose sum is a mark. -/
def markTo (kb : UInt8) (ss : List ByteArray) (k : Nat) : List UInt8 := kb :: (ss.take k).flatMap markPart
theorem markTo_succ (kb : UInt8) (ss : List ByteArray) (k : Nat) (p : ByteArray) (h : ss[k]? = some p) : markTo kb ss (k + 1) = markTo kb ss k ++ (List.range 8).map (numB p.size) ++ p.data.toList := by
  unfold markTo
  rw [List.take_add_one, h]
  simp [markPart]
theorem markTo_length (kb : UInt8) (ss : List ByteArray) (hs : ∀ p ∈ ss, p.size ≤ 300) (k : Nat) : (markTo kb ss k).length ≤ 1 + 308 * k := by
  unfold markTo
  have : ∀ (l : List ByteArray), (∀ p ∈ l, p.size ≤ 300) → (l.flatMap markPart).length ≤ 308 * l.length := by
    intro l
    induction l with
    | nil => intro _; simp
    | cons p l ih =>
      intro hl
      have h1 := ih fun q hq => hl q (by simp [hq])
      have h2 := hl p (by simp)
      have h3 : p.data.toList.length = p.size := by simp
      simp only [List.flatMap_cons, List.length_append, markPart, List.length_map, List.length_range, List.length_cons]
      omega
  have h1 := this (ss.take k) fun p hp => hs p (List.mem_of_mem_take hp)
  have h2 : (ss.take k).length ≤ k := List.length_take_le _ _
  simp only [List.length_cons]
  omega
theorem builder_below {T e : TypeId} {B b : Nat} {p : Value} {bs : List Value} {w w' : World} (h : Lib.BuilderAt T e B b p bs w) (hb : Below w.heap.size w w') : Lib.BuilderAt T e B b p bs w' := by
  obtain ⟨hB, v, hbk, hown, hne⟩ := h
  have lt : ∀ {k : Nat} {o : Obj}, w.heap[k]? = some o → k < w.heap.size := fun {k o} hk => by
    rcases Nat.lt_or_ge k w.heap.size with h' | h'
    · exact h'
    · simp [Array.getElem?_eq_none h'] at hk
  refine ⟨hB, v, by rw [hb.block _ (lt hbk)]; exact hbk, ?_, hne⟩
  obtain ⟨h1, h2⟩ := hown
  refine ⟨h1, ?_⟩
  rcases h2 with h2 | ⟨g, cap, cur, hv, hg, hh, r⟩
  · exact Or.inl h2
  · exact Or.inr ⟨g, cap, cur, hv, hg, by rw [hb.block _ (lt hh)]; exact hh, r⟩
theorem numN_nat (n : Nat) (h : n < 18446744073709551616) : numN (n : Int) = n := by unfold numN; omega
set_option maxRecDepth 100000 in
set_option maxHeartbeats 1000000 in
theorem mark_any (kb : UInt8) (a : Option Addr) (n cap : Nat) (ss : List ByteArray) (w : World) (hp : Parts w a n ss) (hn : n ≤ 10) (hs : ∀ p ∈ ss, p.size ≤ 300) (hK : KB w) :
    Calls Tryd.prog 20 #[.int .u8 (kb.toNat : Int), .slice a n cap] w fun e w' => e = .returned (.string ((sumS ⟨(markTo kb ss n).toArray⟩).extract 0 16)) ∧ Below w.heap.size w w' := by
  go_enter Tryd.func20, Tryd.ntmps20
  go_wp2_with fail
  go_loop [5, 13] (fun z i => ∃ k q : Nat, k ≤ n ∧ i = .int .i64 k ∧ z = .int .i64 (q : Int) ∧ q ≤ 1 + 308 * k) (fun _ i => n - (intOf i).toNat)
  case atStart => exact ⟨0, 1, by omega, rfl, rfl, by omega⟩
  case round =>
    obtain ⟨k, q, hk, rfl, rfl, hq⟩ := hrel
    by_cases hlt : k < n
    · obtain ⟨b, off, p, rfl, hbl, hc, hsp⟩ := hp.at' k hlt
      have hz : p.size ≤ 300 := hs p (List.mem_of_getElem? hsp.out)
      go_wp2
      go_round
      case rel => exact ⟨k + 1, q + (8 + p.size), by omega, by go_num, by go_num, by omega⟩
      case measure => simp [intOf]; omega
    · have hk' : k = n := by omega
      subst hk'
      go_wp2_with fail
      refine (c_grow w.heap.size w.heap.size q _ (Nat.le_refl _) (Blk.new w _ 116) (by simp) (by omega)).mono ?_
      rintro e w1 ⟨rfl, hB, h1⟩
      have hbel := ((Below.refl w.heap.size w).alloc (Nat.le_refl _) (.cells #[.pointer none, .slice none 0 0] 116)).trans h1
      clear h1
      go_wp2_with fail
      refine (c_writeByte w.heap.size w.heap.size _ _ _ (Or.inr hB) (by simp) hbel.size).mono ?_
      rintro e w2 ⟨rfl, hB2, h2⟩
      have hbel2 := hbel.trans h2
      clear hB hbel h2
      go_wp2_with fail
      go_loopw [29] (fun i wr => ∃ j : Nat, j ≤ k ∧ i = .int .i64 j ∧ Lib.BuilderAt 116 5 w.heap.size w.heap.size (.pointer (some ⟨w.heap.size, 0, none⟩)) (Lib.byteCells (markTo kb ss j)) wr ∧ Below w.heap.size w wr) (fun i _ => k - (intOf i).toNat)
      case atStart => exact ⟨0, by omega, rfl, by simpa [markTo, Lib.byteCells] using hB2, hbel2⟩
      case round =>
        obtain ⟨j, hj, rfl, hBr, hbr⟩ := hrel
        by_cases hltj : j < k
        · obtain ⟨b, off, p, rfl, hbl, hc, hsp⟩ := hp.at' j hltj
          have hz : p.size ≤ 300 := hs p (List.mem_of_getElem? hsp.out)
          have hc' : wr.cell? ⟨b, off + j, none⟩ = some (.string p) := by rw [hbr.cell hbl]; exact hc
          have hml := markTo_length kb ss hs j
          have hbc : (Lib.byteCells (markTo kb ss j)).length = (markTo kb ss j).length := by simp [Lib.byteCells]
          have HL : Hid ((Lib.byteCells (markTo kb ss j)).length ≤ 4000) := by rw [Hid, hbc]; omega
          clear hc hml hbc
          go_wp2_with fail
          refine (num_any _ _).mono ?_
          rintro e w3 ⟨rfl, h3⟩
          rw [numN_nat _ (by omega)]
          have hB3 := builder_below hBr h3
          have hbr3 := hbr.trans (h3.mono hbr.size)
          have hc3 : w3.cell? ⟨b, off + j, none⟩ = some (.string p) := by rw [hbr3.cell hbl, ← hbr.cell hbl]; exact hc'
          go_wp2_with fail
          refine (c_writeString w.heap.size w.heap.size _ _ _ (Or.inr hB3) (by have := HL.out; rw [sb_size]; omega) hbr3.size).mono ?_
          rintro e w4 ⟨rfl, hB4, h4⟩
          have hbr4 := hbr3.trans h4
          go_wp2_with fail
          refine (c_writeString w.heap.size w.heap.size _ _ _ (Or.inr hB4) (by have := HL.out; simp [Lib.strCells, sb]; omega) hbr4.size).mono ?_
          rintro e w5 ⟨rfl, hB5, h5⟩
          have hbr5 := hbr4.trans h5
          clear hBr hB3 hB4 h3 h4 h5 hbr3 hbr4
          go_wp2
          go_roundw
          case rel =>
            refine ⟨j + 1, by omega, by go_num, ?_, hbr5⟩
            rw [markTo_succ kb ss j p hsp.out]
            simpa [Lib.byteCells, Lib.strCells, sb] using hB5
          case measure => simp [intOf]; omega
        · have hj' : j = k := by omega
          subst hj'
          have hml := markTo_length kb ss hs j
          go_wp2_with fail
          refine (c_string w.heap.size w.heap.size _ _ (Or.inr hBr) hbr.size).mono ?_
          rintro e w3 ⟨rfl, h3⟩
          have hbr3 := hbr.trans h3
          have hsz : (⟨(markTo kb ss j).toArray⟩ : ByteArray).size = (markTo kb ss j).length := rfl
          go_wp2_with fail
          refine (sum_any _ _ (by rw [hsz]; omega) (hK.below hbr3)).mono ?_
          rintro e w4 ⟨rfl, h4⟩
          have h32 : (sumS ⟨(markTo kb ss j).toArray⟩).size = 32 := sb_size _ _
          go_wp2
          go_ret
          exact ⟨rfl, hbr3.trans (h4.mono hbr3.size)⟩
end Go.Proofs.YtfkgfakjhjbidaaDoor.Sm
