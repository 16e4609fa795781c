/-
  Part of the proof of SumTells: the code's Mark answers the plain mark (at most 10 texts of at most 300 bytes).
  Part of the proof of SumTells: the reference's New answers a table of 72 plain words: the eight that a sum starts with and the 64 round numbers.
  Part of the proof of SumTells: the reference's rotation is walked.
  Part of the proof of SumTells: a padded text's plain sum, block by block, read as one list of bytes, is the plain sum of the text.
  Part of the proof of SumTells: the reference's Sum answers the plain sum of its text (texts of at most 10000 bytes).
  Part of the proof of SumTells: the reference's Mark answers the plain mark (at most 10 texts of at most 300 bytes); a text is long if it has more than 60 bytes.
-/
import Derived.Test.YtkapkphhceknfaaGreatDoorB06
import Derived.Test.YtkapkphhceknfaaGreatDoorB04
namespace Go.Proofs.YtkapkphhceknfaaGreatDoor.Sm
open Go.RowKit
/-- The texts that a slice holds. -/
structure Parts (w : World) (a : Option Addr) (n : Nat) (ss : List ByteArray) : Prop where
  len : ss.length = n
  at' : ∀ j, j < n → ∃ b off p, a = some ⟨b, off, none⟩ ∧ b < w.heap.size ∧ w.cell? ⟨b, off + j, none⟩ = some (.string p) ∧ Hid (ss[j]? = some p)
theorem Parts.below {w w' : World} {a : Option Addr} {n : Nat} {ss : List ByteArray} (h : Parts w a n ss) (hb : Below w.heap.size w w') : Parts w' a n ss :=
  ⟨h.len, fun j hj => by
    obtain ⟨b, off, p, e, hl, hc, hs⟩ := h.at' j hj
    exact ⟨b, off, p, e, Nat.lt_of_lt_of_le hl hb.size, by rw [hb.cell hl]; exact hc, hs⟩⟩
def markPart (p : ByteArray) : List UInt8 := (List.range 8).map (numB p.size) ++ p.data.toList
/-- The text whose sum is a mark. -/
def markTo (kb : UInt8) (ss : List ByteArray) (k : Nat) : List UInt8 := kb :: (ss.take k).flatMap markPart
theorem markTo_succ (kb : UInt8) (ss : List ByteArray) (k : Nat) (p : ByteArray) (h : ss[k]? = some p) : markTo kb ss (k + 1) = markTo kb ss k ++ (List.range 8).map (numB p.size) ++ p.data.toList := by
  unfold markTo
  rw [List.take_add_one, h]
  simp [markPart]
theorem markTo_length (kb : UInt8) (ss : List ByteArray) (hs : ∀ p ∈ ss, p.size ≤ 300) (k : Nat) : (markTo kb ss k).length ≤ 1 + 308 * k := by
  unfold markTo
  have : ∀ (l : List ByteArray), (∀ p ∈ l, p.size ≤ 300) → (l.flatMap markPart).length ≤ 308 * l.length := by
    intro l
    induction l with
    | nil => intro _; simp
    | cons p l ih =>
      intro hl
      have h1 := ih fun q hq => hl q (by simp [hq])
      have h2 := hl p (by simp)
      have h3 : p.data.toList.length = p.size := by simp
      simp only [List.flatMap_cons, List.length_append, markPart, List.length_map, List.length_range, List.length_cons]
      omega
  have h1 := this (ss.take k) fun p hp => hs p (List.mem_of_mem_take hp)
  have h2 : (ss.take k).length ≤ k := List.length_take_le _ _
  simp only [List.length_cons]
  omega
theorem builder_below {T e : TypeId} {B b : Nat} {p : Value} {bs : List Value} {w w' : World} (h : Lib.BuilderAt T e B b p bs w) (hb : Below w.heap.size w w') : Lib.BuilderAt T e B b p bs w' := by
  obtain ⟨hB, v, hbk, hown, hne⟩ := h
  have lt : ∀ {k : Nat} {o : Obj}, w.heap[k]? = some o → k < w.heap.size := fun {k o} hk => by
    rcases Nat.lt_or_ge k w.heap.size with h' | h'
    · exact h'
    · simp [Array.getElem?_eq_none h'] at hk
  refine ⟨hB, v, by rw [hb.block _ (lt hbk)]; exact hbk, ?_, hne⟩
  obtain ⟨h1, h2⟩ := hown
  refine ⟨h1, ?_⟩
  rcases h2 with h2 | ⟨g, cap, cur, hv, hg, hh, r⟩
  · exact Or.inl h2
  · exact Or.inr ⟨g, cap, cur, hv, hg, by rw [hb.block _ (lt hh)]; exact hh, r⟩
theorem numN_nat (n : Nat) (h : n < 18446744073709551616) : numN (n : Int) = n := by unfold numN; omega
set_option maxRecDepth 100000 in
set_option maxHeartbeats 1000000 in
theorem mark_any (kb : UInt8) (a : Option Addr) (n cap : Nat) (ss : List ByteArray) (w : World) (hp : Parts w a n ss) (hn : n ≤ 10) (hs : ∀ p ∈ ss, p.size ≤ 300) (hK : KB w) :
    Calls Tryz.prog 56 #[.int .u8 (kb.toNat : Int), .slice a n cap] w fun e w' => e = .returned (.string ((sumS ⟨(markTo kb ss n).toArray⟩).extract 0 16)) ∧ Below w.heap.size w w' := by
  go_enter Tryz.func56, Tryz.ntmps56
  go_wp2_with fail
  go_loop [5, 13] (fun z i => ∃ k q : Nat, k ≤ n ∧ i = .int .i64 k ∧ z = .int .i64 (q : Int) ∧ q ≤ 1 + 308 * k) (fun _ i => n - (intOf i).toNat)
  case atStart => exact ⟨0, 1, by omega, rfl, rfl, by omega⟩
  case round =>
    obtain ⟨k, q, hk, rfl, rfl, hq⟩ := hrel
    by_cases hlt : k < n
    · obtain ⟨b, off, p, rfl, hbl, hc, hsp⟩ := hp.at' k hlt
      have hz : p.size ≤ 300 := hs p (List.mem_of_getElem? hsp.out)
      go_wp2
      go_round
      case rel => exact ⟨k + 1, q + (8 + p.size), by omega, by go_num, by go_num, by omega⟩
      case measure => simp [intOf]; omega
    · have hk' : k = n := by omega
      subst hk'
      go_wp2_with fail
      refine (c_grow w.heap.size w.heap.size q _ (Nat.le_refl _) (Blk.new w _ 150) (by simp) (by omega)).mono ?_
      rintro e w1 ⟨rfl, hB, h1⟩
      have hbel := ((Below.refl w.heap.size w).alloc (Nat.le_refl _) (.cells #[.pointer none, .slice none 0 0] 150)).trans h1
      clear h1
      go_wp2_with fail
      refine (c_writeByte w.heap.size w.heap.size _ _ _ (Or.inr hB) (by simp) hbel.size).mono ?_
      rintro e w2 ⟨rfl, hB2, h2⟩
      have hbel2 := hbel.trans h2
      clear hB hbel h2
      go_wp2_with fail
      go_loopw [29] (fun i wr => ∃ j : Nat, j ≤ k ∧ i = .int .i64 j ∧ Lib.BuilderAt 150 5 w.heap.size w.heap.size (.pointer (some ⟨w.heap.size, 0, none⟩)) (Lib.byteCells (markTo kb ss j)) wr ∧ Below w.heap.size w wr) (fun i _ => k - (intOf i).toNat)
      case atStart => exact ⟨0, by omega, rfl, by simpa [markTo, Lib.byteCells] using hB2, hbel2⟩
      case round =>
        obtain ⟨j, hj, rfl, hBr, hbr⟩ := hrel
        by_cases hltj : j < k
        · obtain ⟨b, off, p, rfl, hbl, hc, hsp⟩ := hp.at' j hltj
          have hz : p.size ≤ 300 := hs p (List.mem_of_getElem? hsp.out)
          have hc' : wr.cell? ⟨b, off + j, none⟩ = some (.string p) := by rw [hbr.cell hbl]; exact hc
          have hml := markTo_length kb ss hs j
          have hbc : (Lib.byteCells (markTo kb ss j)).length = (markTo kb ss j).length := by simp [Lib.byteCells]
          have HL : Hid ((Lib.byteCells (markTo kb ss j)).length ≤ 4000) := by rw [Hid, hbc]; omega
          clear hc hml hbc
          go_wp2_with fail
          refine (num_any _ _).mono ?_
          rintro e w3 ⟨rfl, h3⟩
          rw [numN_nat _ (by omega)]
          have hB3 := builder_below hBr h3
          have hbr3 := hbr.trans (h3.mono hbr.size)
          have hc3 : w3.cell? ⟨b, off + j, none⟩ = some (.string p) := by rw [hbr3.cell hbl, ← hbr.cell hbl]; exact hc'
          go_wp2_with fail
          refine (c_writeString w.heap.size w.heap.size _ _ _ (Or.inr hB3) (by have := HL.out; rw [sb_size]; omega) hbr3.size).mono ?_
          rintro e w4 ⟨rfl, hB4, h4⟩
          have hbr4 := hbr3.trans h4
          go_wp2_with fail
          refine (c_writeString w.heap.size w.heap.size _ _ _ (Or.inr hB4) (by have := HL.out; simp [Lib.strCells, sb]; omega) hbr4.size).mono ?_
          rintro e w5 ⟨rfl, hB5, h5⟩
          have hbr5 := hbr4.trans h5
          clear hBr hB3 hB4 h3 h4 h5 hbr3 hbr4
          go_wp2
          go_roundw
          case rel =>
            refine ⟨j + 1, by omega, by go_num, ?_, hbr5⟩
            rw [markTo_succ kb ss j p hsp.out]
            simpa [Lib.byteCells, Lib.strCells, sb] using hB5
          case measure => simp [intOf]; omega
        · have hj' : j = k := by omega
          subst hj'
          have hml := markTo_length kb ss hs j
          go_wp2_with fail
          refine (c_string w.heap.size w.heap.size _ _ (Or.inr hBr) hbr.size).mono ?_
          rintro e w3 ⟨rfl, h3⟩
          have hbr3 := hbr.trans h3
          have hsz : (⟨(markTo kb ss j).toArray⟩ : ByteArray).size = (markTo kb ss j).length := rfl
          go_wp2_with fail
          refine (sum_any _ _ (by rw [hsz]; omega) (hK.below hbr3)).mono ?_
          rintro e w4 ⟨rfl, h4⟩
          have h32 : (sumS ⟨(markTo kb ss j).toArray⟩).size = 32 := sb_size _ _
          go_wp2
          go_ret
          exact ⟨rfl, hbr3.trans (h4.mono hbr3.size)⟩
end Go.Proofs.YtkapkphhceknfaaGreatDoor.Sm
namespace Go.Proofs.YtkapkphhceknfaaGreatDoor.Sm
open Go.RowKit
def r3L : List Nat := [5411319704, 6194414737, 7344290767, 8215976869, 9551921755, 10098905585, 11043570340, 11460697813, 12214315672, 13195500289, 13492127166, 14311783875, 14809980276, 15046980094, 15499789991, 16133124468, 16720292289, 16907126662, 17444216262, 17784676812, 17950125167, 18429019306, 18734950876, 19175934170, 19734090066, 20001703533, 20132865992, 20390182855, 20516441075, 20764397895, 21588763473, 21813078375, 22141143685, 22248366392, 22769593852, 22871018771, 23170020180, 23461497531, 23651862830, 23931792517, 24205322401, 24295138891, 24734567280, 24820601251, 24990902297, 25075189284, 25569408389, 26045227120, 26200031510, 26276752392, 26428864332, 26653801653, 26727943347, 27092625994, 27306805839, 27517677555, 27725365998, 27793908591, 27997534228, 28131656200, 28198240250, 28526537963, 28973835255, 29099129074]
def r2L : List Nat := [6074000999, 7439101573, 9603838834, 11363415354, 14244795007, 15485724812, 17708603819, 18721328409]
theorem r3_ok : ∀ i, i < 64 → (r3L.getD i 0) ^ 3 ≤ (pl 312).getD i 0 * 2 ^ (32 * 3) ∧ (pl 312).getD i 0 * 2 ^ (32 * 3) < (r3L.getD i 0 + 1) ^ 3 ∧ (pl 312).getD i 0 < 65536 ∧ (pl 312).getD i 0 * 2 ^ (32 * 3) < 1099511627776 ^ 3 ∧ r3L.getD i 0 % 4294967296 = (kF i).toNat := by
  decide +kernel
theorem r2_ok : ∀ i, i < 8 → (r2L.getD i 0) ^ 2 ≤ (pl 312).getD i 0 * 2 ^ (32 * 2) ∧ (pl 312).getD i 0 * 2 ^ (32 * 2) < (r2L.getD i 0 + 1) ^ 2 ∧ (pl 312).getD i 0 < 65536 ∧ (pl 312).getD i 0 * 2 ^ (32 * 2) < 1099511627776 ^ 2 ∧ r2L.getD i 0 % 4294967296 = (hF i).toNat := by
  decide +kernel
/-- What New has reckoned behind k rounds. -/
def rK (k j : Nat) : BitVec 32 := if j < 8 then (if j < k then hF j else 0) else (if j < 8 + k then kF (j - 8) else 0)
end Go.Proofs.YtkapkphhceknfaaGreatDoor.Sm
namespace Go.Proofs.YtkapkphhceknfaaGreatDoor.Sm
open Go.RowKit
theorem rot_add (x : BitVec 32) (n : Nat) (h0 : 1 ≤ n) (h1 : n ≤ 31) : x >>> n + x <<< (32 - n) = x.rotateRight n := by
  rw [← rot_eq x n h0 h1, BitVec.or_comm, BitVec.add_eq_or_of_and_eq_zero]
  ext i hi
  simp
  intro h
  have := BitVec.getLsbD_of_ge x (n + i)
  by_cases h2 : 32 - n ≤ i
  · rw [BitVec.getLsbD_of_ge x (n + i) (by omega)] at h; cases h
  · intro h3; omega
theorem rotr_eq (x : BitVec 32) (n : Int) (h0 : 1 ≤ n) (h1 : n ≤ 31) : (I x / 2 ^ n.toNat + I x * 2 ^ (32 - n).toNat % 4294967296) % 4294967296 = I (x.rotateRight n.toNat) := by
  rw [I_shr, I_shlm, I_addm, ← rot_add x n.toNat (by omega) (by omega)]
  rw [show (32 - n).toNat = 32 - n.toNat from by omega]
end Go.Proofs.YtkapkphhceknfaaGreatDoor.Sm
namespace Go.Proofs.YtkapkphhceknfaaGreatDoor.Sm
theorem sw_congr (m m' : Nat → BitVec 32) (h : ∀ t, t < 16 → m t = m' t) (t : Nat) : sw m t = sw m' t := by
  induction t using Nat.strongRecOn with
  | _ t ih =>
    by_cases ht : t < 16
    · rw [sw_lo _ _ ht, sw_lo _ _ ht, h t ht]
    · rw [sw_hi _ _ ht, sw_hi _ _ ht, ih (t - 16) (by omega), ih (t - 15) (by omega), ih (t - 7) (by omega), ih (t - 2) (by omega)]
theorem rounds_congr (s : St) (m m' : Nat → BitVec 32) (h : ∀ t, t < 16 → m t = m' t) (k : Nat) : s.rounds m k = s.rounds m' k := by
  induction k with
  | zero => rfl
  | succ k ih => simp only [St.rounds, ih, sw_congr m m' h]
theorem stirF_congr (f m m' : Nat → BitVec 32) (h : ∀ t, t < 16 → m t = m' t) : stirF f m = stirF f m' := by
  funext j; unfold stirF; rw [rounds_congr _ m m' h]
def bL (M : List UInt8) (i : Nat) : Nat := (M.getD i 0).toNat
/-- The words of chunk c of a text. -/
def mL (M : List UInt8) (c t : Nat) : BitVec 32 := wordN (bL M (64 * c + 4 * t)) (bL M (64 * c + 4 * t + 1)) (bL M (64 * c + 4 * t + 2)) (bL M (64 * c + 4 * t + 3))
/-- The state behind c chunks of a text. -/
def chM (M : List UInt8) : Nat → Nat → BitVec 32
  | 0 => hF
  | c + 1 => stirF (chM M c) (mL M c)
theorem chunks_eq (M : List UInt8) (f : Nat → BitVec 32) (s : ByteArray) (c0 : Nat) (hf : f = chM M c0) (k : Nat) (hs : ∀ i, i < 64 * k → byteAt s i = bL M (64 * c0 + i)) : chunks f s k = chM M (c0 + k) := by
  induction k with
  | zero => exact hf
  | succ k ih =>
    show stirF (chunks f s k) (mOf (s.extract (k * 64) ((k + 1) * 64))) = stirF (chM M (c0 + k)) (mL M (c0 + k))
    rw [ih fun i hi => hs i (by omega)]
    apply stirF_congr
    intro t ht
    unfold mOf mL
    rw [byteAt_extract _ _ _ _ (by omega), byteAt_extract _ _ _ _ (by omega), byteAt_extract _ _ _ _ (by omega), byteAt_extract _ _ _ _ (by omega),
      hs _ (by omega), hs _ (by omega), hs _ (by omega), hs _ (by omega)]
    congr 2 <;> omega
/-- The text of which whole chunks come. -/
def msgL (s : ByteArray) : List UInt8 := s.data.toList ++ padL s.size
theorem padL_length (n : Nat) : (padL n).length = 1 + ((119 - n % 64) % 64 + 8) := by simp [padL]; omega
theorem msgL_length (s : ByteArray) : (msgL s).length = s.size + (1 + ((119 - s.size % 64) % 64 + 8)) := by
  unfold msgL; rw [List.length_append, padL_length]; rfl
theorem msgL_mod (s : ByteArray) : (msgL s).length % 64 = 0 := by rw [msgL_length]; omega
/-- The document's way to a text's sum: chunk by chunk. -/
theorem sumS_eq (s : ByteArray) : sumS s = sb 32 (stB (chM (msgL s) ((msgL s).length / 64))) := by
  have hsz : s.data.toList.length = s.size := rfl
  unfold sumS
  have e1 : chunks hF (s.extract 0 (s.size - s.size % 64)) ((s.size - s.size % 64) / 64) = chM (msgL s) (0 + (s.size - s.size % 64) / 64) := by
    apply chunks_eq (msgL s) hF _ 0 rfl
    intro i hi
    rw [byteAt_extract _ _ _ _ (by omega)]
    unfold byteAt bL msgL
    rw [List.getD_eq_getElem?_getD, List.getD_eq_getElem?_getD, List.getElem?_append_left (by rw [hsz]; omega)]
  have e2 : chunks (chM (msgL s) (0 + (s.size - s.size % 64) / 64)) (s.extract (s.size - s.size % 64) s.size ++ ⟨(padL s.size).toArray⟩) ((s.size - (s.size - s.size % 64) + (padL s.size).length) / 64)
      = chM (msgL s) (0 + (s.size - s.size % 64) / 64 + (s.size - (s.size - s.size % 64) + (padL s.size).length) / 64) := by
    apply chunks_eq (msgL s) _ _ _ rfl
    intro i hi
    have hb : (s.extract (s.size - s.size % 64) s.size ++ ⟨(padL s.size).toArray⟩).data.toList = (msgL s).drop (s.size - s.size % 64) := by
      unfold msgL
      rw [List.drop_append_of_le_length (by rw [hsz]; omega)]
      simp
      rw [List.take_of_length_le (by simp)]
    unfold byteAt bL
    rw [hb, List.getD_eq_getElem?_getD, List.getD_eq_getElem?_getD, List.getElem?_drop]
    congr 3; omega
  simp only [e1, e2]
  congr 3
  rw [msgL_length, padL_length]; omega
theorem ch_eq (e f g : BitVec 32) : g ^^^ e &&& (f ^^^ g) = ch e f g := by
  unfold ch; ext i hi; simp; cases e[i] <;> cases f[i] <;> cases g[i] <;> rfl
theorem maj_eq (a b c : BitVec 32) : a &&& b ||| c &&& (a ||| b) = maj a b c := by
  unfold maj; ext i hi; simp; cases a[i] <;> cases b[i] <;> cases c[i] <;> rfl
theorem sg_comm (a b c d : BitVec 32) : d + c + b + a = a + b + c + d := by ac_rfl
end Go.Proofs.YtkapkphhceknfaaGreatDoor.Sm
namespace Go.Proofs.YtkapkphhceknfaaGreatDoor.Sm
open Go.RowKit
theorem tab_sub (n m off : Nat) (f : Nat → BitVec 32) (h : off + m ≤ n) : (tab n f).extract off (off + m) = tab m (fun j => f (off + j)) := by
  apply Array.ext_getElem?; intro i
  rw [Array.getElem?_extract, tab_size]
  by_cases hi : i < m
  · rw [if_pos (by omega), tab_get _ _ _ (by omega), tab_get _ _ _ hi]
  · rw [if_neg (by omega), Array.getElem?_eq_none (by rw [tab_size]; omega)]
theorem rK_h : tab 8 (fun j => rK 64 (0 + j)) = tab 8 hF := tab_congr _ _ _ fun j hj => by unfold rK; rw [if_pos (by omega), if_pos (by omega), Nat.zero_add]
theorem rK_k (j : Nat) (h : j < 64) : rK 64 (8 + j) = kF j := by unfold rK; rw [if_neg (by omega), if_pos (by omega)]; congr 1; omega
attribute [local go_sem] I_xor I_and I_or I_addm I_add3 I_add4 I_add5 I_not I_shr3 I_shr10
theorem hex80 : (128 : Int) = ((128 : UInt8).toNat : Int) := rfl
section
variable {ops : Array Oper} {Q : Exit → Act → World → Prop} {a : Act} {w : World} {rest : List Oper} {o : Oper}
/-- An element of a row of eight words. -/
theorem wpl_index8 (hgd : o.guard = none) (x y : Operand) (ho : o.op = .index 156 x y) (f : Nat → BitVec 32) (k : Nat) (hx : a.eval x = .agg (tab 8 f)) (hy : a.eval y = .int .i64 (k : Int)) (hk : k < 8)
    (h : wpList Tryz.prog ops Q rest (a.put o.dst (.int .u32 (I (f k)))) w) : wpList Tryz.prog ops Q (o :: rest) a w := by
  refine wpList_plain hgd fun K hK => ?_
  have hr : (Instr.index 156 (.agg (tab 8 f)) (.int .i64 (k : Int))).run Tryz.prog w = .ok (.int .u32 (I (f k))) w := by
    have hk' : (0 : Int) ≤ (k : Int) ∧ (k : Int) < ((8 : Nat) : Int) := by omega
    have hg := tab_get 8 f k hk
    have u31 := Tryz.underlying156
    have a30 := Tryz.isAgg155 w
    have z30 := Tryz.sizeOf155 w
    simp only [Instr.index, asIntOf, Sem.run_bind, Sem.run_pure, Result.andThen_ok, underlying, run_program, u31, Sem.run_ite, if_pos hk', z30, part, a30]
    simp [hg]
  unfold Oper.wp execOp
  simp only [ho, hx, hy, Sem.run_bind, Sem.run_pure, Result.andThen_ok, hr]
  exact hK _ _ h
end
/-- A word of so many bytes, one behind the other. -/
def pw (b : Nat → Nat) : Nat → BitVec 32
  | 0 => 0
  | q + 1 => pw b q * 256 + BitVec.ofNat 32 (b q)
theorem pw_four (b : Nat → Nat) : pw b 4 = wordN (b 0) (b 1) (b 2) (b 3) := by
  unfold wordN; simp only [pw]
  apply BitVec.eq_of_toNat_eq
  simp [BitVec.toNat_add, BitVec.toNat_mul]
theorem pw_step (x : BitVec 32) (b : Nat) : (I x * 256 % 4294967296 + (b : Int) % 4294967296) % 4294967296 = I (x * 256 + BitVec.ofNat 32 b) := by
  unfold I; simp [BitVec.toNat_add, BitVec.toNat_mul]
theorem pw_step' (x : BitVec 32) (b : Nat) : (I x * 256 + (b : Int)) % 4294967296 = I (x * 256 + BitVec.ofNat 32 b) := by
  unfold I; simp [BitVec.toNat_add, BitVec.toNat_mul]
end Go.Proofs.YtkapkphhceknfaaGreatDoor.Sm
namespace Go.Proofs.YtkapkphhceknfaaGreatDoor.Sm
open Go.RowKit
theorem markBA (kb : UInt8) (ss : List ByteArray) (j : Nat) (p : ByteArray) (h : ss[j]? = some p) :
    (⟨(markTo kb ss j).toArray⟩ : ByteArray) ++ sb 8 (numB p.size) ++ p = ⟨(markTo kb ss (j + 1)).toArray⟩ := by
  apply ba_ext; rw [markTo_succ kb ss j p h]; simp [sb]
end Go.Proofs.YtkapkphhceknfaaGreatDoor.Sm
