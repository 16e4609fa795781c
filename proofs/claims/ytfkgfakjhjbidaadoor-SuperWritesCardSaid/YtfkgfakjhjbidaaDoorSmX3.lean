/-
  Part of the proof of SumTells: the reference's Mark answers the plain mark (at most 10 texts of at most 300 bytes); a text is long if it has more than 60 bytes.
-/
import Derived.Test.YtfkgfakjhjbidaaDoorSmX2
namespace Go.Proofs.YtfkgfakjhjbidaaDoor.Sm
open Go.RowKit
theorem markBA (kb : UInt8) (ss : List ByteArray) (j : Nat) (p : ByteArray) (h : ss[j]? = some p) :
    (⟨(markTo kb ss j).toArray⟩ : ByteArray) ++ sb 8 (numB p.size) ++ p = ⟨(markTo kb ss (j + 1)).toArray⟩ := by
  apply ba_ext; rw [markTo_succ kb ss j p h]; simp [sb]
set_option maxRecDepth 100000 in
set_option maxHeartbeats 1000000 in
theorem rmark_any (rb : Nat) (kb : UInt8) (a : Option Addr) (n cap : Nat) (ss : List ByteArray) (w : World) (hR : Blk w rb (tab 72 (rK 64)) 105) (hp : Parts w a n ss) (hn : n ≤ 10) (hs : ∀ p ∈ ss, p.size ≤ 300) :
    Calls Tryd.prog 21 #[.pointer (some ⟨rb, 0, none⟩), .int .u8 (kb.toNat : Int), .slice a n cap] w fun e w' => e = .returned (.string ((sumS ⟨(markTo kb ss n).toArray⟩).extract 0 16)) ∧ Below w.heap.size w w' := by
  have hkx : Hid ((#[Value.int .u8 (kb.toNat : Int)] : Array Value).extract 0 (0 + 1) = (Lib.byteCells [kb]).toArray) := by simp [Hid, Lib.byteCells]
  go_enter Tryd.func21, Tryd.ntmps21
  go_wp2_with (refine wpl_string rfl 112 9 5 _ rfl Tryd.underlying112 Tryd.underlying5 Tryd.underlying9 _ _ _ _ _ _ rfl (Blk.new _ _ 5) (by simp) _ hkx.out ?_)
  go_loopw [7, 15] (fun o i wr => ∃ j : Nat, j ≤ n ∧ i = .int .i64 j ∧ o = .string ⟨(markTo kb ss j).toArray⟩ ∧ Below w.heap.size w wr) (fun _ i _ => n - (intOf i).toNat)
  case atStart => exact ⟨0, by omega, rfl, rfl, (Below.refl _ _).alloc (Nat.le_refl _) _⟩
  case round =>
    obtain ⟨j, hj, rfl, rfl, hbr⟩ := hrel
    have hml := markTo_length kb ss hs j
    by_cases hltj : j < n
    · obtain ⟨b, off, p, rfl, hbl, hc, hsp⟩ := hp.at' j hltj
      have hz : p.size ≤ 300 := hs p (List.mem_of_getElem? hsp.out)
      have hc' : wr.cell? ⟨b, off + j, none⟩ = some (.string p) := by rw [hbr.cell hbl]; exact hc
      have HB : Hid ((⟨(markTo kb ss j).toArray⟩ : ByteArray) ++ sb 8 (numB p.size) ++ p = ⟨(markTo kb ss (j + 1)).toArray⟩) := markBA kb ss j p hsp.out
      have hs8 := sb_size 8 (numB p.size)
      clear hc
      generalize markTo kb ss j = mj at *
      go_wp2_with fail
      refine (refnum_any _ _).mono ?_
      rintro e w3 ⟨rfl, h3⟩
      rw [numN_nat _ (by omega)]
      have hb3 := hbr.trans (h3.mono hbr.size)
      go_wp2
      go_light
      exact ⟨⟨j + 1, by omega, by go_num, congrArg Value.string HB.out, hb3⟩, by simp [intOf]; omega⟩
    · have hj' : j = n := by omega
      subst hj'
      have hsz : (⟨(markTo kb ss j).toArray⟩ : ByteArray).size = (markTo kb ss j).length := rfl
      go_wp2_with fail
      refine (rsum_any rb _ _ (by rw [hsz]; omega) (Blk.below hR hbr hR.lt)).mono ?_
      rintro e w4 ⟨rfl, h4⟩
      have h32 : (sumS ⟨(markTo kb ss j).toArray⟩).size = 32 := sb_size _ _
      go_wp2
      go_ret
      exact ⟨rfl, hbr.trans (h4.mono hbr.size)⟩
set_option maxHeartbeats 400000 in
theorem long_any (s : ByteArray) (w : World) (h : s.size ≤ maxLen) : Calls Tryd.prog 12 #[.string s] w fun e w' => e = .returned (.bool (decide (60 < s.size))) ∧ w' = w := by
  unfold maxLen at h
  go_enter Tryd.func12, Tryd.ntmps12
  go_wp2
  go_ret
  refine ⟨congrArg (fun b => Ending.returned (.bool b)) (decide_eq_decide.mpr ?_), rfl⟩
  omega
end Go.Proofs.YtfkgfakjhjbidaaDoor.Sm
