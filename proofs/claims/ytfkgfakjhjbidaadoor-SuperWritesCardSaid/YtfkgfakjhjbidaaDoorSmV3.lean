/-
  Part of the proof of SumTells: the reference's comparison of a cube with a great number is walked.
-/
import Derived.Test.YtfkgfakjhjbidaaDoorSmV2
namespace Go.Proofs.YtfkgfakjhjbidaaDoor.Sm
open Go.RowKit
set_option maxRecDepth 100000 in
set_option maxHeartbeats 1000000 in
theorem above3 (x p : Nat) (w : World) (hx : x < 4398046511104) (hp : p < 65536) :
    Calls Tryd.prog 122 #[.int .u64 (x : Int), .int .i64 3, .int .u64 (p : Int)] w fun e w' => e = .returned (.bool (decide (p * 2 ^ 96 < x ^ 3))) ∧ Below w.heap.size w w' := by
  go_enter Tryd.func122, Tryd.ntmps122
  go_wp2_with fail
  go_loopw [7, 12] (fun v i wr => ∃ (j g cap : Nat) (ds : List Nat), j ≤ 3 ∧ i = .int .i64 j ∧ v = .slice (some ⟨g, 0, none⟩) ds.length cap ∧ Row wr w.heap.size 108 v (us ds) ∧ g < wr.heap.size ∧ Hid (val ds = x ^ j) ∧ Hid (∀ d ∈ ds, d < 65536) ∧ 1 ≤ ds.length ∧ ds.length ≤ 1 + 3 * j ∧ Below w.heap.size w wr) (fun _ i _ => 3 - (intOf i).toNat)
  case atStart => exact ⟨0, w.heap.size, 1, [1], by omega, rfl, rfl, Row.single w _ 108, by simp, by simp [Hid, val], by simp [Hid], by simp, by simp, (Below.refl _ _).alloc (Nat.le_refl _) _⟩
  case round =>
    obtain ⟨j, g, cap, ds, hj, rfl, rfl, hrow, hg, hval, hdig, hl1, hl2, hbel⟩ := hrel
    by_cases hlt : j < 3
    · go_wp2_with fail
      refine (times_any ds x g cap _ hx (by omega) hdig.out hg (fun j' d hd => hrow.cell j' _ (us_get ds j' d hd))).mono ?_
      rintro e w1 ⟨v, outs, rfl, hrow1, hval1, hdig1, ho1, ho2, hb1⟩
      obtain ⟨g1, cap1, rfl, hg1, hg1'⟩ : ∃ g cap, v = .slice (some ⟨g, 0, none⟩) outs.length cap ∧ wr.heap.size ≤ g ∧ g < w1.heap.size := by
        rcases hrow1.form with ⟨_, e1⟩ | ⟨g, cap, e1, e2, e3⟩
        · exfalso
          have : outs.length = 0 := by rw [← us_length, e1]; rfl
          omega
        · rw [us_length] at e1; exact ⟨g, cap, e1, e2, e3⟩
      have HV : Hid (val outs = x ^ (j + 1)) := by rw [Hid, hval1, hval.out, Nat.pow_succ]
      have HD : Hid (∀ d ∈ outs, d < 65536) := hdig1
      clear hval1 hdig1
      go_wp2
      exact ⟨⟨j + 1, g1, cap1, outs, by omega, by go_num, rfl, hrow1.weaken hbel.size, hg1', HV, HD, by omega, by omega, hbel.trans (hb1.mono hbel.size)⟩, by simp [intOf]; omega⟩
    · have hj2 : j = 3 := by omega
      subst hj2
      go_wp2_with (first
        | (refine wpl_make rfl _ _ 200 rfl 108 (.int .u64 0) 8 Tryd.underlying200 info38 rfl _ 6 rfl rfl rfl (by decide) (by decide) ?_; intro w1 hz1 hg1)
        | (at_builtin; refine wpl_push rfl _ _ 200 rfl wr.heap.size 108 (.int .u64 0) 8 Tryd.underlying200 info38 rfl _ _ rfl (hz1.below ((Below.refl w1.heap.size w1).alloc (Nat.le_refl _) _)) _ _ _ rfl (new_cell _ _ _) rfl (by decide) (by decide) (by have := hg1.size; simp; omega) ?_; intro gw capw w2 hroww hgroww hatw hltw))
      have hgr := hgroww.size
      have hg1s := hg1.size
      have a1 : (w1.alloc (Obj.cells #[Value.int .u64 (p : Int)] 108)).heap.size = w1.heap.size + 1 := by simp
      have hrv : Row w2 w.heap.size 108 (.slice (some ⟨g, 0, none⟩) ds.length cap) (us ds) :=
        ((hrow.grown hg1 (by simp)).below ((Below.refl w1.heap.size w1).alloc (Nat.le_refl _) _)).grown hgroww (by simp [Act.eval, Value.ownBlock]; omega)
      have hb2 := below_grown (e := 108) (v := .slice (some ⟨wr.heap.size, 0, none⟩) 6 6) (xs := List.replicate 6 (.int .u64 0)) ((below_grown0 hbel hg1 hbel.size).alloc (by have := hbel.size; omega) _) (((hz1.weaken hbel.size)).below ((Below.refl w1.heap.size w1).alloc (Nat.le_refl _) _)) hgroww (by have := hbel.size; omega)
      have hglt : g < w2.heap.size := by omega
      have hne : g ≠ gw := by
        rcases hatw with h' | h'
        · simp [Act.eval, Value.ownBlock] at h'; omega
        · omega
      obtain ⟨es, hes⟩ : ∃ es, Hid (es = (List.replicate 6 0 ++ [p] : List Nat)) := ⟨List.replicate 6 0 ++ [p], rfl⟩
      have hel : Hid (es.length = 7) := by rw [Hid, hes.out]; simp
      have hrw : Row w2 w.heap.size 108 (.slice (some ⟨gw, 0, none⟩) 7 capw) (us es) := by
        have := hroww.weaken hbel.size
        rw [hes.out]; simpa [us] using this
      have hev : Hid (val es = p * 2 ^ 96) := by rw [Hid, hes.out, val_append]; simp [val]; omega
      have hed : Hid (∀ d ∈ es, d < 65536) := by
        intro d hd; rw [hes.out] at hd; simp at hd; omega
      clear hroww hgroww hatw hz1 hg1 hrow hgr hg1s a1 hes hbel hg
      go_loopw [7] (fun v wr2 => ∃ (g cap : Nat) (ds : List Nat), v = .slice (some ⟨g, 0, none⟩) ds.length cap ∧ Row wr2 w.heap.size 108 v (us ds) ∧ Row wr2 w.heap.size 108 (.slice (some ⟨gw, 0, none⟩) 7 capw) (us es) ∧ g ≠ gw ∧ gw < wr2.heap.size ∧ g < wr2.heap.size ∧
        Hid (val ds = x ^ 3) ∧ Hid (∀ d ∈ ds, d < 65536) ∧ ds.length ≤ 20 ∧ Below w.heap.size w wr2) (fun v _ => 7 - lenOf v)
      case atStart => exact ⟨g, cap, ds, rfl, hrv, hrw, hne, hltw, hglt, hval, hdig, by omega, hb2⟩
      case round =>
        clear hrv hrw hne hltw hglt hval hdig hl1 hl2 hb2
        obtain ⟨g, cap, ds, rfl, hrv, hrw, hne, hgwl, hgl, hval, hdig, hl2, hb2⟩ := hrel
        by_cases hlt2 : ds.length < 7
        · have hra := fun o => hrv.below ((Below.refl wr.heap.size wr).alloc (Nat.le_refl _) o)
          have hrb := fun o => hrw.below ((Below.refl wr.heap.size wr).alloc (Nat.le_refl _) o)
          have hul := us_length ds
          go_wp2_with (at_builtin; refine wpl_push rfl _ _ 200 rfl w.heap.size 108 (.int .u64 0) 8 Tryd.underlying200 info38 rfl _ _ rfl (hra _) _ _ _ rfl (new_cell _ _ _) rfl (by omega) (by decide) (by have := hb2.size; simp; omega) ?_; intro g3 cap3 w3 hrow3 hgrow3 hat3 hlt3)
          have h3s := hgrow3.size
          have a1 : (wr.alloc (Obj.cells #[Value.int .u64 0] 108)).heap.size = wr.heap.size + 1 := by simp
          rw [a1] at h3s
          go_roundw
          case rel =>
            refine ⟨g3, cap3, ds ++ [0], by simp, by simpa [us_snoc, us_length] using hrow3, (hrb _).grown hgrow3 (by simp [Act.eval, Value.ownBlock]; omega), ?_, by omega, hlt3, ?_, ?_, by simp; omega, below_grown (hb2.alloc hb2.size _) (hra _) hgrow3 (by have := hb2.size; omega)⟩
            · rcases hat3 with h' | h'
              · simp [Act.eval, Value.ownBlock] at h'; omega
              · omega
            · rw [Hid, val_append, hval.out]; simp [val]
            · intro d hd
              rcases List.mem_append.1 hd with h1 | h1
              · exact hdig.out d h1
              · simp at h1; omega
          case measure => simp [lenOf]; omega
        · go_wp2_with fail
          go_loopw [8] (fun v wr3 => ∃ (gw capw : Nat) (es : List Nat), v = .slice (some ⟨gw, 0, none⟩) es.length capw ∧ Row wr3 w.heap.size 108 v (us es) ∧ Row wr3 w.heap.size 108 (.slice (some ⟨g, 0, none⟩) ds.length cap) (us ds) ∧ g ≠ gw ∧ gw < wr3.heap.size ∧ g < wr3.heap.size ∧
            Hid (val es = p * 2 ^ 96) ∧ Hid (∀ d ∈ es, d < 65536) ∧ es.length ≤ ds.length ∧ Below w.heap.size w wr3) (fun v _ => 20 - lenOf v)
          case atStart => exact ⟨gw, capw, es, by rw [hel.out], hrw, hrv, hne, hgwl, hgl, hev, hed, by rw [hel.out]; omega, hb2⟩
          case round =>
            clear hrv hrw hgwl hgl hev hed hb2 hel hne
            obtain ⟨gw, capw, es, rfl, hrw, hrv, hne, hgwl, hgl, hev, hed, hle, hb2⟩ := hrel
            by_cases hlt3 : es.length < ds.length
            · have hra := fun o => hrw.below ((Below.refl wr.heap.size wr).alloc (Nat.le_refl _) o)
              have hrb := fun o => hrv.below ((Below.refl wr.heap.size wr).alloc (Nat.le_refl _) o)
              have hul := us_length es
              go_wp2_with (at_builtin; refine wpl_push rfl _ _ 200 rfl w.heap.size 108 (.int .u64 0) 8 Tryd.underlying200 info38 rfl _ _ rfl (hra _) _ _ _ rfl (new_cell _ _ _) rfl (by omega) (by decide) (by have := hb2.size; simp; omega) ?_; intro g3 cap3 w3 hrow3 hgrow3 hat3 hlt3)
              have h3s := hgrow3.size
              have a1 : (wr.alloc (Obj.cells #[Value.int .u64 0] 108)).heap.size = wr.heap.size + 1 := by simp
              rw [a1] at h3s
              go_roundw
              case rel =>
                refine ⟨g3, cap3, es ++ [0], by simp, by simpa [us_snoc, us_length] using hrow3, (hrb _).grown hgrow3 (by simp [Act.eval, Value.ownBlock]; omega), ?_, hlt3, by omega, ?_, ?_, by simp; omega, below_grown (hb2.alloc hb2.size _) (hra _) hgrow3 (by have := hb2.size; omega)⟩
                · rcases hat3 with h' | h'
                  · simp [Act.eval, Value.ownBlock] at h'; omega
                  · omega
                · rw [Hid, val_append, hev.out]; simp [val]
                · intro d hd
                  rcases List.mem_append.1 hd with h1 | h1
                  · exact hed.out d h1
                  · simp at h1; omega
              case measure => simp [lenOf]; omega
            · have hll : Hid (es.length = ds.length) := by rw [Hid]; omega
              go_wp2_with fail
              have HC : Hid (p * 2 ^ 96 < x ^ 3 ↔ val es < val ds) := by rw [Hid, hev.out, hval.out]
              have cv := fun j d (hd : ds[j]? = some d) => hrv.cell j _ (us_get ds j d hd)
              have cw := fun j d (hd : es[j]? = some d) => hrw.cell j _ (us_get es j d hd)
              have CV : Hid (∀ (j d : Nat), ds[j]? = some d → wr.cell? ⟨g, j, none⟩ = some (.int .u64 (d : Int))) := cv
              have CW : Hid (∀ (j d : Nat), es[j]? = some d → wr.cell? ⟨gw, j, none⟩ = some (.int .u64 (d : Int))) := cw
              clear cv cw hrv hrw
              obtain ⟨W, hW⟩ : ∃ W, Hid (W = wr) := ⟨_, rfl⟩
              go_loopw [9] (fun i wq => ∃ m n : Nat, m ≤ ds.length ∧ i = .int .i64 ((m : Int) - 1) ∧ Hid (wq = W.drewN n) ∧ Hid (ds.drop m = es.drop m)) (fun i _ => (intOf i + 1).toNat)
              case atStart => exact ⟨ds.length, 0, Nat.le_refl _, rfl, hW.out.symm, by rw [Hid, List.drop_length, ← hll.out, List.drop_length]⟩
              case round =>
                obtain ⟨m, n, hm, rfl, hwq, hdr⟩ := hrel
                rw [hW.out] at hwq
                subst hwq
                match m, hm, hdr with
                | 0, _, hdr =>
                  go_wp2
                  go_ret
                  refine ⟨?_, below_drewN hb2 n⟩
                  have e : ds = es := by simpa using hdr.out
                  have : ¬ (p * 2 ^ 96 < x ^ 3) := by rw [HC.out, e]; omega
                  simp [this]
                | t + 1, hm, hdr =>
                  obtain ⟨a, ha⟩ : ∃ a, ds[t]? = some a := ⟨ds[t]'(by omega), List.getElem?_eq_getElem _⟩
                  obtain ⟨b, hb⟩ : ∃ b, es[t]? = some b := ⟨es[t]'(by rw [hll.out]; omega), List.getElem?_eq_getElem _⟩
                  have ca := CV.out t a ha
                  have cb := CW.out t b hb
                  have Ha : Hid (ds[t]? = some a) := ha
                  have Hb : Hid (es[t]? = some b) := hb
                  have htl : (t : Int) < (es.length : Int) := by have := hll.out; omega
                  have htd : (t : Int) < (ds.length : Int) := by omega
                  clear ha hb
                  by_cases hab : a = b
                  · subst hab
                    go_wp2_with fail
                    go_quiet (fail)
                    go_wp2
                    refine ⟨⟨t, n + nq, by omega, rfl, by rw [Hid, hW.out], ?_⟩, by simp [intOf]⟩
                    rw [Hid, drop_some ds t a Ha.out, drop_some es t a Hb.out, hdr.out]
                  · have hab' : ((a : Int) != (b : Int)) = true := by simp; omega
                    go_wp2_with fail
                    go_quiet (fail)
                    go_wp2
                    go_quiet (fail)
                    go_wp2
                    go_ret
                    refine ⟨?_, by simpa using below_drewN hb2 _⟩
                    have e := val_cmp ds es t a b Ha.out Hb.out hdig.out hed.out hdr.out hab
                    have e2 : decide (p * 2 ^ 96 < x ^ 3) = decide (b < a) := by
                      apply decide_eq_decide.2; rw [HC.out, ← e]
                    rw [e2]
                    rfl
end Go.Proofs.YtfkgfakjhjbidaaDoor.Sm
