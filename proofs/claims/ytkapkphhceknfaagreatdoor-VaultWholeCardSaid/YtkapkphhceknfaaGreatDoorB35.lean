/-
  Part of the proof: what is written, by closures, with a fuse: pages, Sync, what tells of all, Sync, the counter.
-/
import Derived.Test.YtkapkphhceknfaaGreatDoorB34
namespace Go.Proofs.YtkapkphhceknfaaGreatDoor.Vt
open Go.RowKit
set_option maxRecDepth 100000 in
set_option maxHeartbeats 1000000 in
theorem vwriteF_any (vb d c : Nat) (VA : Array Value) (O : Nat → Prop) (x0 : Fz) (pgs : Value) (base : Nat) (l : List (Nat × ByteArray)) (at' : Nat) (top : ByteArray) (n m : Int) (w : World)
    (jV : Blk w vb VA 76) (hv0 : VA[0]? = some (.pointer (some ⟨d, 0, none⟩))) (hv1 : VA[1]? = some (.pointer (some ⟨c, 0, none⟩))) (hx0 : x0.b = false) (hD : x0.At w O d) (hC : Dv.Cnt w c n) (hm : n < m)
    (hp : w.ownsRow base 97 2 pgs l.length (slC l)) (hpo : ∀ g, pgs.ownBlock = some g → ¬ O g) (hl : ∀ x ∈ l, x.1 < 66 ∧ x.2.size ≤ 256) (hll : l.length ≤ 32) (hW : x0.W.length ≤ 100)
    (hat : at' < 66) (htop : top.size ≤ 256) (hO : ∀ k, O k → k < w.heap.size) (o2 : ¬ O vb) (o3 : ¬ O c) (o4 : vb ≠ c) (y : Fz) (hy : y = x0.all l at' top) (ev : Value) (he : ev = errF y.b) (cm : Int) (hcm : cm = if y.b then n else m) :
    Calls Tryz.prog 40 #[.pointer (some ⟨vb, 0, none⟩), pgs, .agg #[.int .i64 (at' : Int), .string top], .int .i64 m] w fun e w' => e = .returned ev ∧
      (∃ O', y.At w' O' d ∧ ∀ k, O' k → Dv.gro O w w' k) ∧ Dv.Cnt w' c cm ∧ Dv.Chg w w' (fun k => O k ∨ k = c) := by
  have HY : Hid (y = x0.all l at' top) := hy
  have HE : Hid (ev = errF y.b) := he
  have HCM : Hid (cm = if y.b then n else m) := hcm
  clear hy he hcm
  have HL : Hid (∀ x ∈ l, x.1 < 66 ∧ x.2.size ≤ 256) := hl
  clear hl
  obtain ⟨a, cap, rfl, hrd⟩ := pg_form hp
  have HR : Hid (∀ (i : Nat) (x : Nat × ByteArray), l[i]? = some x → ∃ g, a = some ⟨g, 0, none⟩ ∧ g < w.heap.size ∧ ¬ O g ∧ w.cell? ⟨g, i * 2, none⟩ = some (.int .i64 (x.1 : Int)) ∧ w.cell? ⟨g, i * 2 + 1, none⟩ = some (.string x.2)) := fun i x hx => by
    obtain ⟨g, h1, h2, h3, h4⟩ := hrd i x hx
    exact ⟨g, h1, h2, hpo g (by rw [h1]; rfl), h3, h4⟩
  clear hrd hp hpo
  go_enter Tryz.func40, Tryz.ntmps40
  go_wp2_with (first
    | (refine wpl_put1 rfl rfl 121 _ _ rfl szF (w.heap.size + 1 + 1 + 1 + 1) 0 #[.nilFunc] 121 (doV (w.heap.size + 3)) rfl rfl rfl rfl (Blk.new' _ _ _ (by simp)) (by decide) ?_; intro w1 hu1 j1)
    | fail)
  have k0 := ((((Blk.new w #[.pointer (some ⟨vb, 0, none⟩)] 29).alloc (.cells #[.int .i64 (at' : Int), .string top] 97)).alloc (.cells #[.int .i64 m] 3)).alloc (.cells #[.nilIface] 36)).alloc (.cells #[.nilFunc] 121)
  have k1 := (((Blk.new' (w.alloc (.cells #[.pointer (some ⟨vb, 0, none⟩)] 29)) #[.int .i64 (at' : Int), .string top] 97 (b := w.heap.size + 1) (by simp)).alloc (.cells #[.int .i64 m] 3)).alloc (.cells #[.nilIface] 36)).alloc (.cells #[.nilFunc] 121)
  have k2 := ((Blk.new' ((w.alloc (.cells #[.pointer (some ⟨vb, 0, none⟩)] 29)).alloc (.cells #[.int .i64 (at' : Int), .string top] 97)) #[.int .i64 m] 3 (b := w.heap.size + 2) (by simp)).alloc (.cells #[.nilIface] 36)).alloc (.cells #[.nilFunc] 121)
  have k3 := (Blk.new' (((w.alloc (.cells #[.pointer (some ⟨vb, 0, none⟩)] 29)).alloc (.cells #[.int .i64 (at' : Int), .string top] 97)).alloc (.cells #[.int .i64 m] 3)) #[.nilIface] 36 (b := w.heap.size + 3) (by simp)).alloc (.cells #[.nilFunc] 121)
  have gg : Below w.heap.size w (((((w.alloc (.cells #[.pointer (some ⟨vb, 0, none⟩)] 29)).alloc (.cells #[.int .i64 (at' : Int), .string top] 97)).alloc (.cells #[.int .i64 m] 3)).alloc (.cells #[.nilIface] 36)).alloc (.cells #[.nilFunc] 121)) := (((((Below.refl _ _).alloc (Nat.le_refl _) _).alloc (by simp) _).alloc (by simp; omega) _).alloc (by simp; omega) _).alloc (by simp; omega) _
  have g1 := below_upd gg hu1 (show w.heap.size ≤ w.heap.size + 1 + 1 + 1 + 1 by omega)
  have z1 : w1.heap.size = w.heap.size + 5 := by rw [hu1.size]; simp
  have k0' := k0.upd hu1 (by omega)
  have k1' := k1.upd hu1 (by omega)
  have k2' := k2.upd hu1 (by omega)
  have k3' := k3.upd hu1 (by omega)
  have hD1 : x0.At w1 O d := by obtain ⟨v, lf, h⟩ := hD; exact ⟨v, lf, h.below g1⟩
  have hW1 : WrF w1 w O w.heap.size vb d c VA at' top n m x0.b := ⟨k0', k1', k2', by rw [hx0]; exact k3', j1, jV.below g1 jV.lt, hC.below g1 hC.lt, (Dv.Chg.refl w O).below g1, rfl, jV.lt, hC.lt, o2, o3, o4⟩
  obtain ⟨B, hB⟩ : ∃ B, w.heap.size = B := ⟨_, rfl⟩
  rw [hB] at hW1 z1 hO
  rw [hB]
  simp only [Nat.add_assoc, Nat.reduceAdd]
  have HO : Hid (∀ k, O k → k < B) := hO
  clear k0 k1 k2 k3 k0' k1' k2' k3' gg hu1 j1 hO jV hC hD g1
  go_loopw [18] (fun i wr => ∃ (k : Nat) (O' : Nat → Prop), k ≤ l.length ∧ i = .int .i64 k ∧ WrF wr w O B vb d c VA at' top n m (x0.wrs (l.take k)).b ∧ (x0.wrs (l.take k)).At wr O' d ∧ Hid (∀ k, O' k → O k ∨ (B + 5 ≤ k ∧ k < wr.heap.size)) ∧ B + 5 ≤ wr.heap.size) (fun i _ => l.length - (intOf i).toNat)
  case atStart => exact ⟨0, O, by omega, rfl, hW1, hD1, fun k h => Or.inl h, by omega⟩
  case round =>
    clear hW1 hD1 z1
    obtain ⟨k, O', hk, rfl, hWr, hDr, hOr, hzr⟩ := hrel
    by_cases hlt : k < l.length
    · obtain ⟨x, hx⟩ : ∃ x, l[k]? = some x := ⟨_, List.getElem?_eq_getElem hlt⟩
      obtain ⟨g, rfl, hg, ng, ca, cb⟩ := HR.out k x hx
      have hxo := HL.out x (List.mem_of_getElem? hx)
      have ca' : wr.cell? ⟨g, k * 2, none⟩ = some (.int .i64 (x.1 : Int)) := (World.cell?_of_block (hWr.lo.block g hg ng)).trans ca
      have cb' : wr.cell? ⟨g, k * 2 + 1, none⟩ = some (.string x.2) := (World.cell?_of_block (hWr.lo.block g hg ng)).trans cb
      have hlt' : (k : Int) < (l.length : Int) := by omega
      have hX : Hid (l[k]? = some x) := hx
      clear ca cb hx
      have e1 : ∀ u ∈ (#[Value.int .i64 (x.1 : Int), .string x.2] : Array Value).toList, u.oneCell' = true := by intro u hu; simp at hu; rcases hu with rfl | rfl <;> rfl
      go_wp2_with (first
        | (refine Su.wpl_storeV rfl rfl 97 _ _ rfl 2 szVB wr.heap.size _ 97 #[.int .i64 (x.1 : Int), .string x.2] e1 rfl rfl (Blk.new wr _ _) rfl rfl ?_; intro w2 hu2 j2; have d0 := j2.cell 0; have d1 := j2.cell 1)
        | fail)
      have s2 : Below wr.heap.size wr w2 := below_upd (Pg.below_alloc wr _) hu2 (Nat.le_refl _)
      have hD2 : (x0.wrs (l.take k)).At w2 O' d := by obtain ⟨v, lf, h⟩ := hDr; exact ⟨v, lf, h.below s2⟩
      have hW2 : WrF w2 w O B vb d c VA at' top n m (x0.wrs (l.take k)).b := ⟨hWr.jv.below s2 hWr.jv.lt, hWr.jt.below s2 hWr.jt.lt, hWr.jn.below s2 hWr.jn.lt, hWr.jf.below s2 hWr.jf.lt, hWr.jd.below s2 hWr.jd.lt, hWr.jV.below s2 hWr.jV.lt, hWr.jc.below s2 hWr.jc.lt, hWr.lo.below s2, hWr.h1, hWr.h2, hWr.h3, hWr.o2, hWr.o3, hWr.o4⟩
      have z2 : w2.heap.size = wr.heap.size + 1 := by rw [hu2.size]; simp
      have hlen : (x0.wrs (l.take k)).W.length < 1000 := by have h := x0.wrs_len (l.take k); rw [List.length_take] at h; omega
      have nf : ¬ O' (B + 3) := fun h => by
        rcases hOr.out _ h with h | h
        · have := HO.out _ h; omega
        · omega
      refine (putF_any (B + 4) (B + 3) B vb d VA O' _ x.1 x.2 w2 hW2.jd hW2.jf hW2.jv hW2.jV hv0 hD2 hxo.1 hxo.2 hlen nf).mono ?_
      rintro e w3 ⟨rfl, j3, hD3, C3⟩
      rw [← Fz.wrs_snoc, show l.take k ++ [x] = l.take (k + 1) from by rw [List.take_add_one, hX.out]; rfl] at hD3 j3
      have hz3 := C3.size
      have hW3 := hW2.step C3 (fun q hq => (hOr.out q hq).imp id fun h => h.1) j3 HO.out
      clear d0 d1 hu2 j2 s2 hD2 hW2 hWr hDr ca' cb' C3 j3
      go_wp2_with fail
      refine ⟨⟨k + 1, _, by omega, by go_num, hW3, hD3, fun q hq => ?_, by omega⟩, by simp [intOf]; omega⟩
      rcases hq with hq | hq
      · exact (hOr.out q hq).imp id fun h => ⟨h.1, by omega⟩
      · exact Or.inr ⟨by omega, hq.2⟩
    · have hkl : k = l.length := by omega
      have hDr' : (x0.wrs l).At wr O' d := by rw [hkl, List.take_length] at hDr; exact hDr
      have hWr' : WrF wr w O B vb d c VA at' top n m (x0.wrs l).b := by rw [hkl, List.take_length] at hWr; exact hWr
      have hl1 : (x0.wrs l).W.length ≤ 132 := by have h := x0.wrs_len l; omega
      have hAll : Hid (y = (((x0.wrs l).sy.wr at' top).sy)) := HY.out
      have hl2 : (x0.wrs l).sy.W.length < 1000 := by have h := (x0.wrs l).sy_len; omega
      clear HY
      generalize x0.wrs l = y1 at *
      have hlt' : ¬ ((k : Int) < (l.length : Int)) := by omega
      have nf : ¬ O' (B + 3) := fun h => by
        rcases hOr.out _ h with h | h
        · have := HO.out _ h; omega
        · omega
      clear hDr hkl
      have hWwr := hWr'
      clear hWr hWr'
      go_wp2_with fail
      have a0 : wr.drew.cell? ⟨B, 0, none⟩ = some (.pointer (some ⟨vb, 0, none⟩)) := hWwr.jv.cell 0
      have a1 : wr.drew.cell? ⟨vb, 0, none⟩ = some (.pointer (some ⟨d, 0, none⟩)) := by rw [show wr.drew.cell? ⟨vb, 0, none⟩ = wr.cell? ⟨vb, 0, none⟩ from rfl, hWwr.jV.cell, hv0]
      have a2 : wr.drew.cell? ⟨B + 4, 0, none⟩ = some (doV (B + 3)) := hWwr.jd.cell 0
      refine region_s [(0, false), (1, false), (2, true), (3, true), (4, false), (5, true)] [] [6] (fun w' => w' = wr.drew) Tr.mixed (by kernel_rfl) (fun _ _ _ _ _ h => h) rfl ?_
      refine lead_read _ rfl _ rfl rfl (doV (B + 3)) (fun w' hS => by subst hS; go_simp) ?_
      refine lead_read _ rfl _ rfl rfl (.pointer (some ⟨vb, 0, none⟩)) (fun w' hS => by subst hS; go_simp) ?_
      refine lead_pure _ rfl _ rfl rfl (.pointer (some ⟨vb, 0, none⟩)) (fun w' => by go_simp) ?_
      refine lead_pure _ rfl _ rfl rfl (.pointer (some ⟨vb, 0, none⟩)) (fun w' => by go_simp) ?_
      refine lead_read _ rfl _ rfl rfl (.pointer (some ⟨d, 0, none⟩)) (fun w' hS => by subst hS; go_simp) ?_
      refine lead_pure _ rfl _ rfl rfl (.func (.func 62) #[.pointer (some ⟨d, 0, none⟩)] #[]) (fun w' => by go_simp) ?_
      simp only [lead_nil_eq]
      simp only [Act.put, List.setIfInBounds_toArray, List.set_cons_succ, List.set_cons_zero]
      simp only [mid_nil_eq]
      simp only [List.filterMap_cons, List.getElem?_toArray, List.getElem?_cons_succ, List.getElem?_cons_zero, List.filterMap_nil]
      clear a0 a1 a2
      go_wp2_with fail
      refine (do_syncF (B + 3) d O' y1 _ (hWwr.jf.drewN 1) (by obtain ⟨v, lf, h⟩ := hDr'; exact ⟨v, lf, h.drewN 1⟩) nf).mono ?_
      rintro e w2 ⟨rfl, j2, hD2, C2'⟩
      have C2 : Dv.Chg wr w2 (fun k => O' k ∨ k = B + 3) := ⟨C2'.os, C2'.tape, C2'.output, C2'.size, C2'.block⟩
      have hz2 := C2.size
      have hW2 := hWwr.step C2 (fun q hq => (hOr.out q hq).imp id fun h => h.1) j2 HO.out
      have t0 := hW2.jt.cell 0
      have t1 := hW2.jt.cell 1
      clear hWwr hDr' C2' C2 j2
      go_wp2_with fail
      generalize y1.sy = y2 at *
      refine (putF_any (B + 4) (B + 3) B vb d VA O' y2 at' top w2 hW2.jd hW2.jf hW2.jv hW2.jV hv0 hD2 hat htop hl2 nf).mono ?_
      rintro e w3 ⟨rfl, j3, hD3, C3⟩
      generalize y2.wr at' top = y3 at *
      have hz3 := C3.size
      have hWw3 := hW2.step C3 (fun q hq => (hOr.out q hq).imp id fun h => h.1) j3 HO.out
      have nf3 : ¬ Dv.gro O' w2 w3 (B + 3) := fun h => by
        rcases h with h | h
        · exact nf h
        · omega
      clear hW2 hD2 C3 j3 t0 t1
      go_wp2_with fail
      have a0 : w3.drew.cell? ⟨B, 0, none⟩ = some (.pointer (some ⟨vb, 0, none⟩)) := hWw3.jv.cell 0
      have a1 : w3.drew.cell? ⟨vb, 0, none⟩ = some (.pointer (some ⟨d, 0, none⟩)) := by rw [show w3.drew.cell? ⟨vb, 0, none⟩ = w3.cell? ⟨vb, 0, none⟩ from rfl, hWw3.jV.cell, hv0]
      have a2 : w3.drew.cell? ⟨B + 4, 0, none⟩ = some (doV (B + 3)) := hWw3.jd.cell 0
      refine region_s [(0, false), (1, false), (2, true), (3, true), (4, false), (5, true)] [] [6] (fun w' => w' = w3.drew) Tr.mixed (by kernel_rfl) (fun _ _ _ _ _ h => h) rfl ?_
      refine lead_read _ rfl _ rfl rfl (doV (B + 3)) (fun w' hS => by subst hS; go_simp) ?_
      refine lead_read _ rfl _ rfl rfl (.pointer (some ⟨vb, 0, none⟩)) (fun w' hS => by subst hS; go_simp) ?_
      refine lead_pure _ rfl _ rfl rfl (.pointer (some ⟨vb, 0, none⟩)) (fun w' => by go_simp) ?_
      refine lead_pure _ rfl _ rfl rfl (.pointer (some ⟨vb, 0, none⟩)) (fun w' => by go_simp) ?_
      refine lead_read _ rfl _ rfl rfl (.pointer (some ⟨d, 0, none⟩)) (fun w' hS => by subst hS; go_simp) ?_
      refine lead_pure _ rfl _ rfl rfl (.func (.func 62) #[.pointer (some ⟨d, 0, none⟩)] #[]) (fun w' => by go_simp) ?_
      simp only [lead_nil_eq]
      simp only [Act.put, List.setIfInBounds_toArray, List.set_cons_succ, List.set_cons_zero]
      simp only [mid_nil_eq]
      simp only [List.filterMap_cons, List.getElem?_toArray, List.getElem?_cons_succ, List.getElem?_cons_zero, List.filterMap_nil]
      clear a0 a1 a2
      go_wp2_with fail
      refine (do_syncF (B + 3) d _ y3 _ (hWw3.jf.drewN 1) (by obtain ⟨v, lf, h⟩ := hD3; exact ⟨v, lf, h.drewN 1⟩) nf3).mono ?_
      rintro e w4 ⟨rfl, j4, hD4, C4'⟩
      generalize y3.sy = y4 at *
      obtain ⟨v4, l4, hD4⟩ := hD4
      have C4 : Dv.Chg w3 w4 (fun k => Dv.gro O' w2 w3 k ∨ k = B + 3) := ⟨C4'.os, C4'.tape, C4'.output, C4'.size, C4'.block⟩
      have hz4 := C4.size
      have hG : ∀ q, Dv.gro O' w2 w3 q → O q ∨ (B + 5 ≤ q ∧ q < w3.heap.size) := fun q hq => by
        rcases hq with hq | hq
        · exact (hOr.out q hq).imp id fun h => ⟨h.1, by omega⟩
        · exact Or.inr ⟨by omega, hq.2⟩
      have HG : Hid (∀ q, Dv.gro O' w2 w3 q → O q ∨ (B + 5 ≤ q ∧ q < w3.heap.size)) := hG
      have hW4 := hWw3.step C4 (fun q hq => (hG q hq).imp id fun h => h.1) j4 HO.out
      have q0 := hW4.jd.cell 0
      clear hWw3 hD3 C4' C4 j4 hG nf3
      go_wp2_with fail
      refine (do_raiseF (B + 3) B (B + 2) vb c n m y4.b w4 hW4.jf hW4.jv hW4.jn (by rw [hW4.jV.cell, hv1]) hW4.jc hm (by have := hW4.h3; omega)).mono ?_
      rintro e w5 ⟨rfl, j5, c5, C5⟩
      have r0 := j5.cell 0
      have hz5 := C5.size
      clear q0
      go_wp2_with fail
      go_ret
      obtain rfl := hAll.out
      rw [HE.out, HCM.out]
      refine ⟨rfl, ⟨_, ⟨v4, l4, hD4.chg C5 (fun q hq e => ?_)⟩, fun q hq => ?_⟩, c5, chg_then (hW4.lo.mono fun q _ h => Or.inl h) C5 (fun q hq e => ?_)⟩
      · rcases e with e | e
        · subst e
          rcases HG.out _ hq with h | h
          · exact hW4.o3 h
          · have := hW4.h3; omega
        · subst e
          rcases HG.out _ hq with h | h
          · have := HO.out _ h; omega
          · omega
      · rcases HG.out q hq with h | h
        · exact Or.inl h
        · exact Or.inr ⟨by have := hW4.h1; omega, by omega⟩
      · rcases e with e | e
        · exact Or.inr e
        · have := hW4.h1; omega
end Go.Proofs.YtkapkphhceknfaaGreatDoor.Vt
