/-
  Part of the proof: a call of DeviceCounts returns true, whatever the input, where the variable that it reads lies as laid.
-/
import Derived.Test.YtccnnfllgdplhaaDoorD7
namespace Go.Proofs.YtccnnfllgdplhaaDoor
open Go.RowKit
/-- A slice of numbers reads as zs. -/
def Ints (w : World) (a : Option Addr) (zs : List Int) : Prop := ∀ i x, zs[i]? = some x → ∃ g o, a = some ⟨g, o, none⟩ ∧ g < w.heap.size ∧ w.cell? ⟨g, o + i, none⟩ = some (.int .i64 x)
theorem Ints.below {w w' : World} {a : Option Addr} {zs : List Int} (h : Ints w a zs) (hb : Below w.heap.size w w') : Ints w' a zs := by
  intro i x hx
  obtain ⟨g, o, h1, h2, h3⟩ := h i x hx
  exact ⟨g, o, h1, Nat.lt_of_lt_of_le h2 hb.size, (hb.cell (p := ⟨g, o + i, none⟩) h2).trans h3⟩
set_option maxRecDepth 100000 in
set_option maxHeartbeats 1000000 in
theorem dc_law (a : Option Addr) (cap : Nat) (zs : List Int) (w : World) (hz : Ints w a zs) (hl : zs.length ≤ maxLen) (hE : EB w) :
    Calls Tryd.prog 5 #[.slice a zs.length cap] w fun e w' => e = .returned (.bool true) ∧ Below w.heap.size w w' := by
  unfold maxLen at hl
  by_cases c1 : 60 < zs.length
  · go_enter Tryd.func5, Tryd.ntmps5
    go_wp2
    go_ret
    exact ⟨rfl, Below.refl _ _⟩
  go_enter Tryd.func5, Tryd.ntmps5
  go_wp2_with fail
  refine (lost_any _ hE).mono ?_
  rintro e w1 ⟨rfl, b1⟩
  go_wp2_with fail
  obtain ⟨C, hC⟩ : ∃ C, Hid (C = w1.heap.size) := ⟨_, rfl⟩
  have k0 : Cnt (w1.alloc (.cells #[.int .i64 0] 44)) w1.heap.size 0 := Blk.new _ _ _
  have b2 := b1.alloc b1.size (.cells #[.int .i64 0] 44)
  have hCw : w.heap.size ≤ C := by rw [hC.out]; exact b1.size
  rw [← hC.out] at k0
  rw [← hC.out]
  clear b1
  go_loopw [4, 5] (fun at' i wr => ∃ (k : Nat) (m : Int), k ≤ zs.length ∧ i = .int .i64 k ∧ at' = .int .i64 m ∧ Cnt wr C m ∧ Below w.heap.size w wr) (fun _ i _ => zs.length - (intOf i).toNat)
  case atStart => exact ⟨0, 0, by omega, rfl, rfl, k0, b2⟩
  case round =>
    clear k0 b2
    obtain ⟨k, m, hk, rfl, rfl, kc, bb⟩ := hrel
    by_cases hlt : k < zs.length
    · obtain ⟨g, o, rfl, hg, hcell⟩ := hz k zs[k] (List.getElem?_eq_getElem hlt)
      have hcr : wr.cell? ⟨g, o + k, none⟩ = some (.int .i64 zs[k]) := (bb.cell (p := ⟨g, o + k, none⟩) hg).trans hcell
      have hlt' : (k : Int) < (zs.length : Int) := by omega
      generalize zs[k] = x at *
      by_cases hx : x ≤ m
      · have hxm : max m x = m := by omega
        have hd : decide (m < x) = false := by simp; omega
        go_wp2_with (go_at_call 26; refine (raise_no C m x _ kc hx).mono ?_; rintro e w3 ⟨rfl, rfl⟩)
        refine region_s [(0, true), (1, true), (2, true), (3, true), (4, true), (5, false), (6, true), (7, true), (8, true), (9, true)] [] [10, 11, 12, 13, 14, 15, 16, 17] (fun w' => w'.cell? ⟨g, o + k, none⟩ = some (.int .i64 x)) mixed (by kernel_rfl) (fun _ _ _ _ _ h => h) hcr ?_
        refine lead_pure _ rfl _ rfl rfl _ (fun w' => by go_simp; rfl) ?_
        refine lead_pure _ rfl _ rfl rfl (.bool false) (fun w' => by go_simp) ?_
        refine lead_pure _ rfl _ rfl rfl _ (fun w' => by go_simp; rfl) ?_
        refine lead_pure _ rfl _ rfl rfl _ (fun w' => by go_simp; rfl) ?_
        refine lead_pure _ rfl _ rfl rfl _ (fun w' => by go_simp; rfl) ?_
        refine lead_read _ rfl _ rfl rfl (.int .i64 x) (fun w' hS => by go_simp) ?_
        refine lead_pure _ rfl _ rfl rfl _ (fun w' => by go_simp; rfl) ?_
        refine lead_pure _ rfl _ rfl rfl (.bool false) (fun w' => by go_simp) ?_
        refine lead_pure _ rfl _ rfl rfl (.bool false) (fun w' => by go_simp) ?_
        refine lead_pure _ rfl _ rfl rfl _ (fun w' => by go_simp; rfl) ?_
        simp only [lead_nil_eq, mid_nil_eq]
        simp only [Act.put, List.setIfInBounds_toArray, List.set_cons_succ, List.set_cons_zero, List.filterMap_cons, List.getElem?_toArray, List.getElem?_cons_succ, List.getElem?_cons_zero, List.filterMap_nil]
        have bd := below_drewN bb 1
        go_wp2_with fail
        refine (tell_some 10 _ (hE.below bd)).mono ?_
        rintro e w4 ⟨rfl, g4⟩
        have k4 := (kc.drewN 1).below g4 kc.lt
        have b4 := bd.trans (g4.mono bd.size)
        have c4 : w4.cell? ⟨g, o + k, none⟩ = some (.int .i64 x) := (b4.cell (p := ⟨g, o + k, none⟩) hg).trans hcell
        clear hcr
        go_wp2_with (go_at_call 28; refine (get_any C m _ k4).mono ?_; rintro e w5 ⟨rfl, rfl⟩)
        go_light
        exact ⟨⟨k + 1, m, by omega, by go_num, rfl, k4, b4⟩, by simp [intOf]; omega⟩
      · have hxm : max m x = x := by omega
        have hgt : m < x := by omega
        go_wp2_with (go_at_call 26; refine (raise_yes C m x _ kc hgt).mono ?_; rintro e w3 ⟨rfl, k3, u3⟩)
        have b3 := below_upd bb u3 hCw
        have c3 : w3.cell? ⟨g, o + k, none⟩ = some (.int .i64 x) := (b3.cell (p := ⟨g, o + k, none⟩) hg).trans hcell
        clear hcr kc u3
        refine region_s [(0, true), (1, true), (2, true), (3, true), (4, true), (5, false), (6, true), (7, true), (8, true), (9, true)] [] [10, 11, 12, 13, 14, 15, 16, 17] (fun w' => w'.cell? ⟨g, o + k, none⟩ = some (.int .i64 x)) mixed (by kernel_rfl) (fun _ _ _ _ _ h => h) c3 ?_
        refine lead_pure _ rfl _ rfl rfl _ (fun w' => by go_simp; rfl) ?_
        refine lead_pure _ rfl _ rfl rfl (.bool true) (fun w' => by go_simp) ?_
        refine lead_pure _ rfl _ rfl rfl _ (fun w' => by go_simp; rfl) ?_
        refine lead_pure _ rfl _ rfl rfl _ (fun w' => by go_simp; rfl) ?_
        refine lead_pure _ rfl _ rfl rfl _ (fun w' => by go_simp; rfl) ?_
        refine lead_read _ rfl _ rfl rfl (.int .i64 x) (fun w' hS => by go_simp) ?_
        refine lead_pure _ rfl _ rfl rfl _ (fun w' => by go_simp; rfl) ?_
        refine lead_pure _ rfl _ rfl rfl (.bool true) (fun w' => by go_simp) ?_
        refine lead_pure _ rfl _ rfl rfl (.bool false) (fun w' => by go_simp) ?_
        refine lead_pure _ rfl _ rfl rfl _ (fun w' => by go_simp; rfl) ?_
        simp only [lead_nil_eq, mid_nil_eq]
        simp only [Act.put, List.setIfInBounds_toArray, List.set_cons_succ, List.set_cons_zero, List.filterMap_cons, List.getElem?_toArray, List.getElem?_cons_succ, List.getElem?_cons_zero, List.filterMap_nil]
        have bd := below_drewN b3 1
        have kd := k3.drewN 1
        have cd : (w3.drewN 1).cell? ⟨g, o + k, none⟩ = some (.int .i64 x) := c3
        go_wp2_with (go_at_call 28; refine (get_any C x _ kd).mono ?_; rintro e w5 ⟨rfl, rfl⟩)
        go_light
        exact ⟨⟨k + 1, x, by omega, by go_num, rfl, kd, bd⟩, by simp [intOf]; omega⟩
    · go_wp2_with fail
      go_ret
      exact ⟨rfl, bb⟩
end Go.Proofs.YtccnnfllgdplhaaDoor
