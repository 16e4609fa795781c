/-
  Part of the proof: Tell, Place and bare, at no error and at an Errno, are walked.
-/
import Derived.Test.YtfkgfakjhjbidaaDoorA2
namespace Go.Proofs.YtfkgfakjhjbidaaDoor
open Go.RowKit Go.Extern.Stop Go.Stop Go.Extern
theorem tell_nil (w : World) : Calls Tryd.prog 29 #[.nilIface] w fun e w' => e = .returned (.int .i64 0) ∧ w' = w := by
  go_enter Tryd.func29, Tryd.ntmps29
  go_wp2
  go_ret
  exact ⟨rfl, rfl⟩
set_option maxHeartbeats 400000 in
theorem tell_some (n : Int) (w : World) (hE : EB w) : Calls Tryd.prog 29 #[.iface 30 (.int .i64 n)] w fun e w' => e = .returned (.int .i64 n) ∧ Below w.heap.size w w' := by
  go_enter Tryd.func29, Tryd.ntmps29
  go_wp2_with fail
  refine (as_hit n w.heap.size _ (hE.below ((Below.refl _ _).alloc (Nat.le_refl _) _)) (Blk.new _ _ _)).mono ?_
  rintro e w1 ⟨rfl, b1, s1, g1⟩
  have c1 := b1.cell 0
  go_wp2
  go_ret
  exact ⟨rfl, ((Below.refl _ _).alloc (Nat.le_refl _) _).trans (g1 _ (Nat.le_refl _))⟩
set_option maxHeartbeats 400000 in
theorem place_nil (w : World) : Calls Tryd.prog 89 #[.nilIface] w fun e w' => e = .returned (.tuple #[.int .i64 0, .int .i64 (-1)]) ∧ w' = w := by
  go_enter Tryd.func89, Tryd.ntmps89
  go_wp2_with (go_at_call 29; refine (tell_nil _).mono ?_; rintro e w' ⟨rfl, rfl⟩)
  refine wp_loop_rounds 1 ?_
  rw [rounds_succ]
  go_wp2
  go_ret2
  exact ⟨rfl, rfl⟩
theorem as_at (v : Value) (w : World) : (Instr.typeAssert (.iface 30 v) 34 172 true).run Tryd.prog w = .ok (.tuple #[.pointer none, .bool false]) w := by kernel_rfl
theorem as_un (v : Value) (w : World) : (Instr.typeAssert (.iface 30 v) 34 176 true).run Tryd.prog w = .ok (.tuple #[.nilIface, .bool false]) w :=
  run_typeAssert_lacksB Tryd.underlying176 (by kernel_rfl) (by kernel_rfl) v 34 w
set_option maxRecDepth 100000 in
set_option maxHeartbeats 400000 in
theorem place_some (n : Int) (w : World) (hE : EB w) : Calls Tryd.prog 89 #[.iface 30 (.int .i64 n)] w fun e w' => e = .returned (.tuple #[.int .i64 n, .int .i64 (-1)]) ∧ Below w.heap.size w w' := by
  go_enter Tryd.func89, Tryd.ntmps89
  go_wp2_with fail
  refine (tell_some n _ hE).mono ?_
  rintro e w1 ⟨rfl, g1⟩
  go_wp2_with fail
  refine wp_loop_rounds 1 ?_
  rw [rounds_succ]
  have u1 := as_at
  have u2 := as_un
  go_wp2
  go_ret2
  exact ⟨rfl, g1⟩
theorem bare_nil (w : World) : Calls Tryd.prog 24 #[.nilIface, .int .i64 0] w fun e w' => e = .returned (.bool true) ∧ w' = w := by
  go_enter Tryd.func24, Tryd.ntmps24
  go_wp2_with (go_at_call 89; refine (place_nil _).mono ?_; rintro e w' ⟨rfl, rfl⟩)
  go_ret
  exact ⟨rfl, rfl⟩
theorem bare_some (w : World) (n : Int) (hE : EB w) : Calls Tryd.prog 24 #[.iface 30 (.int .i64 n), .int .i64 n] w fun e w' => e = .returned (.bool true) ∧ Below w.heap.size w w' := by
  go_enter Tryd.func24, Tryd.ntmps24
  go_wp2_with (go_at_call 89; refine (place_some n _ hE).mono ?_; rintro e w1 ⟨rfl, g1⟩)
  go_ret
  exact ⟨rfl, g1⟩
end Go.Proofs.YtfkgfakjhjbidaaDoor
