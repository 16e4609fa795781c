/-
  Part of the proof: a call of DeviceRests returns true, whatever the input, where the variable that it reads lies as laid.
-/
import Derived.Test.YtccnnfllgdplhaaDoorE2
namespace Go.Proofs.YtccnnfllgdplhaaDoor
open Go.RowKit
section
variable {w w' : World} {O : Nat → Prop} {a : Option Addr}
theorem argT {ls : List ByteArray} (h : Texts w (fun _ => False) a ls) (hb : Below w.heap.size w w') (hO : Bd w.heap.size O w') : Texts w' O a ls := by
  intro i x hx
  obtain ⟨g, o, h1, h2, _, h4⟩ := h i x hx
  exact ⟨g, o, h1, Nat.lt_of_lt_of_le h2 hb.size, fun hg => by have := (hO g hg).1; omega, (hb.cell (p := ⟨g, o + i, none⟩) h2).trans h4⟩
theorem argI {zs : List Int} (h : Ints w a zs) (hb : Below w.heap.size w w') (hO : Bd w.heap.size O w') : ∀ i x, zs[i]? = some x → ∃ g o, a = some ⟨g, o, none⟩ ∧ g < w'.heap.size ∧ ¬ O g ∧ w'.cell? ⟨g, o + i, none⟩ = some (.int .i64 x) := by
  intro i x hx
  obtain ⟨g, o, h1, h2, h4⟩ := h i x hx
  exact ⟨g, o, h1, Nat.lt_of_lt_of_le h2 hb.size, fun hg => by have := (hO g hg).1; omega, (hb.cell (p := ⟨g, o + i, none⟩) h2).trans h4⟩
theorem argB {ks : List Bool} (h : Bools w a ks) (hb : Below w.heap.size w w') (hO : Bd w.heap.size O w') : ∀ i x, ks[i]? = some x → ∃ g o, a = some ⟨g, o, none⟩ ∧ g < w'.heap.size ∧ ¬ O g ∧ w'.cell? ⟨g, o + i, none⟩ = some (.bool x) := by
  intro i x hx
  obtain ⟨g, o, h1, h2, h4⟩ := h i x hx
  exact ⟨g, o, h1, Nat.lt_of_lt_of_le h2 hb.size, fun hg => by have := (hO g hg).1; omega, (hb.cell (p := ⟨g, o + i, none⟩) h2).trans h4⟩
end
/-- The texts of an image. -/
def imgL (S : Nat → Nat → UInt8) : List ByteArray := (List.range 66).map fun k => sb 256 (S k)
theorem imgL_len (S : Nat → Nat → UInt8) : (imgL S).length = 66 := by simp [imgL]
theorem imgT {w : World} {O : Nat → Prop} {G : Nat} {S : Nat → Nat → UInt8} {T : TypeId} (h : Blk w G (ts 66 fun k => sb 256 (S k)) T) (hG : ¬ O G) : Texts w O (some ⟨G, 0, none⟩) (imgL S) := by
  intro i x hx
  have hi : i < 66 := by have := (List.getElem?_eq_some_iff.1 hx).1; simpa [imgL_len] using this
  refine ⟨G, 0, rfl, h.lt, hG, ?_⟩
  rw [Nat.zero_add, h.tx i hi]
  simp [imgL, hi] at hx
  rw [hx]
theorem bAt_sb (f : Nat → UInt8) (n j : Nat) (h : j < n) : bAt (sb n f) j = f j := by
  unfold bAt sb; rw [List.getD_eq_getElem?_getD, List.getElem?_eq_getElem (by simpa using h)]; simp
theorem sb_lay (S S' : Nat → Nat → UInt8) (k : Nat) (hk : k < 66) : sb 256 (layS S' (imgL S) 66 k) = sb 256 (S k) := by
  apply sb_congr; intro j hj
  unfold layS
  rw [if_pos hk]
  have : (imgL S).getD k ByteArray.empty = sb 256 (S k) := by
    rw [List.getD_eq_getElem?_getD]; simp [imgL, hk]
  rw [this, bAt_sb _ _ _ hj]
theorem ts_lay (S S' : Nat → Nat → UInt8) : ts 66 (fun k => sb 256 (layS S' (imgL S) 66 k)) = ts 66 fun k => sb 256 (S k) := ts_congr _ _ _ fun k hk => sb_lay S S' k hk
theorem equal66 (G1 G2 : Nat) (S : Nat → Nat → UInt8) (w : World) (h1 : Texts w (fun _ => False) (some ⟨G1, 0, none⟩) (imgL S)) (h2 : Texts w (fun _ => False) (some ⟨G2, 0, none⟩) (imgL S)) :
    Calls Tryd.prog 49 #[.slice (some ⟨G1, 0, none⟩) 66 66, .slice (some ⟨G2, 0, none⟩) 66 66] w fun e w' => e = .returned (.bool true) ∧ Below w.heap.size w w' := by
  have := equal_same (some ⟨G1, 0, none⟩) (some ⟨G2, 0, none⟩) 66 66 (imgL S) w h1 h2 (by rw [imgL_len]; decide)
  rw [imgL_len] at this; exact this
theorem lay66 (b : Nat) (O : Nat → Prop) (S S' : Nat → Nat → UInt8) (W : List (Nat × (Nat → UInt8))) (F : Int) (v : Value) (lf : Int) (w : World) (hD : Dev w O b S' W F v lf) (G : Nat) (hls : Texts w O (some ⟨G, 0, none⟩) (imgL S)) :
    Calls Tryd.prog 39 #[.pointer (some ⟨b, 0, none⟩), .slice (some ⟨G, 0, none⟩) 66 66] w fun e w' => e = .returned (.tuple #[]) ∧ (∃ l', Dev w' O b (layS S' (imgL S) 66) [] F (.slice none 0 0) l') ∧ Chg w w' O := by
  have := lay_any b O S' W F v lf w hD (some ⟨G, 0, none⟩) 66 (imgL S) (by rw [imgL_len]; decide) hls
  rw [imgL_len] at this; exact this
/-- All that DeviceRests has in memory: the device, the place that points to it, the place of the numbers. -/
structure St (w0 w : World) (O : Nat → Prop) (b Bp Ba : Nat) (av : Value) (S : Nat → Nat → UInt8) (W : List (Nat × (Nat → UInt8))) (F : Int) (v : Value) (lf : Int) : Prop where
  dev : Dev w O b S W F v lf
  low : Below w0.heap.size w0 w
  bd : Bd w0.heap.size O w
  jd : Blk w Bp #[.pointer (some ⟨b, 0, none⟩)] 52
  ja : Blk w Ba #[av] 41
  nd : ¬ O Bp
  na : ¬ O Ba
/-- An image that lies at block G. -/
structure Im (w : World) (O : Nat → Prop) (G : Nat) (S : Nat → Nat → UInt8) : Prop where
  blk : Blk w G (ts 66 fun k => sb 256 (S k)) 9
  no : ¬ O G
section
variable {w0 w w' : World} {O O' : Nat → Prop} {b Bp Ba : Nat} {av : Value} {S S' : Nat → Nat → UInt8} {W W' : List (Nat × (Nat → UInt8))} {F F' : Int} {v v' : Value} {lf lf' : Int} {G : Nat}
theorem not_gro {k : Nat} (hk : k < w.heap.size) (hn : ¬ O k) (hO : ∀ q, O' q → gro O w w' q) : ¬ O' k := fun h => (hO k h).elim hn (fun h2 => by omega)
theorem St.chg (h : St w0 w O b Bp Ba av S W F v lf) (hc : Chg w w' O) (hD : Dev w' O' b S' W' F' v' lf') (hO : ∀ q, O' q → gro O w w' q) : St w0 w' O' b Bp Ba av S' W' F' v' lf' :=
  ⟨hD, hc.low h.low h.low.size h.bd, fun k hk => (h.bd.gro h.low.size hc.size) k (hO k hk), h.jd.chg hc h.nd, h.ja.chg hc h.na, not_gro h.jd.lt h.nd hO, not_gro h.ja.lt h.na hO⟩
theorem St.same (h : St w0 w O b Bp Ba av S W F v lf) (hc : Chg w w' O) (hD : Dev w' O b S' W' F' v' lf') : St w0 w' O b Bp Ba av S' W' F' v' lf' := h.chg hc hD (fun _ hq => Or.inl hq)
theorem St.below (h : St w0 w O b Bp Ba av S W F v lf) (hb : Below w.heap.size w w') : St w0 w' O b Bp Ba av S W F v lf := h.same (Chg.of hb O) (h.dev.below hb)
theorem Im.chg (h : Im w O G S) (hc : Chg w w' O) (hO : ∀ q, O' q → gro O w w' q) : Im w' O' G S := ⟨h.blk.chg hc h.no, not_gro h.blk.lt h.no hO⟩
theorem Im.same (h : Im w O G S) (hc : Chg w w' O) : Im w' O G S := h.chg hc (fun _ hq => Or.inl hq)
theorem Im.below (h : Im w O G S) (hb : Below w.heap.size w w') : Im w' O G S := h.same (Chg.of hb O)
theorem Im.texts (h : Im w O G S) : Texts w O (some ⟨G, 0, none⟩) (imgL S) := imgT h.blk h.no
theorem Im.texts0 (h : Im w O G S) : Texts w (fun _ => False) (some ⟨G, 0, none⟩) (imgL S) := imgT h.blk (fun h => h)
end
theorem image_st {w0 w : World} {O : Nat → Prop} {b Bp Ba : Nat} {av : Value} {S : Nat → Nat → UInt8} {W : List (Nat × (Nat → UInt8))} {F : Int} {v : Value} {lf : Int} (h : St w0 w O b Bp Ba av S W F v lf) :
    Calls Tryd.prog 42 #[.pointer (some ⟨b, 0, none⟩)] w fun e w' => ∃ G, e = .returned (.slice (some ⟨G, 0, none⟩) 66 66) ∧ St w0 w' O b Bp Ba av S W F v lf ∧ Im w' O G S ∧ Below w.heap.size w w' :=
  (image_any b O S W F v lf w h.dev).mono fun e w' ⟨he, hB, hb⟩ => ⟨w.heap.size, he, h.below hb, ⟨hB, fun hO => by have := (h.bd _ hO).2; omega⟩, hb⟩
set_option maxRecDepth 100000 in
set_option maxHeartbeats 1000000 in
theorem dr_law (a1 a2 a3 a4 : Option Addr) (c1 c2 c3 c4 : Nat) (ls ms : List ByteArray) (zs : List Int) (ks : List Bool) (w : World) (h1 : Texts w (fun _ => False) a1 ls) (h2 : Texts w (fun _ => False) a2 ms) (h3 : Ints w a3 zs) (h4 : Bools w a4 ks)
    (l1 : ls.length ≤ maxLen) (l2 : ms.length ≤ maxLen) (l3 : zs.length ≤ maxLen) (l4 : ks.length ≤ maxLen) (s1 : ∀ s ∈ ls, s.size ≤ maxLen) (s2 : ∀ s ∈ ms, s.size ≤ maxLen) (hE : EB w) :
    Calls Tryd.prog 7 #[.slice a1 ls.length c1, .slice a2 ms.length c2, .slice a3 zs.length c3, .slice a4 ks.length c4] w fun e w' => e = .returned (.bool true) ∧ Below w.heap.size w w' := by
  have l3' := l3
  have l4' := l4
  unfold maxLen at l3' l4'
  have g0 := (Below.refl w.heap.size w).alloc (Nat.le_refl _) (.cells #[.slice a3 zs.length c3] 41)
  have j0 := Blk.new w #[.slice a3 zs.length c3] 41
  have c0 := j0.cell 0
  have t1 := h1.below g0
  have t2 := h2.below g0
  cases f1 : fewB ls with
  | false =>
    go_enter Tryd.func7, Tryd.ntmps7
    go_wp2_with (go_at_call 46; refine (few_any _ _ _ _ t1 l1 s1).mono ?_; rintro e w' ⟨rfl, rfl⟩; rw [f1])
    go_ret
    exact ⟨rfl, g0⟩
  | true =>
  go_enter Tryd.func7, Tryd.ntmps7
  go_wp2_with fail
  refine (few_any a1 c1 ls _ t1 l1 s1).mono ?_
  rintro e w' ⟨rfl, rfl⟩
  rw [f1]
  go_wp2_with fail
  refine (few_any a2 c2 ms _ t2 l2 s2).mono ?_
  rintro e w' ⟨rfl, rfl⟩
  cases f2 : fewB ms with
  | false =>
    go_wp2_with fail
    go_ret
    exact ⟨rfl, g0⟩
  | true =>
  by_cases z0 : zs.length = 0
  · have z0' : ((zs.length : Int) == 0) = true := by simp [z0]
    go_wp2_with fail
    go_ret
    rw [z0] at g0
    exact ⟨rfl, g0⟩
  have z0' : ((zs.length : Int) == 0) = false := by rw [beq_eq_false_iff_ne]; omega
  by_cases z1 : 20 < zs.length
  · go_wp2_with fail
    go_ret
    exact ⟨rfl, g0⟩
  have z1' : decide ((20 : Int) < (zs.length : Int)) = false := by simp; omega
  by_cases k1 : 30 < ks.length
  · go_wp2_with fail
    go_ret
    exact ⟨rfl, g0⟩
  have k1' : decide ((30 : Int) < (ks.length : Int)) = false := by simp; omega
  go_wp2_with fail
  have fl1 := fewB_len f1
  have fl2 := fewB_len f2
  have fs1 := fewB_size f1
  have fs2 := fewB_size f2
  obtain ⟨Ba, hBa⟩ : ∃ Ba, Hid (Ba = w.heap.size) := ⟨_, rfl⟩
  refine (lost_any _ (hE.below g0)).mono ?_
  rintro e w1 ⟨rfl, b1⟩
  have ja1 := j0.below b1 j0.lt
  have g1 := g0.trans (b1.mono g0.size)
  have zg1 : w.heap.size + 1 ≤ w1.heap.size := by have := b1.size; simpa using this
  rw [← hBa.out] at ja1
  rw [← hBa.out]
  clear c0 j0 t1 t2 b1 g0
  go_wp2_with fail
  refine (dnew_any _).mono ?_
  rintro e w2 ⟨rfl, hD2, b2, z2'⟩
  have z2 : Hid (w2.heap.size = w1.heap.size + 1) := z2'
  clear z2'
  obtain ⟨b, hb⟩ : ∃ b, Hid (b = w1.heap.size) := ⟨_, rfl⟩
  rw [← hb.out] at hD2
  rw [← hb.out]
  have ja2 := ja1.below b2 ja1.lt
  have g2 := g1.trans (b2.mono g1.size)
  go_wp2_with fail
  obtain ⟨Bd', hBd⟩ : ∃ Bd', Hid (Bd' = w2.heap.size) := ⟨_, rfl⟩
  have jd3 := Blk.new w2 #[.pointer (some ⟨b, 0, none⟩)] 52
  have hD3 := hD2.below ((Below.refl _ _).alloc (Nat.le_refl _) (.cells #[.pointer (some ⟨b, 0, none⟩)] 52))
  have ja3 := ja2.alloc (.cells #[.pointer (some ⟨b, 0, none⟩)] 52)
  have g3 := g2.alloc g2.size (.cells #[.pointer (some ⟨b, 0, none⟩)] 52)
  have z3 : (w2.alloc (.cells #[.pointer (some ⟨b, 0, none⟩)] 52)).heap.size = w2.heap.size + 1 := by simp
  have eqs : Hid (Ba = w.heap.size ∧ b = w1.heap.size ∧ Bd' = w2.heap.size ∧ w2.heap.size = w1.heap.size + 1) := ⟨hBa.out, hb.out, hBd.out, z2.out⟩
  rw [← hBd.out] at jd3
  rw [← hBd.out]
  obtain ⟨w3, hw3⟩ : ∃ w3, w2.alloc (.cells #[.pointer (some ⟨b, 0, none⟩)] 52) = w3 := ⟨_, rfl⟩
  rw [hw3] at jd3 hD3 ja3 g3 z3 ⊢
  clear hw3
  have st3 : St w w3 (fun k => k = b) b Bd' Ba (.slice a3 zs.length c3) (fun _ _ => 0) [] (-1) (.slice none 0 0) 0 :=
    ⟨hD3, g3, fun k hk => by rw [show k = b from hk]; exact ⟨by rw [eqs.out.2.1]; omega, hD3.blk.lt⟩, jd3, ja3, by rw [eqs.out.2.1, eqs.out.2.2.1]; have := eqs.out.2.2.2; omega, by rw [eqs.out.1, eqs.out.2.1]; omega⟩
  clear hD2 hD3 ja1 ja2 ja3 jd3 g1 g2 g3 b2 z3 eqs hBd hb hBa z2 zg1
  refine (put_any b Bd' Ba _ _ _ _ _ a1 a3 c1 c3 ls zs _ st3.dev st3.jd st3.ja st3.nd st3.na (argI h3 st3.low st3.bd) (argT h1 st3.low st3.bd) (by omega) (by omega) fl1 fs1 (by simp)).mono ?_
  rintro e w4 ⟨rfl, ⟨O4, W4, v4, l4', hD4, hO4, hW4⟩, C4⟩
  have st4 := st3.chg C4 hD4 hO4
  clear st3 hD4 hO4 C4
  have c4 := st4.jd.cell 0
  go_wp2_with fail
  refine (sync_ok b _ _ _ _ _ _ _ st4.dev (by decide)).mono ?_
  rintro e w5 ⟨rfl, ⟨l5, hD5⟩, C5⟩
  rw [burnt_none] at hD5
  have st5 := st4.same C5 hD5
  clear st4 hD5 C5 c4
  generalize loseS (fun _ _ => 0) W4 (fun _ => true) W4.length = S5 at *
  have c5 := st5.jd.cell 0
  go_wp2_with fail
  refine (image_st st5).mono ?_
  rintro e w6 ⟨G, rfl, st6, im6, _⟩
  clear st5 c5
  have c6 := st6.jd.cell 0
  go_wp2_with fail
  refine (crash_any b _ _ _ _ _ _ _ st6.dev a4 c4 ks (by omega) (argB h4 st6.low st6.bd)).mono ?_
  rintro e w7 ⟨rfl, ⟨l7, hD7⟩, C7⟩
  have hD7' : Dev w7 O4 b S5 [] (-1) (.slice none 0 0) l7 := hD7
  have st7 := st6.same C7 hD7'
  have im7 := im6.same C7
  clear st6 hD7 hD7' C7 c6 im6
  have c7 := st7.jd.cell 0
  go_wp2_with fail
  refine (image_st st7).mono ?_
  rintro e w8 ⟨G8, rfl, st8, im8, b8⟩
  have im8' := im7.below b8
  clear st7 c7 im7
  go_wp2_with fail
  refine (equal66 G8 G S5 _ im8.texts0 im8'.texts0).mono ?_
  rintro e w9 ⟨rfl, b9⟩
  have st9 := st8.below b9
  have im9 := im8'.below b9
  clear st8 im8 im8'
  go_wp2_with fail
  refine (put_any b Bd' Ba _ _ _ _ _ a2 a3 c2 c3 ms zs _ st9.dev st9.jd st9.ja st9.nd st9.na (argI h3 st9.low st9.bd) (argT h2 st9.low st9.bd) (by omega) (by omega) fl2 fs2 (by simp)).mono ?_
  rintro e w10 ⟨rfl, ⟨O10, W10, v10, l10, hD10, hO10, hW10⟩, C10⟩
  have st10 := st9.chg C10 hD10 hO10
  have im10 := im9.chg C10 hO10
  clear st9 hD10 hO10 C10 im9
  have c10 := st10.jd.cell 0
  go_wp2_with fail
  refine (image_st st10).mono ?_
  rintro e w11 ⟨G11, rfl, st11, im11, b11⟩
  have im11' := im10.below b11
  clear st10 c10 im10
  go_wp2_with fail
  refine (equal66 G11 G S5 _ im11.texts0 im11'.texts0).mono ?_
  rintro e w12 ⟨rfl, b12⟩
  have st12 := st11.below b12
  have im12 := im11'.below b12
  clear st11 im11 im11'
  have c12 := st12.jd.cell 0
  go_wp2_with fail
  refine (sync_ok b _ _ _ _ _ _ _ st12.dev (by decide)).mono ?_
  rintro e w13 ⟨rfl, ⟨l13, hD13⟩, C13⟩
  rw [burnt_none] at hD13
  have st13 := st12.same C13 hD13
  have im13 := im12.same C13
  clear st12 hD13 C13 c12 im12
  generalize loseS S5 W10 (fun _ => true) W10.length = S13 at *
  have c13 := st13.jd.cell 0
  go_wp2_with fail
  refine (lay66 b _ _ _ _ _ _ _ _ st13.dev G im13.texts).mono ?_
  rintro e w14 ⟨rfl, ⟨l14, hD14⟩, C14⟩
  have st14 := st13.same C14 hD14
  have im14 := im13.same C14
  clear st13 hD14 C14 c13 im13
  have c14 := st14.jd.cell 0
  go_wp2_with fail
  refine (image_st st14).mono ?_
  rintro e w15 ⟨G15, rfl, st15, im15, b15⟩
  have im15' := im14.below b15
  have im15s : Im w15 O10 G15 S5 := ⟨by rw [← ts_lay S5 S13]; exact im15.blk, im15.no⟩
  clear st14 c14 im14 im15
  go_wp2_with fail
  refine (equal66 G15 G S5 _ im15s.texts0 im15'.texts0).mono ?_
  rintro e w16 ⟨rfl, b16⟩
  have st16 := st15.below b16
  have im16 := im15'.below b16
  clear st15 im15s im15'
  have c16 := st16.jd.cell 0
  go_wp2_with fail
  refine (fuse_any b _ _ _ _ _ _ 0 _ st16.dev (by decide)).mono ?_
  rintro e w17 ⟨rfl, ⟨l17, hD17⟩, u17⟩
  rw [show fuseTo 0 = 0 from by decide] at hD17
  have C17 := (Chg.refl w16 O10).upd u17 (Or.inl st16.dev.own)
  have st17 := st16.same C17 hD17
  have im17 := im16.same C17
  clear st16 im16 c16 C17 u17 hD17
  have c17 := st17.jd.cell 0
  go_wp2_with fail
  refine (write_spent b _ _ _ _ _ 3 ⟨#[120]⟩ _ st17.dev (by decide) (by decide)).mono ?_
  rintro e w18 ⟨rfl, ⟨l18, hD18⟩, u18⟩
  have C18 := (Chg.refl w17 O10).upd u18 (Or.inl st17.dev.own)
  have st18 := st17.same C18 hD18
  have im18 := im17.same C18
  clear st17 im17 c17 C18 u18 hD18
  go_wp2_with fail
  refine (tell_some 14 _ (hE.below st18.low)).mono ?_
  rintro e w19 ⟨rfl, b19⟩
  have st19 := st18.below b19
  have im19 := im18.below b19
  clear st18 im18
  have c19 := st19.jd.cell 0
  go_wp2_with fail
  refine (sync_spent b _ _ _ _ _ _ st19.dev).mono ?_
  rintro e w20 ⟨rfl, ⟨l20, hD20⟩, u20⟩
  have C20 := (Chg.refl w19 O10).upd u20 (Or.inl st19.dev.own)
  have st20 := st19.same C20 hD20
  have im20 := im19.same C20
  clear st19 im19 c19 C20 u20 hD20
  go_wp2_with fail
  refine (tell_some 14 _ (hE.below st20.low)).mono ?_
  rintro e w21 ⟨rfl, b21⟩
  have st21 := st20.below b21
  have im21 := im20.below b21
  clear st20 im20
  have c21 := st21.jd.cell 0
  go_wp2_with fail
  refine (image_st st21).mono ?_
  rintro e w22 ⟨G22, rfl, st22, im22, b22⟩
  have im22' := im21.below b22
  have im22s : Im w22 O10 G22 S5 := ⟨by rw [← ts_lay S5 S13]; exact im22.blk, im22.no⟩
  clear st21 c21 im21 im22
  go_wp2_with fail
  refine (equal66 G22 G S5 _ im22s.texts0 im22'.texts0).mono ?_
  rintro e w23 ⟨rfl, b23⟩
  have st23 := st22.below b23
  go_wp2_with fail
  go_ret
  exact ⟨rfl, st23.low⟩
end Go.Proofs.YtccnnfllgdplhaaDoor
