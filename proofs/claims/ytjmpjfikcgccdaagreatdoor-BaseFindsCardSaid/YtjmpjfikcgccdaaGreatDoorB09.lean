/-
  Part of the proof of BaseFindsCard (SyA and on).
-/
import Derived.ProofKit
import Derived.Test.YtjmpjfikcgccdaaGreatDoorB08
import Derived.Lib.SliceRun
namespace Go.Proofs.YtjmpjfikcgccdaaGreatDoor.Sy
section
variable {α:Type}
structure Pre (cf:α -> α -> Int):Prop where
  asym:∀ x y,cf x y < 0 -> ¬ cf y x < 0
  trans:∀ x y z,¬ cf y x < 0 -> ¬ cf z y < 0 -> ¬ cf z x < 0
theorem Pre.refl {cf:α -> α -> Int} (h:Pre cf) (x:α):¬ cf x x < 0:=fun e => h.asym x x e e
def Nlt (cf:α -> α -> Int) (x y:α):Prop:=¬ cf x y < 0
def Sor (cf:α -> α -> Int) (d:Nat -> α) (a b:Nat):Prop:=∀ i j,a <= i -> i <= j -> j < b -> ¬ cf (d j) (d i) < 0
structure Rot (d d':Nat -> α) (s m e:Nat):Prop where
  left:∀ t,t < e - m -> d' (s + t) = d (m + t)
  right:∀ t,t < m - s -> d' (s + (e - m) + t) = d (s + t)
  rest:∀ x,(x < s ∨ e <= x) -> d' x = d x
theorem Rot.leftX {d d':Nat -> α} {s m e:Nat} (h:Rot d d' s m e) (x:Nat) (h1:s <= x) (h2:x < s + (e - m)):d' x = d (m + (x - s)):=by
  have:=h.left (x - s) (by omega)
  rwa [show s + (x - s) = x from by omega] at this
theorem Rot.rightX {d d':Nat -> α} {s m e:Nat} (h:Rot d d' s m e) (hsm:s <= m) (x:Nat) (h1:s + (e - m) <= x) (h2:x < e) (hme:m <= e):d' x = d (x - (e - m)):=by
  have:=h.right (x - (s + (e - m))) (by omega)
  rw [show s + (e - m) + (x - (s + (e - m))) = x from by omega,show s + (x - (s + (e - m))) = x - (e - m) from by omega] at this
  exact this
theorem Rot.nothing (d:Nat -> α) {s m e:Nat} (h:s = m ∨ m = e) (hsm:s <= m) (hme:m <= e):Rot d d s m e:=by
  rcases h with rfl | rfl
  · exact ⟨fun t _ => rfl,fun t ht => by omega,fun x _ => rfl⟩
  · exact ⟨fun t ht => by omega,fun t _ => by rw [Nat.sub_self,Nat.add_zero],fun x _ => rfl⟩
theorem Sor.join {cf:α -> α -> Int} (P:Pre cf) {d:Nat -> α} {a c b:Nat} (h1:Sor cf d a c) (h2:Sor cf d c b) (h:c <= a ∨ b <= c ∨ ¬ cf (d c) (d (c - 1)) < 0):Sor cf d a b:=by
  intro i j hi hij hj
  by_cases c1:j < c
  · exact h1 i j hi hij c1
  by_cases c2:c <= i
  · exact h2 i j c2 hij hj
  rcases h with h | h | h
  · omega
  · omega
  · exact P.trans _ _ _ (h1 i (c - 1) hi (by omega) (by omega)) (P.trans _ _ _ h (h2 c j (Nat.le_refl _) (by omega) hj))
theorem Sor.sub {cf:α -> α -> Int} {d:Nat -> α} {a b a' b':Nat} (h:Sor cf d a b) (ha:a <= a') (hb:b' <= b):Sor cf d a' b':=fun i j hi hij hj => h i j (by omega) hij (by omega)
def Und (cf:α -> α -> Int) (d:Nat -> α) (a mid b:Nat):Prop:=∀ i j,a <= i -> i < mid -> mid <= j -> j < b -> ¬ cf (d j) (d i) < 0
theorem Und.sor {cf:α -> α -> Int} {d:Nat -> α} {a mid b:Nat} (h:Und cf d a mid b) (h1:Sor cf d a mid) (h2:Sor cf d mid b):Sor cf d a b:=by
  intro i j hi hij hj
  by_cases c1:j < mid
  · exact h1 i j hi hij c1
  by_cases c2:mid <= i
  · exact h2 i j c2 hij hj
  exact h i j hi (by omega) (by omega) hj
structure Wi (d d':Nat -> α) (a b:Nat):Prop where
  inn:∀ i,a <= i -> i < b -> ∃ j,a <= j ∧ j < b ∧ d' i = d j
  out:∀ x,(x < a ∨ b <= x) -> d' x = d x
theorem Wi.refl (d:Nat -> α) (a b:Nat):Wi d d a b:=⟨fun i h1 h2 => ⟨i,h1,h2,rfl⟩,fun _ _ => rfl⟩
theorem Wi.trans {d d' d'':Nat -> α} {a b:Nat} (h:Wi d d' a b) (h':Wi d' d'' a b):Wi d d'' a b:=by
  refine ⟨fun i h1 h2 => ?_,fun x hx => (h'.out x hx).trans (h.out x hx)⟩
  obtain ⟨j,j1,j2,e⟩:=h'.inn i h1 h2
  obtain ⟨k,k1,k2,e'⟩:=h.inn j j1 j2
  exact ⟨k,k1,k2,e.trans e'⟩
theorem Wi.wide {d d':Nat -> α} {a b a' b':Nat} (h:Wi d d' a b) (ha:a' <= a) (hb:b <= b'):Wi d d' a' b':=by
  refine ⟨fun i h1 h2 => ?_,fun x hx => h.out x (by omega)⟩
  by_cases c:a <= i ∧ i < b
  · obtain ⟨j,j1,j2,e⟩:=h.inn i c.1 c.2
    exact ⟨j,by omega,by omega,e⟩
  · exact ⟨i,h1,h2,h.out i (by omega)⟩
theorem Rot.wi {d d':Nat -> α} {s m e:Nat} (h:Rot d d' s m e) (hsm:s <= m) (hme:m <= e):Wi d d' s e:=by
  refine ⟨fun i h1 h2 => ?_,h.rest⟩
  by_cases c:i < s + (e - m)
  · exact ⟨m + (i - s),by omega,by omega,h.leftX i h1 c⟩
  · exact ⟨i - (e - m),by omega,by omega,h.rightX hsm i (by omega) h2 hme⟩
theorem Und.wi {cf:α -> α -> Int} {d d':Nat -> α} {a mid b:Nat} (h:Und cf d a mid b) (hw:Wi d d' a mid):Und cf d' a mid b:=by
  intro i j hi hi' hj hj'
  obtain ⟨k,k1,k2,e⟩:=hw.inn i hi hi'
  rw [e,hw.out j (Or.inr hj)]
  exact h k j k1 k2 hj hj'
theorem Und.wi' {cf:α -> α -> Int} {d d':Nat -> α} {a mid b:Nat} (h:Und cf d a mid b) (hw:Wi d d' mid b):Und cf d' a mid b:=by
  intro i j hi hi' hj hj'
  obtain ⟨k,k1,k2,e⟩:=hw.inn j hj hj'
  rw [e,hw.out i (Or.inl hi')]
  exact h i k hi hi' k1 k2
theorem Sor.out {cf:α -> α -> Int} {d d':Nat -> α} {a b a' b':Nat} (h:Sor cf d a b) (hw:Wi d d' a' b') (hd:b <= a' ∨ b' <= a):Sor cf d' a b:=by
  intro i j hi hij hj
  rw [hw.out i (by omega),hw.out j (by omega)]
  exact h i j hi hij hj
theorem rot_sor {cf:α -> α -> Int} (P:Pre cf) {d d':Nat -> α} {a s m e b mid:Nat} (h1:Sor cf d a m) (h2:Sor cf d m b) (hr:Rot d d' s m e) (has:a <= s) (hsm:s <= m) (hme:m <= e) (heb:e <= b) (hmid:mid = s + (e - m))
    (c1:s <= a ∨ b <= e ∨ ¬ cf (d e) (d (s - 1)) < 0) (c2:s = m ∨ m = e ∨ cf (d (e - 1)) (d s) < 0) :
    Sor cf d' a s ∧ Sor cf d' s mid ∧ Sor cf d' mid e ∧ Sor cf d' e b ∧ Und cf d' a mid b:=by
  subst hmid
  refine ⟨?_,?_,?_,?_,?_⟩
  · intro i j hi hij hj
    rw [hr.rest i (by omega),hr.rest j (by omega)]
    exact h1 i j hi hij (by omega)
  · intro i j hi hij hj
    rw [hr.leftX i hi (by omega),hr.leftX j (by omega) hj]
    exact h2 _ _ (by omega) (by omega) (by omega)
  · intro i j hi hij hj
    rw [hr.rightX hsm i hi (by omega) hme,hr.rightX hsm j (by omega) hj hme]
    exact h1 _ _ (by omega) (by omega) (by omega)
  · intro i j hi hij hj
    rw [hr.rest i (by omega),hr.rest j (by omega)]
    exact h2 i j (by omega) hij hj
  · intro i j hi hi' hj hj'
    by_cases ci:i < s
    · rw [hr.rest i (by omega)]
      by_cases cj:j < e
      · rw [hr.rightX hsm j hj cj hme]
        exact h1 i _ hi (by omega) (by omega)
      · rw [hr.rest j (by omega)]
        rcases c1 with c | c | c
        · omega
        · omega
        · exact P.trans _ _ _ (h1 i (s - 1) hi (by omega) (by omega)) (P.trans _ _ _ c (h2 e j hme (by omega) hj'))
    · rw [hr.leftX i (by omega) hi']
      by_cases cj:j < e
      · rw [hr.rightX hsm j hj cj hme]
        rcases c2 with c | c | c
        · omega
        · omega
        · have c':=P.asym _ _ c
          exact P.trans _ _ _ (h2 (m + (i - s)) (e - 1) (by omega) (by omega) (by omega)) (P.trans _ _ _ c' (h1 s (j - (e - m)) has (by omega) (by omega)))
      · rw [hr.rest j (by omega)]
        exact h2 _ j (by omega) (by omega) hj'
structure Swr (d d':Nat -> α) (a b n:Nat):Prop where
  left:∀ t,t < n -> d' (a + t) = d (b + t)
  right:∀ t,t < n -> d' (b + t) = d (a + t)
  rest:∀ x,¬ (a <= x ∧ x < a + n) -> ¬ (b <= x ∧ x < b + n) -> d' x = d x
theorem Swr.step {d d' d'':Nat -> α} {a b n:Nat} (h:Swr d d' a b n) (hab:a + n < b) (e1:d'' (a + n) = d' (b + n)) (e2:d'' (b + n) = d' (a + n)) (e3:∀ x,x ≠ a + n -> x ≠ b + n -> d'' x = d' x):Swr d d'' a b (n + 1):=by
  refine ⟨fun t ht => ?_,fun t ht => ?_,fun x h1 h2 => ?_⟩
  · by_cases c:t = n
    · subst c;rw [e1];exact h.rest _ (by omega) (by omega)
    · rw [e3 _ (by omega) (by omega)];exact h.left t (by omega)
  · by_cases c:t = n
    · subst c;rw [e2];exact h.rest _ (by omega) (by omega)
    · rw [e3 _ (by omega) (by omega)];exact h.right t (by omega)
  · rw [e3 _ (by omega) (by omega)];exact h.rest x (by omega) (by omega)
structure Rin (F c:Nat -> α) (L i j:Nat):Prop where
  left:∀ t,t < j -> F (L + t) = c (L + i + t)
  right:∀ t,t < i -> F (L + j + t) = c (L + t)
  rest:∀ x,(x < L ∨ L + i + j <= x) -> F x = c x
theorem Rin.more {F c c':Nat -> α} {L i j:Nat} (h:Rin F c L i j) (hij:j < i) (hs:Swr c c' L (L + i) j):Rin F c' (L + j) (i - j) j:=by
  refine ⟨fun t ht => ?_,fun t ht => ?_,fun x hx => ?_⟩
  · rw [show L + j + (i - j) + t = L + i + t from by omega,hs.right t ht];exact h.right t (by omega)
  · rw [hs.rest (L + j + t) (by omega) (by omega)]
    have:=h.right (j + t) (by omega)
    rw [show L + j + (j + t) = L + j + j + t from by omega,show L + (j + t) = L + j + t from by omega] at this
    exact this
  · by_cases c1:x < L
    · rw [hs.rest x (by omega) (by omega)];exact h.rest x (Or.inl c1)
    · by_cases c2:x < L + j
      · have e:=h.left (x - L) (by omega)
        have e':=hs.left (x - L) (by omega)
        rw [show L + (x - L) = x from by omega] at e e'
        rw [e,e']
      · rw [hs.rest x (by omega) (by omega)];exact h.rest x (Or.inr (by omega))
theorem Rin.less {F c c':Nat -> α} {L i j:Nat} (h:Rin F c L i j) (hij:i < j) (hs:Swr c c' L (L + j) i):Rin F c' L i (j - i):=by
  refine ⟨fun t ht => ?_,fun t ht => ?_,fun x hx => ?_⟩
  · rw [hs.rest (L + i + t) (by omega) (by omega)];exact h.left t (by omega)
  · rw [hs.left t ht]
    have:=h.left (j - i + t) (by omega)
    rw [show L + (j - i + t) = L + (j - i) + t from by omega,show L + i + (j - i + t) = L + j + t from by omega] at this
    exact this
  · by_cases c1:x < L
    · rw [hs.rest x (by omega) (by omega)];exact h.rest x (Or.inl c1)
    · by_cases c2:x < L + j + i
      · have e:=h.right (x - (L + j)) (by omega)
        have e':=hs.right (x - (L + j)) (by omega)
        rw [show L + j + (x - (L + j)) = x from by omega] at e e'
        rw [e,e']
      · rw [hs.rest x (by omega) (by omega)];exact h.rest x (Or.inr (by omega))
theorem Rin.done {F c c':Nat -> α} {L i:Nat} (h:Rin F c L i i) (hs:Swr c c' L (L + i) i) (x:Nat):F x = c' x:=by
  by_cases c1:x < L
  · rw [hs.rest x (by omega) (by omega)];exact h.rest x (Or.inl c1)
  by_cases c2:x < L + i
  · have e:=h.left (x - L) (by omega)
    have e':=hs.left (x - L) (by omega)
    rw [show L + (x - L) = x from by omega] at e e'
    rw [e,e']
  by_cases c3:x < L + i + i
  · have e:=h.right (x - (L + i)) (by omega)
    have e':=hs.right (x - (L + i)) (by omega)
    rw [show L + i + (x - (L + i)) = x from by omega] at e e'
    rw [e,e']
  · rw [hs.rest x (by omega) (by omega)];exact h.rest x (Or.inr (by omega))
def rotF (d:Nat -> α) (s m e:Nat) (x:Nat):α:=if x < s ∨ e <= x then d x else if x < s + (e - m) then d (m + (x - s)) else d (x - (e - m))
theorem rotF_rin (d:Nat -> α) {s m e:Nat} (hsm:s <= m) (hme:m <= e):Rin (rotF d s m e) d s (m - s) (e - m):=by
  refine ⟨fun t ht => ?_,fun t ht => ?_,fun x hx => ?_⟩
  · unfold rotF;rw [if_neg (by omega),if_pos (by omega)];congr 1;omega
  · unfold rotF;rw [if_neg (by omega),if_neg (by omega)];congr 1;omega
  · unfold rotF;rw [if_pos (by omega)]
theorem rotF_rot (d:Nat -> α) {d':Nat -> α} {s m e:Nat} (hsm:s <= m) (hme:m <= e) (h:∀ x,rotF d s m e x = d' x):Rot d d' s m e:=by
  refine ⟨fun t ht => ?_,fun t ht => ?_,fun x hx => ?_⟩
  · rw [<- h];unfold rotF;rw [if_neg (by omega),if_pos (by omega)];congr 1;omega
  · rw [<- h];unfold rotF;rw [if_neg (by omega),if_neg (by omega)];congr 1;omega
  · rw [<- h];unfold rotF;rw [if_pos hx]
structure Ins (cf:α -> α -> Int) (c:Nat -> α) (a j i:Nat):Prop where
  rest:∀ x y,a <= x -> x <= y -> y <= i -> x ≠ j -> y ≠ j -> ¬ cf (c y) (c x) < 0
  above:∀ y,j < y -> y <= i -> ¬ cf (c y) (c j) < 0
theorem Ins.start {cf:α -> α -> Int} {c:Nat -> α} {a i:Nat} (h:Sor cf c a i):Ins cf c a i i:=
  ⟨fun x y h1 h2 h3 _ h5 => h x y h1 h2 (by omega),fun y h1 h2 => by omega⟩
theorem Ins.step {cf:α -> α -> Int} (P:Pre cf) {c c':Nat -> α} {a j i:Nat} (h:Ins cf c a (j + 1) i) (haj:a <= j) (hji:j + 1 <= i) (hl:cf (c (j + 1)) (c j) < 0) (e1:c' j = c (j + 1)) (e2:c' (j + 1) = c j) (e3:∀ x,x ≠ j -> x ≠ j + 1 -> c' x = c x):Ins cf c' a j i:=by
  refine ⟨fun x y h1 h2 h3 h4 h5 => ?_,fun y h1 h2 => ?_⟩
  · by_cases cx:x = j + 1
    · subst cx
      by_cases cy:y = j + 1
      · subst cy;exact P.refl _
      · rw [e2,e3 y h5 cy];exact h.rest j y haj (by omega) h3 (by omega) cy
    · by_cases cy:y = j + 1
      · subst cy;rw [e2,e3 x h4 cx];exact h.rest x j h1 (by omega) (by omega) cx (by omega)
      · rw [e3 x h4 cx,e3 y h5 cy];exact h.rest x y h1 h2 h3 cx cy
  · by_cases cy:y = j + 1
    · subst cy;rw [e1,e2];exact P.asym _ _ hl
    · rw [e1,e3 y (by omega) cy];exact h.above y (by omega) h2
theorem Ins.stop {cf:α -> α -> Int} (P:Pre cf) {c:Nat -> α} {a j i:Nat} (h:Ins cf c a j i) (haj:a <= j) (hji:j <= i) (hl:j <= a ∨ ¬ cf (c j) (c (j - 1)) < 0):Sor cf c a (i + 1):=by
  intro x y h1 h2 h3
  by_cases cx:x = j
  · subst cx
    by_cases cy:y = x
    · subst cy;exact P.refl _
    · exact h.above y (by omega) (by omega)
  · by_cases cy:y = j
    · subst cy
      rcases hl with hl | hl
      · omega
      · by_cases cz:x = y - 1
        · subst cz;exact hl
        · exact P.trans _ _ _ (h.rest x (y - 1) h1 (by omega) (by omega) cx (by omega)) hl
    · exact h.rest x y h1 h2 (by omega) cx cy
theorem Sor.one {cf:α -> α -> Int} (P:Pre cf) (c:Nat -> α) (a b:Nat) (h:b <= a + 1):Sor cf c a b:=by
  intro x y h1 h2 h3
  obtain rfl:x = y:=by omega
  exact P.refl _
theorem Wi.swap {d c c':Nat -> α} {a b i j:Nat} (h:Wi d c a b) (hi:a <= i ∧ i < b) (hj:a <= j ∧ j < b) (e1:c' i = c j) (e2:c' j = c i) (e3:∀ x,x ≠ i -> x ≠ j -> c' x = c x):Wi d c' a b:=by
  refine h.trans ⟨fun x h1 h2 => ?_,fun x hx => e3 x (by omega) (by omega)⟩
  by_cases cx:x = i
  · subst cx;exact ⟨j,hj.1,hj.2,e1⟩
  by_cases cy:x = j
  · subst cy;exact ⟨i,hi.1,hi.2,e2⟩
  exact ⟨x,h1,h2,e3 x cx cy⟩
theorem Rot.stepR {d c c':Nat -> α} {a k:Nat} (h:Rot d c a (a + 1) (k + 1)) (hk:a <= k) (e1:c' k = c (k + 1)) (e2:c' (k + 1) = c k) (e3:∀ x,x ≠ k -> x ≠ k + 1 -> c' x = c x):Rot d c' a (a + 1) (k + 1 + 1):=by
  have hck:c k = d a:=by
    have:=h.right 0 (by omega)
    rw [show a + (k + 1 - (a + 1)) + 0 = k from by omega,Nat.add_zero] at this
    exact this
  refine ⟨fun t ht => ?_,fun t ht => ?_,fun x hx => ?_⟩
  · by_cases c1:a + t = k
    · rw [c1,e1,h.rest (k + 1) (by omega)];congr 1;omega
    · rw [e3 _ c1 (by omega)];exact h.left t (by omega)
  · obtain rfl:t = 0:=by omega
    rw [show a + (k + 1 + 1 - (a + 1)) + 0 = k + 1 from by omega,e2,hck,Nat.add_zero]
  · rw [e3 x (by omega) (by omega)];exact h.rest x (by omega)
theorem Rot.stepL {d c c':Nat -> α} {k m:Nat} (h:Rot d c (k + 1) m (m + 1)) (hk:k + 1 <= m) (e1:c' (k + 1) = c k) (e2:c' k = c (k + 1)) (e3:∀ x,x ≠ k + 1 -> x ≠ k -> c' x = c x):Rot d c' k m (m + 1):=by
  have hck:c (k + 1) = d m:=by
    have:=h.left 0 (by omega)
    rwa [Nat.add_zero,Nat.add_zero] at this
  refine ⟨fun t ht => ?_,fun t ht => ?_,fun x hx => ?_⟩
  · obtain rfl:t = 0:=by omega
    rw [Nat.add_zero,e2,hck,Nat.add_zero]
  · by_cases c1:t = 0
    · subst c1
      rw [show k + (m + 1 - m) + 0 = k + 1 from by omega,e1,Nat.add_zero];exact h.rest k (by omega)
    · rw [e3 _ (by omega) (by omega)]
      have:=h.right (t - 1) (by omega)
      rw [show k + 1 + (m + 1 - m) + (t - 1) = k + (m + 1 - m) + t from by omega,show k + 1 + (t - 1) = k + t from by omega] at this
      exact this
  · rw [e3 x (by omega) (by omega)];exact h.rest x (by omega)
theorem mrg_left {cf:α -> α -> Int} (P:Pre cf) {d d':Nat -> α} {a m b i:Nat} (h2:Sor cf d m b) (hm:m = a + 1) (hmi:m <= i) (hib:i <= b) (lo:i = m ∨ cf (d (i - 1)) (d a) < 0) (hi:i = b ∨ ¬ cf (d i) (d a) < 0) (hr:Rot d d' a (a + 1) i):Sor cf d' a b:=by
  subst hm
  obtain ⟨_,p2,p3,p4,p5⟩:=rot_sor P (Sor.one P d a (a + 1) (Nat.le_refl _)) h2 hr (Nat.le_refl _) (by omega) hmi hib rfl (Or.inl (Nat.le_refl _)) (by rcases lo with h | h;exact Or.inr (Or.inl h.symm);exact Or.inr (Or.inr h))
  refine Und.sor p5 p2 (Sor.join P p3 p4 ?_)
  by_cases c:b <= i
  · exact Or.inr (Or.inl c)
  · refine Or.inr (Or.inr ?_)
    rw [hr.rest i (by omega),hr.rightX (by omega) (i - 1) (by omega) (by omega) hmi,show i - 1 - (i - (a + 1)) = a from by omega]
    exact hi.resolve_left (by omega)
theorem mrg_right {cf:α -> α -> Int} (P:Pre cf) {d d':Nat -> α} {a m b i:Nat} (h1:Sor cf d a m) (hb:b = m + 1) (hai:a <= i) (him:i <= m) (lo:i = a ∨ ¬ cf (d m) (d (i - 1)) < 0) (hi:i = m ∨ cf (d m) (d i) < 0) (hr:Rot d d' i m (m + 1)):Sor cf d' a b:=by
  subst hb
  obtain ⟨p1,p2,p3,p4,p5⟩:=rot_sor P h1 (Sor.one P d m (m + 1) (Nat.le_refl _)) hr hai him (by omega) (Nat.le_refl _) rfl (Or.inr (Or.inl (Nat.le_refl _))) (by rcases hi with h | h;exact Or.inl h;exact Or.inr (Or.inr h))
  refine Und.sor p5 (Sor.join P p1 p2 ?_) (Sor.join P p3 p4 (Or.inr (Or.inl (Nat.le_refl _))))
  by_cases c:i <= a
  · exact Or.inl c
  · refine Or.inr (Or.inr ?_)
    rw [hr.rest (i - 1) (by omega),hr.leftX i (Nat.le_refl _) (by omega),show m + (i - i) = m from by omega]
    exact lo.resolve_left (by omega)
theorem mrg_all {cf:α -> α -> Int} {d d1 d2 d3:Nat -> α} {a s m e b mid:Nat} (hr:Rot d d1 s m e) (has:a <= s) (hsm:s <= m) (hme:m <= e) (heb:e <= b) (h5:Und cf d1 a mid b) (q1:Sor cf d2 a mid) (w1:Wi d1 d2 a mid) (q2:Sor cf d3 mid b) (w2:Wi d2 d3 mid b) (ham:a <= mid) (hmb:mid <= b):Sor cf d3 a b ∧ Wi d d3 a b:=
  ⟨Und.sor ((h5.wi w1).wi' w2) (q1.out w2 (Or.inl (Nat.le_refl _))) q2,((hr.wi hsm hme).wide has heb).trans ((w1.wide (Nat.le_refl _) hmb).trans (w2.wide ham (Nat.le_refl _)))⟩
def Blks (cf:α -> α -> Int) (c:Nat -> α) (B N:Nat):Prop:=∀ t x y,t * B <= x -> x <= y -> y < t * B + B -> y < N -> ¬ cf (c y) (c x) < 0
theorem Blks.all {cf:α -> α -> Int} {c:Nat -> α} {B N:Nat} (h:Blks cf c B N) (hB:N <= B):Sor cf c 0 N:=fun x y _ h2 h3 => h 0 x y (by omega) h2 (by omega) h3
structure Mid (cf:α -> α -> Int) (c:Nat -> α) (B N q:Nat):Prop where
  done:∀ t,t < q -> Sor cf c (t * (2 * B)) (t * (2 * B) + 2 * B)
  rest:∀ t x y,q * 2 <= t -> t * B <= x -> x <= y -> y < t * B + B -> y < N -> ¬ cf (c y) (c x) < 0
theorem Mid.start {cf:α -> α -> Int} {c:Nat -> α} {B N:Nat} (h:Blks cf c B N):Mid cf c B N 0:=⟨fun t ht => by omega,fun t x y _ => h t x y⟩
theorem two_mul_B (q B:Nat):q * 2 * B = q * (2 * B) ∧ (q * 2 + 1) * B = q * (2 * B) + B:=by
  have h1:q * 2 * B = q * (2 * B):=Nat.mul_assoc q 2 B
  exact ⟨h1,by rw [Nat.add_mul,Nat.one_mul,h1]⟩
theorem Mid.pre {cf:α -> α -> Int} {c:Nat -> α} {B N q:Nat} (h:Mid cf c B N q) (a b:Nat) (ha:a = q * (2 * B)) (hb:b <= N) (hb2:b <= a + 2 * B):Sor cf c a (min (a + B) b) ∧ Sor cf c (a + B) b:=by
  obtain ⟨h1,h2⟩:=two_mul_B q B
  subst ha
  refine ⟨fun x y hx hxy hy => ?_,fun x y hx hxy hy => ?_⟩
  · exact h.rest (q * 2) x y (Nat.le_refl _) (by omega) hxy (by omega) (by omega)
  · exact h.rest (q * 2 + 1) x y (by omega) (by omega) hxy (by omega) (by omega)
theorem mul_le_q {t q B:Nat} (h:t < q):t * (2 * B) + 2 * B <= q * (2 * B):=by
  have:=Nat.mul_le_mul_right (2 * B) (show t + 1 <= q from h)
  rwa [Nat.add_mul,Nat.one_mul] at this
theorem Mid.step {cf:α -> α -> Int} {c c':Nat -> α} {B N q:Nat} (h:Mid cf c B N q) (a b:Nat) (ha:a = q * (2 * B)) (hb:b = a + 2 * B) (hs:Sor cf c' a b) (hw:Wi c c' a b):Mid cf c' B N (q + 1):=by
  subst ha
  subst hb
  refine ⟨fun t ht => ?_,fun t x y ht hx hxy hy hN => ?_⟩
  · by_cases e:t = q
    · subst e;exact hs
    · have:=mul_le_q (B:=B) (show t < q from by omega)
      exact (h.done t (by omega)).out hw (Or.inl this)
  · have h2:=Nat.mul_le_mul_right B ht
    have h3:=(two_mul_B (q + 1) B).1
    rw [Nat.add_mul q 1 (2 * B),Nat.one_mul] at h3
    rw [hw.out x (by omega),hw.out y (by omega)]
    exact h.rest t x y (by omega) hx hxy hy hN
theorem Mid.fin {cf:α -> α -> Int} {c c':Nat -> α} {B N q:Nat} (h:Mid cf c B N q) (a:Nat) (ha:a = q * (2 * B)) (hb:N < a + 2 * B) (hs:Sor cf c' a N) (hw:Wi c c' a N):Blks cf c' (B * 2) N:=by
  subst ha
  rw [Nat.mul_comm B 2]
  intro t x y hx hxy hy hN
  rcases Nat.lt_trichotomy t q with e | e | e
  · have:=mul_le_q (B:=B) e
    exact (h.done t e).out hw (Or.inl this) x y hx hxy hy
  · subst e;exact hs x y hx hxy hN
  · have:=mul_le_q (B:=B) e
    omega
theorem blks_step {cf:α -> α -> Int} {c c':Nat -> α} {B q:Nat} (h:∀ t,t < q -> Sor cf c (t * B) (t * B + B)) (a b:Nat) (ha:a = q * B) (hs:Sor cf c' a b) (hb:b = a + B) (hw:Wi c c' a b):∀ t,t < q + 1 -> Sor cf c' (t * B) (t * B + B):=by
  subst ha
  subst hb
  intro t ht
  by_cases e:t = q
  · subst e;exact hs
  · have:=Nat.mul_le_mul_right B (show t + 1 <= q from by omega)
    rw [Nat.add_mul,Nat.one_mul] at this
    exact (h t (by omega)).out hw (Or.inl this)
theorem blks_fin {cf:α -> α -> Int} {c c':Nat -> α} {B N q:Nat} (h:∀ t,t < q -> Sor cf c (t * B) (t * B + B)) (a:Nat) (ha:a = q * B) (hN:N < a + B) (hs:Sor cf c' a N) (hw:Wi c c' a N):Blks cf c' B N:=by
  subst ha
  intro t x y hx hxy hy hyN
  rcases Nat.lt_trichotomy t q with e | e | e
  · have:=Nat.mul_le_mul_right B (show t + 1 <= q from e)
    rw [Nat.add_mul,Nat.one_mul] at this
    exact (h t e).out hw (Or.inl this) x y hx hxy hy
  · subst e;exact hs x y hx hxy hyN
  · have:=Nat.mul_le_mul_right B (show q + 1 <= t from e)
    rw [Nat.add_mul,Nat.one_mul] at this
    omega
end
end Go.Proofs.YtjmpjfikcgccdaaGreatDoor.Sy
namespace Go.Proofs.YtjmpjfikcgccdaaGreatDoor.Ce
open Go.RowKit
open It Nr
def lexI:List Int -> List Int -> Int
  | [],[] => 0
  | [],_ :: _ => -1
  | _ :: _,[] => 1
  | x :: xs,y :: ys => if Lib.compareInt x y = 0 then lexI xs ys else Lib.compareInt x y
theorem cI_neg (x y:Int):Lib.compareInt y x = - Lib.compareInt x y:=by
  unfold Lib.compareInt
  split <;> split <;> (try split) <;> omega
theorem cI_zero {x y:Int} (h:Lib.compareInt x y = 0):x = y:=by
  unfold Lib.compareInt at h
  split at h
  · omega
  · split at h
    · omega
    · omega
theorem cI_lt {x y:Int}:Lib.compareInt x y < 0 ↔ x < y:=by
  unfold Lib.compareInt
  split
  · omega
  · split <;> omega
theorem lex_neg:∀ a b:List Int,lexI b a = - lexI a b
  | [],[] => rfl
  | [],_ :: _ => rfl
  | _ :: _,[] => rfl
  | x :: xs,y :: ys => by
    have ih:=lex_neg xs ys
    have h:=cI_neg x y
    unfold lexI
    by_cases c:Lib.compareInt x y = 0
    · rw [if_pos c,if_pos (by omega)];exact ih
    · rw [if_neg c,if_neg (by omega)];exact h
theorem lex_zero:∀ a b:List Int,lexI a b = 0 -> a = b
  | [],[],_ => rfl
  | [],_ :: _,h => by cases h
  | _ :: _,[],h => by cases h
  | x :: xs,y :: ys,h => by
    unfold lexI at h
    by_cases c:Lib.compareInt x y = 0
    · rw [if_pos c] at h;rw [cI_zero c,lex_zero xs ys h]
    · rw [if_neg c] at h;exact absurd h c
theorem lex_trans:∀ a b c:List Int,lexI a b < 0 -> lexI b c < 0 -> lexI a c < 0
  | [],[],_,h,_ => by simp [lexI] at h
  | [],_ :: _,[],_,h => by simp [lexI] at h
  | [],_ :: _,_ :: _,_,_ => by simp [lexI]
  | _ :: _,[],_,h,_ => by simp [lexI] at h
  | _ :: _,_ :: _,[],_,h => by simp [lexI] at h
  | x :: xs,y :: ys,z :: us,h1,h2 => by
    have ih:=lex_trans xs ys us
    unfold lexI at h1 h2 ⊢
    by_cases c1:Lib.compareInt x y = 0
    · have e1:=cI_zero c1
      subst e1
      rw [if_pos c1] at h1
      by_cases c2:Lib.compareInt x z = 0
      · rw [if_pos c2] at h2 ⊢;exact ih h1 h2
      · rw [if_neg c2] at h2 ⊢;exact h2
    · rw [if_neg c1] at h1
      have l1:=cI_lt.1 h1
      by_cases c2:Lib.compareInt y z = 0
      · have e2:=cI_zero c2
        subst e2
        rw [if_neg c1];exact h1
      · rw [if_neg c2] at h2
        have l2:=cI_lt.1 h2
        have l3:Lib.compareInt x z < 0:=cI_lt.2 (by omega)
        rw [if_neg (by omega)];exact l3
structure CeD where
  co:List Int
  ca:Option Addr
  cc:Nat
  it:List ItD
  ia:Option Addr
  ic:Nat
instance : Inhabited CeD:=⟨⟨[],none,0,[],none,0⟩⟩
def CeD.e0 (x:CeD):Value:=.slice x.ca x.co.length x.cc
def CeD.e1 (x:CeD):Value:=.slice x.ia x.it.length x.ic
def encC (x:CeD):List Value:=[x.e0,x.e1]
theorem encC_len (x:CeD):(encC x).length = 2:=rfl
theorem encC_one (x:CeD):∀ v ∈ encC x,v.oneCell' = true:=by
  intro v hv
  simp [encC,CeD.e0,CeD.e1] at hv
  rcases hv with rfl | rfl <;> rfl
def cfC (x y:CeD):Int:=lexI x.co y.co
theorem preC:Sy.Pre cfC:=by
  refine ⟨fun x y h h' => ?_,fun x y z h1 h2 h3 => ?_⟩
  · have:=lex_neg x.co y.co;unfold cfC at h h';omega
  · unfold cfC at h1 h2 h3
    have n1:=lex_neg x.co y.co
    have n2:=lex_neg y.co z.co
    have n3:=lex_neg x.co z.co
    by_cases z1:lexI x.co y.co = 0
    · rw [lex_zero _ _ z1] at h3;exact h2 h3
    · by_cases z2:lexI y.co z.co = 0
      · rw [<- lex_zero _ _ z2] at h3;exact h1 h3
      · have:=lex_trans x.co y.co z.co (by omega) (by omega);omega
structure ReD where
  c:CeD
  least:Int
instance : Inhabited ReD:=⟨⟨default,0⟩⟩
def encR (x:ReD):List Value:=[x.c.e0,x.c.e1,.int .i64 x.least]
theorem encR_len (x:ReD):(encR x).length = 3:=rfl
theorem encR_one (x:ReD):∀ v ∈ encR x,v.oneCell' = true:=by
  intro v hv
  simp [encR,CeD.e0,CeD.e1] at hv
  rcases hv with rfl | rfl | rfl <;> rfl
def cfR (x y:ReD):Int:=Lib.compareInt x.least y.least
theorem preR:Sy.Pre cfR:=by
  refine ⟨fun x y h h' => ?_,fun x y z h1 h2 h3 => ?_⟩
  · unfold cfR at h h';rw [cI_lt] at h h';omega
  · unfold cfR at h1 h2 h3;rw [cI_lt] at h1 h2 h3;omega
theorem cfR_le {x y:ReD} (h:¬ cfR y x < 0):x.least <= y.least:=by unfold cfR at h;rw [cI_lt] at h;omega
set_option maxHeartbeats 1000000 in
theorem lex_any (a b:Option Addr) (c d:Nat) (zs ys:List Int) (w:World) (hz:Ints w a zs) (hy:Ints w b ys) (hzl:zs.length <= 100) (hyl:ys.length <= 100) :
    Calls Tryz.prog 178 #[.slice a zs.length c,.slice b ys.length d] w fun e w' => e = .returned (.int .i64 (lexI zs ys)) ∧ w' = w:=by
  go_enter Tryz.func178,Tryz.ntmps178
  go_wp2_with fail
  go_loop [5,6,7,8,11] (fun _ _ _ _ i => ∃ k:Nat,k <= zs.length ∧ k <= ys.length ∧ i = .int .i64 k ∧ Hid (lexI (zs.drop k) (ys.drop k) = lexI zs ys)) (fun _ _ _ _ i => zs.length - (intOf i).toNat)
  case atStart => exact ⟨0,by omega,by omega,rfl,rfl⟩
  case round =>
    obtain ⟨k,hk,hk2,rfl,HX⟩:=hrel
    by_cases hlt:k < zs.length
    · have hlt':(k:Int) < (zs.length:Int):=by omega
      have hzk:zs[k]? = some zs[k]:=List.getElem?_eq_getElem hlt
      have HD:Hid (zs.drop k = zs[k] :: zs.drop (k + 1)):=List.drop_eq_getElem_cons hlt
      obtain ⟨g,o,rfl,q1⟩:=hz k _ hzk
      by_cases hlt2:k < ys.length
      · have hlt2':(k:Int) < (ys.length:Int):=by omega
        have hyk:ys[k]? = some ys[k]:=List.getElem?_eq_getElem hlt2
        have HD2:Hid (ys.drop k = ys[k] :: ys.drop (k + 1)):=List.drop_eq_getElem_cons hlt2
        obtain ⟨g',o',rfl,q2⟩:=hy k _ hyk
        generalize zs[k] = x at *
        generalize ys[k] = y at *
        have HL:Hid (lexI zs ys = if Lib.compareInt x y = 0 then lexI (zs.drop (k + 1)) (ys.drop (k + 1)) else Lib.compareInt x y):=by
          unfold Hid;rw [<- HX.out,HD.out,HD2.out];rfl
        obtain ⟨cv,hcv⟩:∃ cv,Lib.compareInt x y = cv:=⟨_,rfl⟩
        have HC:Hid _:=cmpInt_any x y w
        rw [hcv] at HL HC
        clear hcv hzk hyk
        by_cases h0:cv = 0
        · have HL2:Hid (lexI zs ys = lexI (zs.drop (k + 1)) (ys.drop (k + 1))):=by have:=HL.out;rw [if_pos h0] at this;exact this
          subst h0
          go_wp2_with (go_at_call 154;refine Calls.mono HC.out ?_;rintro e w' ⟨rfl,rfl⟩)
          go_round
          case rel => exact ⟨k + 1,by omega,by omega,by go_num,HL2.out.symm⟩
          case measure => simp [intOf];omega
        · have HL2:Hid (lexI zs ys = cv):=by have:=HL.out;rw [if_neg h0] at this;exact this
          go_wp2_with (go_at_call 154;refine Calls.mono HC.out ?_;rintro e w' ⟨rfl,rfl⟩)
          go_ret
          exact ⟨by rw [HL2.out];rfl,rfl⟩
      · have hlt2':¬ (k:Int) < (ys.length:Int):=by omega
        have HL2:Hid (lexI zs ys = 1):=by
          unfold Hid;rw [<- HX.out,HD.out,List.drop_of_length_le (show ys.length <= k by omega)];rfl
        go_wp2_with fail
        go_ret
        exact ⟨by rw [HL2.out];rfl,rfl⟩
    · have hlt':¬ (k:Int) < (zs.length:Int):=by omega
      have e1:zs.drop k = []:=List.drop_of_length_le (by omega)
      by_cases hlt2:zs.length < ys.length
      · have hlt2':(zs.length:Int) < (ys.length:Int):=by omega
        have HL2:Hid (lexI zs ys = -1):=by
          unfold Hid;rw [<- HX.out,e1,List.drop_eq_getElem_cons (show k < ys.length by omega)];rfl
        clear e1
        go_wp2_with fail
        go_ret
        exact ⟨by rw [HL2.out];rfl,rfl⟩
      · have hlt2':¬ (zs.length:Int) < (ys.length:Int):=by omega
        have HL2:Hid (lexI zs ys = 0):=by
          unfold Hid;rw [<- HX.out,e1,List.drop_of_length_le (show ys.length <= k by omega)];rfl
        clear e1
        go_wp2_with fail
        go_ret
        exact ⟨by rw [HL2.out];rfl,rfl⟩
theorem new1_any (x y:CeD) (w:World) (hx:Ints w x.ca x.co) (hy:Ints w y.ca y.co) (hxl:x.co.length <= 100) (hyl:y.co.length <= 100) :
    Calls Tryz.prog 177 #[.agg (encC x).toArray,.agg (encC y).toArray] w fun e w' => e = .returned (.int .i64 (cfC x y)) ∧ Below w.heap.size w w':=by
  obtain ⟨co,ca,cc,it,ia,ic⟩:=x
  obtain ⟨co2,ca2,cc2,it2,ia2,ic2⟩:=y
  simp only at hx hy hxl hyl
  show Calls Tryz.prog _ #[.agg #[.slice ca co.length cc,.slice ia it.length ic],.agg #[.slice ca2 co2.length cc2,.slice ia2 it2.length ic2]] w _
  have b2:=(below_alloc w (.cells #[.slice ca co.length cc,.slice ia it.length ic] 242)).trans ((below_alloc (w.alloc (.cells #[.slice ca co.length cc,.slice ia it.length ic] 242)) (.cells #[.slice ca2 co2.length cc2,.slice ia2 it2.length ic2] 242)).mono (by simp))
  have HL:Hid _:=lex_any ca ca2 cc cc2 co co2 _ (hx.below b2) (hy.below b2) hxl hyl
  go_enter Tryz.func177,Tryz.ntmps177
  go_wp2_with fail
  refine Calls.mono HL.out ?_
  rintro e w3 ⟨rfl,rfl⟩
  go_wp2_with fail
  go_ret
  exact ⟨rfl,b2⟩
theorem find1_any (x y:ReD) (w:World) :
    Calls Tryz.prog 220 #[.agg (encR x).toArray,.agg (encR y).toArray] w fun e w' => e = .returned (.int .i64 (cfR x y)) ∧ Below w.heap.size w w':=by
  obtain ⟨⟨co,ca,cc,it,ia,ic⟩,l1⟩:=x
  obtain ⟨⟨co2,ca2,cc2,it2,ia2,ic2⟩,l2⟩:=y
  show Calls Tryz.prog _ #[.agg #[.slice ca co.length cc,.slice ia it.length ic,.int .i64 l1],.agg #[.slice ca2 co2.length cc2,.slice ia2 it2.length ic2,.int .i64 l2]] w _
  have b2:=(below_alloc w (.cells #[.slice ca co.length cc,.slice ia it.length ic,.int .i64 l1] 309)).trans ((below_alloc (w.alloc (.cells #[.slice ca co.length cc,.slice ia it.length ic,.int .i64 l1] 309)) (.cells #[.slice ca2 co2.length cc2,.slice ia2 it2.length ic2,.int .i64 l2] 309)).mono (by simp))
  have HL:Hid _:=cmpInt_any l1 l2 ((w.alloc (.cells #[.slice ca co.length cc,.slice ia it.length ic,.int .i64 l1] 309)).alloc (.cells #[.slice ca2 co2.length cc2,.slice ia2 it2.length ic2,.int .i64 l2] 309))
  go_enter Tryz.func220,Tryz.ntmps220
  go_wp2_with fail
  refine Calls.mono HL.out ?_
  rintro e w3 ⟨rfl,rfl⟩
  go_wp2_with fail
  go_ret
  exact ⟨rfl,b2⟩
end Go.Proofs.YtjmpjfikcgccdaaGreatDoor.Ce
namespace Go.Proofs.YtjmpjfikcgccdaaGreatDoor.Nr
open Go.RowKit
open It
def midB (n:Int):Bool:=decide (-900 <= n) && decide (n <= 900)
def insB (zs:List Int):Bool:=decide ((zs.length:Int) = 2) && zs.all midB
theorem foldset_get (vs:List Value):∀ (c:Array Value) (i j:Nat),i + vs.length <= c.size -> (foldset c i vs)[j]? = if i <= j ∧ j < i + vs.length then vs[j - i]? else c[j]?:=by
  induction vs with
  | nil => intro c i j _;simp [foldset];intro h1 h2;omega
  | cons v vs ih =>
    intro c i j h
    simp only [List.length_cons] at h
    simp only [foldset]
    rw [ih _ _ _ (by simp;omega),Array.getElem?_setIfInBounds]
    by_cases e:j = i
    · subst e
      rw [if_neg (by omega),if_pos rfl,if_pos (by omega),if_pos (by simp)]
      simp
    · by_cases e2:i <= j ∧ j < i + (vs.length + 1)
      · rw [if_pos (by omega),if_pos (by simpa using e2)]
        obtain ⟨d,hd⟩:∃ d,j - i = d + 1:=⟨j - i - 1,by omega⟩
        rw [hd,List.getElem?_cons_succ];congr 1;omega
      · rw [if_neg (by omega),if_neg (Ne.symm e),if_neg (by simpa using e2)]
theorem foldset_size (vs:List Value):∀ (c:Array Value) (i:Nat),(foldset c i vs).size = c.size:=by
  induction vs with
  | nil => intro c i;rfl
  | cons v vs ih => intro c i;simp only [foldset];rw [ih];simp
structure UpdG (w w':World) (g:Nat):Prop where
  os:w'.os = w.os
  tape:w'.tape = w.tape
  output:w'.output = w.output
  size:w.heap.size <= w'.heap.size
  block:∀ k,k < w.heap.size -> k ≠ g -> w'.heap[k]? = w.heap[k]?
theorem UpdG.refl (w:World) (g:Nat):UpdG w w g:=⟨rfl,rfl,rfl,Nat.le_refl _,fun _ _ _ => rfl⟩
theorem UpdG.drewN {w w':World} {g:Nat} (h:UpdG w w' g) (n:Nat):UpdG w (w'.drewN n) g:=⟨h.os,h.tape,h.output,h.size,h.block⟩
theorem UpdG.upd {w w' w'':World} {g:Nat} (h:UpdG w w' g) (u:Upd w' w'' g):UpdG w w'' g:=
  ⟨u.os.trans h.os,u.tape.trans h.tape,u.output.trans h.output,by rw [u.size];exact h.size,fun k hk hne => (u.block k hne).trans (h.block k hk hne)⟩
theorem UpdG.trans {w w' w'':World} {g:Nat} (h:UpdG w w' g) (u:UpdG w' w'' g):UpdG w w'' g:=
  ⟨u.os.trans h.os,u.tape.trans h.tape,u.output.trans h.output,Nat.le_trans h.size u.size,fun k hk hne => (u.block k (Nat.lt_of_lt_of_le hk h.size) hne).trans (h.block k hk hne)⟩
theorem UpdG.alloc {w w':World} {g:Nat} (h:UpdG w w' g) (o:Obj):UpdG w (w'.alloc o) g:=
  ⟨h.os,h.tape,h.output,by simp;exact Nat.le_succ_of_le h.size,fun k hk hne => by rw [Below.heap_alloc _ _ _ (Nat.lt_of_lt_of_le hk h.size)];exact h.block k hk hne⟩
theorem UpdG.updN {w w' w'':World} {g c:Nat} (h:UpdG w w' g) (u:Upd w' w'' c) (hc:w.heap.size <= c):UpdG w w'' g:=
  ⟨u.os.trans h.os,u.tape.trans h.tape,u.output.trans h.output,by rw [u.size];exact h.size,fun k hk hne => (u.block k (by omega)).trans (h.block k hk hne)⟩
theorem UpdG.below {w0 w w':World} {g B:Nat} (h:UpdG w w' g) (hb:Below B w0 w) (hB:B <= w.heap.size) (hg:B <= g):Below B w0 w':=
  hb.trans ⟨h.os,h.tape,h.output,h.size,fun k hk => h.block k (Nat.lt_of_lt_of_le hk hB) (by omega)⟩
theorem Blk.updG {w w':World} {b g:Nat} {arr:Array Value} {T:TypeId} (h:Blk w b arr T) (hu:UpdG w w' g) (hne:b ≠ g):Blk w' b arr T:=by
  have:=h.lt
  unfold Blk at *;rw [hu.block b this hne];exact h
theorem storeCells_at (P:Program) (w:World) (b off:Nat) (hl:b < w.heap.size) (T:TypeId):∀ (vs:List Value) (i:Nat) (c:Array Value),off + i + vs.length <= c.size -> (∀ v ∈ vs,v.oneCell' = true) ->
    (storeCells ⟨b,off,none⟩ vs i).run P (putBlk w b (.cells c T)) = .ok () (putBlk w b (.cells (foldset c (off + i) vs) T)):=by
  intro vs
  induction vs with
  | nil => intro i c _ _;rfl
  | cons v vs ih =>
    intro i c h hv
    simp only [List.length_cons] at h
    have hb:Blk (putBlk w b (.cells c T)) b c T:=by unfold Blk putBlk;simp [hl]
    simp only [storeCells,Sem.run_bind,addr_addO]
    rw [run_store _ _ _ _ _ (hv v (by simp)),hb.cell,Array.getElem?_eq_getElem (by omega)]
    simp only [hb.frozen,Bool.false_eq_true,if_false,Result.andThen_ok]
    rw [putBlk_setCell hl,ih _ _ (by simp;omega) (fun x hx => hv x (by simp [hx]))]
    rfl
section
variable {P:Program} {ops:Array Oper} {Q:Exit -> Act -> World -> Prop} {a:Act} {w:World} {rest:List Oper} {o:Oper}
theorem wpl_storeAt (hgd:o.guard = none) (hdn:o.dst = none) (t:TypeId) (x y:Operand) (ho:o.op = .store t x y) (n:Nat) (hi0:(P.info? t).map (·.size) = some n)
    (b off:Nat) (arr:Array Value) (T:TypeId) (vs:Array Value) (hx:a.eval x = .pointer (some ⟨b,off,none⟩)) (hy:a.eval y = .agg vs) (hvs:vs.size = n) (h1:∀ v ∈ vs.toList,v.oneCell' = true) (hb:Blk w b arr T) (hn:off + n <= arr.size)
    (h:∀ w',Upd w w' b -> Blk w' b (foldset arr off vs.toList) T -> wpList P ops Q rest a w'):wpList P ops Q (o :: rest) a w:=by
  refine wpList_plain hgd fun K hK => ?_
  obtain ⟨i,hi,hsize⟩:=Option.map_eq_some_iff.1 hi0
  unfold Oper.wp execOp
  have hl:=storeCells_at P w b off hb.lt T vs.toList 0 arr (by simp [hvs];omega) h1
  rw [putBlk_self hb] at hl
  simp only [ho,hx,hy,Instr.storeAt,Instr.sureAddr,storeVar,sizeOf,typeInfo,hi,hsize,Sem.run_bind,Sem.run_pure,run_program,Result.andThen_ok,Value.cells,hvs,ne_eq,not_true,if_false,hl]
  simp only [Oper.upon_skip,hdn,Act.put]
  exact hK _ _ (h _ (putBlk_upd _ _ _) (putBlk_blk hb))
end
end Go.Proofs.YtjmpjfikcgccdaaGreatDoor.Nr
namespace Go.Proofs.YtjmpjfikcgccdaaGreatDoor.Nr
open Go.RowKit
open It
def inF (d:ItD):Bool:=insB d.x.nums
structure Kept (cur arr:Array Value) (ds:List ItD) (j:Nat):Prop where
  size:arr.size = cur.size
  front:arr.toList.take (((ds.take j).filter inF).length * 3) = flatI ((ds.take j).filter inF)
  rest:∀ t,j * 3 <= t -> arr[t]? = cur[t]?
theorem kept_len (ds:List ItD) (j:Nat):((ds.take j).filter inF).length <= j:=
  Nat.le_trans (List.length_filter_le _ _) (by rw [List.length_take];omega)
theorem filter_succ {ds:List ItD} {j:Nat} {d:ItD} (h:ds[j]? = some d):(ds.take (j + 1)).filter inF = (ds.take j).filter inF ++ (if inF d then [d] else []):=by
  rw [List.take_add_one,h,List.filter_append]
  cases hd:inF d <;> simp [hd]
theorem Kept.keep {cur arr:Array Value} {ds:List ItD} {j:Nat} {d:ItD} (h:Kept cur arr ds j) (hd:ds[j]? = some d) (hf:inF d = true) (hs:(j + 1) * 3 <= cur.size) :
    Kept cur (foldset arr (((ds.take j).filter inF).length * 3) [.string d.x.name,.string d.x.tag,d.val]) ds (j + 1):=by
  have hl:=kept_len ds j
  have hsz:=h.size
  refine ⟨by rw [foldset_size];exact h.size,?_,fun t ht => ?_⟩
  · rw [filter_succ hd,hf,if_pos rfl,flatI_snoc,List.length_append,List.length_singleton,<- h.front]
    generalize ((ds.take j).filter inF).length = i at hl ⊢
    obtain ⟨l,hL⟩:∃ l,arr.toList = l:=⟨_,rfl⟩
    have hll:l.length = cur.size:=by rw [<- hL,Array.length_toList];exact hsz
    have hget:∀ t,arr[t]? = l[t]?:=fun t => by rw [<- hL];exact Array.getElem?_toList.symm
    apply List.ext_getElem?
    intro t
    have e0:∀ t,(foldset arr (i * 3) [.string d.x.name,.string d.x.tag,d.val]).toList[t]? = if i * 3 <= t ∧ t < i * 3 + 3 then [Value.string d.x.name,.string d.x.tag,d.val][t - i * 3]? else l[t]?:=fun t => by
      rw [<- hget,Array.getElem?_toList]
      exact foldset_get _ _ _ _ (by simp;omega)
    rw [hL,List.getElem?_take,e0]
    by_cases h1:t < i * 3
    · rw [if_pos (by omega),if_neg (by omega),List.getElem?_append_left (by rw [List.length_take];omega),List.getElem?_take,if_pos h1]
    · rw [List.getElem?_append_right (by rw [List.length_take];omega),List.length_take,Nat.min_eq_left (by omega)]
      by_cases h2:t < (i + 1) * 3
      · rw [if_pos h2,if_pos (by omega)]
      · rw [if_neg h2,List.getElem?_eq_none (by simp;omega)]
  · rw [foldset_get _ _ _ _ (by simp;omega),if_neg (by simp only [List.length_cons,List.length_nil];omega)]
    exact h.rest t (by omega)
theorem Kept.all {cur:Array Value} {ds:List ItD} {j:Nat} (h:cur.toList.take (ds.length * 3) = flatI ds) (hj:j <= ds.length) (hk:∀ d ∈ ds.take j,inF d = true):Kept cur cur ds j:=by
  refine ⟨rfl,?_,fun _ _ => rfl⟩
  rw [List.filter_eq_self.2 hk,List.length_take,Nat.min_eq_left hj]
  have e:flatI (ds.take j) = (flatI ds).take (j * 3):=by
    have e2:flatI ds = flatI (ds.take j) ++ flatI (ds.drop j):=by unfold flatI;rw [<- List.flatMap_append,List.take_append_drop]
    rw [e2,List.take_append_of_le_length (by rw [flatI_len,List.length_take];omega)]
    exact (List.take_of_length_le (by rw [flatI_len,List.length_take];omega)).symm
  rw [e,<- h,List.take_take,Nat.min_eq_left (by omega)]
end Go.Proofs.YtjmpjfikcgccdaaGreatDoor.Nr
