/-
  Part of the proof: the block that RFC 8439 (2.3.2) tells, reckoned by the plain function.
-/
import Derived.Test.YtcfndjalfaajjaaS1
namespace Go.Proofs.Ytcfndjalfaajjaa
/-- A number, reckoned first. -/
def forceN {α : Type} (n : Nat) (k : Nat → α) : α := match n with | 0 => k 0 | m + 1 => k (m + 1)
theorem forceN_eq {α : Type} (n : Nat) (k : Nat → α) : forceN n k = k n := by cases n <;> rfl
def fB {α : Type} (x : BitVec 32) (k : BitVec 32 → α) : α := forceN x.toNat fun n => k (BitVec.ofNat 32 n)
theorem fB_eq {α : Type} (x : BitVec 32) (k : BitVec 32 → α) : fB x k = k x := by unfold fB; rw [forceN_eq]; simp
def qrF {α : Type} (a b c d : BitVec 32) (k : BitVec 32 → BitVec 32 → BitVec 32 → BitVec 32 → α) : α :=
  fB (a + b) fun a1 => fB ((d ^^^ a1).rotateLeft 16) fun d1 => fB (c + d1) fun c1 => fB ((b ^^^ c1).rotateLeft 12) fun b1 => fB (a1 + b1) fun a2 => fB ((d1 ^^^ a2).rotateLeft 8) fun d2 => fB (c1 + d2) fun c2 => fB ((b1 ^^^ c2).rotateLeft 7) fun b2 => k a2 b2 c2 d2
theorem qrF_eq {α : Type} (a b c d : BitVec 32) (k : BitVec 32 → BitVec 32 → BitVec 32 → BitVec 32 → α) : qrF a b c d k = k (qr a b c d).a (qr a b c d).b (qr a b c d).c (qr a b c d).d := by
  unfold qrF; simp only [fB_eq]; rfl
def dblF {α : Type} (x0 x1 x2 x3 x4 x5 x6 x7 x8 x9 x10 x11 x12 x13 x14 x15 : BitVec 32) (k : BitVec 32 → BitVec 32 → BitVec 32 → BitVec 32 → BitVec 32 → BitVec 32 → BitVec 32 → BitVec 32 → BitVec 32 → BitVec 32 → BitVec 32 → BitVec 32 → BitVec 32 → BitVec 32 → BitVec 32 → BitVec 32 → α) : α :=
  qrF x0 x4 x8 x12 fun x0 x4 x8 x12 => qrF x1 x5 x9 x13 fun x1 x5 x9 x13 => qrF x2 x6 x10 x14 fun x2 x6 x10 x14 => qrF x3 x7 x11 x15 fun x3 x7 x11 x15 => qrF x0 x5 x10 x15 fun x0 x5 x10 x15 => qrF x1 x6 x11 x12 fun x1 x6 x11 x12 => qrF x2 x7 x8 x13 fun x2 x7 x8 x13 => qrF x3 x4 x9 x14 fun x3 x4 x9 x14 => k x0 x1 x2 x3 x4 x5 x6 x7 x8 x9 x10 x11 x12 x13 x14 x15
theorem dblF_eq {α : Type} (f : Nat → BitVec 32) (k : BitVec 32 → BitVec 32 → BitVec 32 → BitVec 32 → BitVec 32 → BitVec 32 → BitVec 32 → BitVec 32 → BitVec 32 → BitVec 32 → BitVec 32 → BitVec 32 → BitVec 32 → BitVec 32 → BitVec 32 → BitVec 32 → α) : dblF (f 0) (f 1) (f 2) (f 3) (f 4) (f 5) (f 6) (f 7) (f 8) (f 9) (f 10) (f 11) (f 12) (f 13) (f 14) (f 15) k = k (dia (col f 4) 4 0) (dia (col f 4) 4 1) (dia (col f 4) 4 2) (dia (col f 4) 4 3) (dia (col f 4) 4 4) (dia (col f 4) 4 5) (dia (col f 4) 4 6) (dia (col f 4) 4 7) (dia (col f 4) 4 8) (dia (col f 4) 4 9) (dia (col f 4) 4 10) (dia (col f 4) 4 11) (dia (col f 4) 4 12) (dia (col f 4) 4 13) (dia (col f 4) 4 14) (dia (col f 4) 4 15) := by
  unfold dblF; simp only [qrF_eq]; rfl
def itF {α : Type} (x0 x1 x2 x3 x4 x5 x6 x7 x8 x9 x10 x11 x12 x13 x14 x15 : BitVec 32) : Nat → (BitVec 32 → BitVec 32 → BitVec 32 → BitVec 32 → BitVec 32 → BitVec 32 → BitVec 32 → BitVec 32 → BitVec 32 → BitVec 32 → BitVec 32 → BitVec 32 → BitVec 32 → BitVec 32 → BitVec 32 → BitVec 32 → α) → α
  | 0, k => k x0 x1 x2 x3 x4 x5 x6 x7 x8 x9 x10 x11 x12 x13 x14 x15
  | n + 1, k => itF x0 x1 x2 x3 x4 x5 x6 x7 x8 x9 x10 x11 x12 x13 x14 x15 n fun x0 x1 x2 x3 x4 x5 x6 x7 x8 x9 x10 x11 x12 x13 x14 x15 => dblF x0 x1 x2 x3 x4 x5 x6 x7 x8 x9 x10 x11 x12 x13 x14 x15 k
theorem itF_eq {α : Type} (f : Nat → BitVec 32) (n : Nat) : ∀ (k : BitVec 32 → BitVec 32 → BitVec 32 → BitVec 32 → BitVec 32 → BitVec 32 → BitVec 32 → BitVec 32 → BitVec 32 → BitVec 32 → BitVec 32 → BitVec 32 → BitVec 32 → BitVec 32 → BitVec 32 → BitVec 32 → α), itF (f 0) (f 1) (f 2) (f 3) (f 4) (f 5) (f 6) (f 7) (f 8) (f 9) (f 10) (f 11) (f 12) (f 13) (f 14) (f 15) n k = k (dbl f n 0) (dbl f n 1) (dbl f n 2) (dbl f n 3) (dbl f n 4) (dbl f n 5) (dbl f n 6) (dbl f n 7) (dbl f n 8) (dbl f n 9) (dbl f n 10) (dbl f n 11) (dbl f n 12) (dbl f n 13) (dbl f n 14) (dbl f n 15) := by
  induction n with
  | zero => intro k; rfl
  | succ n ih => intro k; rw [itF, ih, dblF_eq]; rfl
def rfcKey : ByteArray := sb 32 (fun i => UInt8.ofNat i)
def rfcNonce : ByteArray := ⟨#[0, 0, 0, 9, 0, 0, 0, 74, 0, 0, 0, 0]⟩
def rfcW : List Nat := [3840405776, 358169553, 534581072, 3295748259, 3354710471, 57196595, 2594841092, 1315755203, 1180992210, 162176775, 98026004, 2718075865, 3516666549, 3108902622, 3900952779, 1312575650]
theorem rfc_it : (let f := stW rfcKey (1#32) rfcNonce
    itF (f 0) (f 1) (f 2) (f 3) (f 4) (f 5) (f 6) (f 7) (f 8) (f 9) (f 10) (f 11) (f 12) (f 13) (f 14) (f 15) 10 fun x0 x1 x2 x3 x4 x5 x6 x7 x8 x9 x10 x11 x12 x13 x14 x15 => [(x0 + f 0).toNat, (x1 + f 1).toNat, (x2 + f 2).toNat, (x3 + f 3).toNat, (x4 + f 4).toNat, (x5 + f 5).toNat, (x6 + f 6).toNat, (x7 + f 7).toNat, (x8 + f 8).toNat, (x9 + f 9).toNat, (x10 + f 10).toNat, (x11 + f 11).toNat, (x12 + f 12).toNat, (x13 + f 13).toNat, (x14 + f 14).toNat, (x15 + f 15).toNat]) = rfcW := by
  decide +kernel
theorem rfc_words : [(dbl (stW rfcKey (1#32) rfcNonce) 10 0 + stW rfcKey (1#32) rfcNonce 0).toNat, (dbl (stW rfcKey (1#32) rfcNonce) 10 1 + stW rfcKey (1#32) rfcNonce 1).toNat, (dbl (stW rfcKey (1#32) rfcNonce) 10 2 + stW rfcKey (1#32) rfcNonce 2).toNat, (dbl (stW rfcKey (1#32) rfcNonce) 10 3 + stW rfcKey (1#32) rfcNonce 3).toNat, (dbl (stW rfcKey (1#32) rfcNonce) 10 4 + stW rfcKey (1#32) rfcNonce 4).toNat, (dbl (stW rfcKey (1#32) rfcNonce) 10 5 + stW rfcKey (1#32) rfcNonce 5).toNat, (dbl (stW rfcKey (1#32) rfcNonce) 10 6 + stW rfcKey (1#32) rfcNonce 6).toNat, (dbl (stW rfcKey (1#32) rfcNonce) 10 7 + stW rfcKey (1#32) rfcNonce 7).toNat, (dbl (stW rfcKey (1#32) rfcNonce) 10 8 + stW rfcKey (1#32) rfcNonce 8).toNat, (dbl (stW rfcKey (1#32) rfcNonce) 10 9 + stW rfcKey (1#32) rfcNonce 9).toNat, (dbl (stW rfcKey (1#32) rfcNonce) 10 10 + stW rfcKey (1#32) rfcNonce 10).toNat, (dbl (stW rfcKey (1#32) rfcNonce) 10 11 + stW rfcKey (1#32) rfcNonce 11).toNat, (dbl (stW rfcKey (1#32) rfcNonce) 10 12 + stW rfcKey (1#32) rfcNonce 12).toNat, (dbl (stW rfcKey (1#32) rfcNonce) 10 13 + stW rfcKey (1#32) rfcNonce 13).toNat, (dbl (stW rfcKey (1#32) rfcNonce) 10 14 + stW rfcKey (1#32) rfcNonce 14).toNat, (dbl (stW rfcKey (1#32) rfcNonce) 10 15 + stW rfcKey (1#32) rfcNonce 15).toNat] = rfcW := by
  have h := rfc_it
  simp only [itF_eq] at h
  exact h
theorem rfc_word (t : Nat) (h : t < 16) : (dbl (stW rfcKey (1#32) rfcNonce) 10 t + stW rfcKey (1#32) rfcNonce t).toNat = rfcW.getD t 0 := by
  rw [← rfc_words]
  match t, h with
  | 0, _ => rfl
  | 1, _ => rfl
  | 2, _ => rfl
  | 3, _ => rfl
  | 4, _ => rfl
  | 5, _ => rfl
  | 6, _ => rfl
  | 7, _ => rfl
  | 8, _ => rfl
  | 9, _ => rfl
  | 10, _ => rfl
  | 11, _ => rfl
  | 12, _ => rfl
  | 13, _ => rfl
  | 14, _ => rfl
  | 15, _ => rfl
  | n + 16, h => omega
theorem rfc_bytes : (List.range 64).map (blkB (stW rfcKey (1#32) rfcNonce)) = [16, 241, 231, 228, 209, 59, 89, 21, 80, 15, 221, 31, 163, 32, 113, 196, 199, 209, 244, 199, 51, 192, 104, 3, 4, 34, 170, 154, 195, 212, 108, 78, 210, 130, 100, 70, 7, 159, 170, 9, 20, 194, 215, 5, 217, 139, 2, 162, 181, 18, 156, 209, 222, 22, 78, 185, 203, 208, 131, 232, 162, 80, 60, 78] := by
  have e : (List.range 64).map (blkB (stW rfcKey (1#32) rfcNonce)) = (List.range 64).map fun j => UInt8.ofNat (rfcW.getD (j / 4) 0 / 256 ^ (j % 4)) := by
    apply List.map_congr_left; intro j hj
    have : j < 64 := by simpa using hj
    unfold blkB; rw [rfc_word _ (by omega)]
  rw [e]; decide +kernel
end Go.Proofs.Ytcfndjalfaajjaa
