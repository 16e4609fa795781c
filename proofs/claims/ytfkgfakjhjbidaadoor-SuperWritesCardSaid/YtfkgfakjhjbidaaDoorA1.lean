/-
  Part of the proof: errors.As at an Errno and a place for one, and what the given packages api and plain make of it, are walked.
-/
import Derived.Test.YtfkgfakjhjbidaaDoorBlk
import Derived.LaidEql
import Derived.Stop.Asserts
import Derived.RowKitTokens
namespace Go.Proofs.YtfkgfakjhjbidaaDoor
open Go.RowKit Go.Extern.Stop Go.Stop Go.Extern
/-- The handle of a type. -/
abbrev hnd (t : Nat) : Value := .pointer (some ⟨6, t, none⟩)
theorem r_valueP (t : Addr) (w : World) : (ReflectliteValue.unpack (.iface 137 (.pointer (some t)))).run Tryd.prog w
    = .ok (.agg #[hnd 137, .pointer (some ⟨w.heap.size, 0, none⟩), .int .u64 150]) (w.alloc (.cells #[.pointer (some t)] 137)) := by kernel_rfl
theorem r_valueE (n : Int) (w : World) : (ReflectliteValue.unpack (.iface 30 (.int .i64 n))).run Tryd.prog w
    = .ok (.agg #[hnd 30, .pointer (some ⟨w.heap.size, 0, none⟩), .int .u64 130]) (w.alloc (.cells #[.int .i64 n] 30)) := by kernel_rfl
theorem r_typeP (a : Addr) (w : World) : (ReflectliteValue.methodAny (ReflectliteValue.valueError "reflectlite.Value.Type" 0) (fun t _ _ _ => ReflectliteType.toType t) #[.agg #[hnd 137, .pointer (some a), .int .u64 150]]).run Tryd.prog w
    = .ok (.iface 211 (.agg #[hnd 137])) w := by kernel_rfl
theorem r_mKind (h : Value) (w : World) : (Go.method 354 211 (.agg #[h]) "Kind").run Tryd.prog w = .ok (179, h) w := by kernel_rfl
theorem r_mElem (h : Value) (w : World) : (Go.method 354 211 (.agg #[h]) "Elem").run Tryd.prog w = .ok (192, .agg #[h]) w := by kernel_rfl
theorem r_mImpl (h : Value) (w : World) : (Go.method 354 211 (.agg #[h]) "Implements").run Tryd.prog w = .ok (193, .agg #[h]) w := by kernel_rfl
theorem r_mAssign (h : Value) (w : World) : (Go.method 354 211 (.agg #[h]) "AssignableTo").run Tryd.prog w = .ok (190, .agg #[h]) w := by kernel_rfl
theorem r_kindP (w : World) : ((ReflectliteType.abiMethod fun t => (fun a : Nat => Value.int IntKind.u8 (a : Int)) <$> Rtype.kind t) #[hnd 137]).run Tryd.prog w = .ok (.int .u8 22) w := by kernel_rfl
theorem r_kindE (w : World) : ((ReflectliteType.abiMethod fun t => (fun a : Nat => Value.int IntKind.u8 (a : Int)) <$> Rtype.kind t) #[hnd 30]).run Tryd.prog w = .ok (.int .u8 2) w := by kernel_rfl
theorem r_elemP (w : World) : (ReflectliteType.method ReflectliteType.elem #[.agg #[hnd 137]]).run Tryd.prog w = .ok (.iface 211 (.agg #[hnd 30])) w := by kernel_rfl
theorem r_implE (w : World) : (ReflectliteType.relation "Implements" ReflectliteType.implements_ #[.agg #[hnd 30], .iface 211 (.agg #[hnd 34])]).run Tryd.prog w = .ok (.bool true) w := by kernel_rfl
theorem r_typeOfE (v : Value) (w : World) : (ReflectliteType.typeOf #[.iface 30 v]).run Tryd.prog w = .ok (.iface 211 (.agg #[hnd 30])) w := by kernel_rfl
theorem r_assignE (w : World) : (ReflectliteType.relation "AssignableTo" ReflectliteType.assignableTo #[.agg #[hnd 30], .iface 211 (.agg #[hnd 30])]).run Tryd.prog w = .ok (.bool true) w := by kernel_rfl
theorem r_partsP (a : Addr) (w : World) : (ReflectliteValue.parts (.agg #[hnd 137, .pointer (some a), .int .u64 150])).run Tryd.prog w = .ok (some (137, a, 150)) w := by kernel_rfl
theorem r_partsE (a : Addr) (w : World) : (ReflectliteValue.parts (.agg #[hnd 30, .pointer (some a), .int .u64 130])).run Tryd.prog w = .ok (some (30, a, 130)) w := by kernel_rfl
theorem r_partsA (a : Addr) (w : World) : (ReflectliteValue.parts (.agg #[hnd 30, .pointer (some a), .int .u64 386])).run Tryd.prog w = .ok (some (30, a, 386)) w := by kernel_rfl
theorem r_elemT (w : World) : (Rtype.elem? 137).run Tryd.prog w = .ok (some 30) w := by kernel_rfl
theorem r_mkE (p : Addr) (w : World) : (ReflectliteValue.mk 30 p ReflectliteValue.flagAddr).run Tryd.prog w = .ok (.agg #[hnd 30, .pointer (some p), .int .u64 386]) w := by kernel_rfl
theorem r_directE (w : World) : (Rtype.directlyAssignable 30 30).run Tryd.prog w = .ok true w := by kernel_rfl
theorem r_sizeE (w : World) : (sizeOf 30).run Tryd.prog w = .ok 1 w := by kernel_rfl
end Go.Proofs.YtfkgfakjhjbidaaDoor
