/-
  Single operations, run.
-/
import Derived.Test.YtplmmjlhlijjmaaDoorRow
import Derived.Test.YtplmmjlhlijjmaaDoorCrcH
namespace Go.Proofs.YtplmmjlhlijjmaaDoor
open Go.RowKit

theorem cells_row : Tryd.prog.elem 22 = 5 := by kernel_rfl

theorem run_slice_to (a : Option Addr) (n cap k : Nat) (u : World) (hk : k ≤ cap) : (Instr.sliceAt 22 (.slice a n cap) none (some (.int .i64 (k : Int))) none).run Tryd.prog u = .ok (.slice a k cap) u := by
  obtain ⟨i0, hi, hz0, hz1, hz2⟩ := info_parts Tryd.info5
  have hu : Tryd.prog.underlying 22 = some (.slice (Tryd.prog.elem 22)) := by rw [cells_row]; exact Tryd.underlying22
  rw [run_sliceAt_slice (h := hu), run_slice_h (ht := hu) (h0 := by omega) (h2 := by omega), cells_row]
  simp [sizeOf, typeInfo, hi, Result.andThen, sliced]
  cases a with
  | none => simp
  | some x => simp; intro _; cases x; simp [Addr.add]

theorem run_build_one (a : Option Addr) (n cap : Nat) (u : World) (o : Oper) (b : Act) (x : Operand) (ho : o.op = .buildSlice 36 1 #[(0, x)]) (hx : b.eval x = .slice a n cap) :
    (execOp b.eval o).run Tryd.prog u = .ok (.value (.slice (some ⟨u.heap.size, 0, none⟩) 1 1)) (u.alloc (.cells #[.slice a n cap] 22)) := by
  simp [execOp, ho, hx]
  simp [go_sem]

theorem run_xor_u32 (x y z : Int) (hz : bits .xor .u32 x y = z) (u : World) (o : Oper) (b : Act) (p q : Operand) (ho : o.op = .binOp .xor 24 p q 24) (hp : b.eval p = .int .u32 x) (hq : b.eval q = .int .u32 y) :
    (execOp b.eval o).run Tryd.prog u = .ok (.value (.int .u32 z)) u := by
  subst hz
  simp [execOp, ho, hp, hq]
  simp [go_sem]

theorem run_eql_u32 (x y : Int) (z : Bool) (hz : (x == y) = z) (u : World) (o : Oper) (b : Act) (p q : Operand) (ho : o.op = .binOp .eql 24 p q 24) (hp : b.eval p = .int .u32 x) (hq : b.eval q = .int .u32 y) :
    (execOp b.eval o).run Tryd.prog u = .ok (.value (.bool z)) u := by
  subst hz
  simp [execOp, ho, hp, hq]
  simp [go_sem]

theorem run_enter {f : FuncId} {fn : Func} {c : Code} (hf : Tryd.prog.funcs[f]? = some fn) (hname : (fn.name == "runtime.NumGoroutine") = false) (hb : fn.body = some c) (args : Array Value) (u : World) :
    (callFunc f args).run Tryd.prog u = .ok (.enter f args) u := by
  have h1 : fn.name ≠ "runtime.NumGoroutine" := by simpa using hname
  simp [callFunc, hf, h1, hb]

theorem run_call1 {f : FuncId} {fn : Func} {c : Code} (hf : Tryd.prog.funcs[f]? = some fn) (hname : (fn.name == "runtime.NumGoroutine") = false) (hb : fn.body = some c) (v : Value) (u : World) (o : Oper) (b : Act) (p : Operand) (t : TypeId) (ho : o.op = .call { callee := .value (.func f), args := #[p], argTypes := #[t] }) (hp : b.eval p = v) :
    (execOp b.eval o).run Tryd.prog u = .ok (.enter f #[v]) u := by
  simp [execOp, ho]
  simp [go_sem, run_enter hf hname hb]
  cases p <;> simpa [Act.eval] using hp

theorem run_call0 {f : FuncId} {fn : Func} {c : Code} (hf : Tryd.prog.funcs[f]? = some fn) (hname : (fn.name == "runtime.NumGoroutine") = false) (hb : fn.body = some c) (u : World) (o : Oper) (b : Act) (ho : o.op = .call { callee := .value (.func f), args := #[], argTypes := #[] }) :
    (execOp b.eval o).run Tryd.prog u = .ok (.enter f #[]) u := by
  simp [execOp, ho]
  simp [go_sem, run_enter hf hname hb]

end Go.Proofs.YtplmmjlhlijjmaaDoor
