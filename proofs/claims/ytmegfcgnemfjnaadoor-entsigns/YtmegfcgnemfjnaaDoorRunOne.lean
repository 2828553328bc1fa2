/-
  Single operations run: calls.
-/
import Derived.Test.YtmegfcgnemfjnaaDoorRow
import Derived.Test.YtmegfcgnemfjnaaDoorRegionInv
namespace Go.Proofs.YtmegfcgnemfjnaaDoor
open Go.RowKit

theorem run_enter {f : FuncId} {fn : Func} {c : Code} (hf : Tryd.prog.funcs[f]? = some fn) (hname : (fn.name == "runtime.NumGoroutine") = false) (hb : fn.body = some c) (args : Array Value) (u : World) :
    (callFunc f args).run Tryd.prog u = .ok (.enter f args) u := by
  have h1 : fn.name ≠ "runtime.NumGoroutine" := by simpa using hname
  simp [callFunc, hf, h1, hb]

theorem run_call1 {f : FuncId} {fn : Func} {c : Code} (hf : Tryd.prog.funcs[f]? = some fn) (hname : (fn.name == "runtime.NumGoroutine") = false) (hb : fn.body = some c) (v : Value) (u : World) (o : Oper) (b : Act) (p : Operand) (t : TypeId) (ho : o.op = .call { callee := .value (.func f), args := #[p], argTypes := #[t] }) (hp : b.eval p = v) :
    (execOp b.eval o).run Tryd.prog u = .ok (.enter f #[v]) u := by
  simp [execOp, ho]
  simp [go_sem, run_enter hf hname hb]
  cases p <;> simpa [Act.eval] using hp

theorem run_call0 {f : FuncId} {fn : Func} {c : Code} (hf : Tryd.prog.funcs[f]? = some fn) (hname : (fn.name == "runtime.NumGoroutine") = false) (hb : fn.body = some c) (u : World) (o : Oper) (b : Act) (ho : o.op = .call { callee := .value (.func f), args := #[], argTypes := #[] }) :
    (execOp b.eval o).run Tryd.prog u = .ok (.enter f #[]) u := by
  simp [execOp, ho]
  simp [go_sem, run_enter hf hname hb]

end Go.Proofs.YtmegfcgnemfjnaaDoor
