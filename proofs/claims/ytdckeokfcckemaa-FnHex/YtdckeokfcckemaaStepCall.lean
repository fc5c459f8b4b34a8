/- A call of a Go function by its contract, as one step of a region that draws its order. No program is named. -/
import Derived.WalkKit
import Derived.Deep.RegionLaw
import Derived.Below
namespace Go.Proofs.Ytdckeokfcckemaa
open Go.RowKit

theorem step_call1 {P : Program} {ops : Array Oper} {o : Oper} {a : Act} {w : World} {K : Act → World → Prop} {Q : Exit → Act → World → Prop} {E : Prop} (hgd : o.guard = none) (f : Nat) (x : Operand) (tx : TypeId)
    (ho : o.op = .call { callee := .value (.func f), args := #[x], argTypes := #[tx] }) (v r : Value) (hx : a.eval x = v) (X : World → Prop)
    (hcf : ∀ args w, (callFunc f args).run P w = .ok (.enter f args) w) (hc : Calls P f #[v] w fun e w' => e = .returned r ∧ X w') (h : ∀ w', X w' → K (a.put o.dst r) w') :
    if Region.wanted o (yielded ops a.tmps) = true then Oper.wp P o a w K Q else E := by
  have hw : Region.wanted o (yielded ops a.tmps) = true := by simp [Region.wanted, hgd]
  rw [if_pos hw]
  unfold Oper.wp
  simp only [execOp, ho, resolve, invoke, Sem.run_bind, Sem.run_pure, Result.andThen_ok, List.map_toArray, List.map_cons, List.map_nil, Act.eval, Deferred.ofValue, Array.append_empty, hcf]
  show Calls P f (#[] ++ #[a.eval x]) w _
  rw [hx, Array.empty_append]
  refine hc.mono ?_
  rintro e w' ⟨rfl, hX⟩
  exact h w' hX
end Go.Proofs.Ytdckeokfcckemaa
