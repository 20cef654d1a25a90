/- errors.Is by its contracts: of nothing, and of a refusal of the checker's, against what every refusal comes down to. -/
import Derived.Test.YtkcbbpfclfncpaaDoorSg0
import Derived.WalkKit
import Derived.LaidEql
import Derived.Stop.Asserts
import Derived.RowKitTokens
namespace Go.Proofs.YtkcbbpfclfncpaaDoor
namespace Pg
open Go.ChangeShapes Go.WideShapes Go.ChangeAt Go.RowKit St Go.Extern.Stop Go.Stop Go.Extern

/-- The model's entry for asking a type whether it can be compared. -/
def cmpE (t : TypeId) : Sem Value := do Extern.Rtype.noPackHeld "Comparable" t; pure (.bool (← typeInfo t).comparable)
theorem isTypeOf (v : Value) (w : World) : (Extern.ReflectliteType.typeOf #[.iface 127 v]).run Tryd.prog w = .ok (.iface 86 (.agg #[.pointer (some ⟨1, 127, none⟩)])) w := by kernel_rfl
theorem isComparable (w : World) : ((Extern.ReflectliteType.method cmpE) #[.agg #[.pointer (some ⟨1, 127, none⟩)]]).run Tryd.prog w = .ok (.bool true) w := by kernel_rfl
theorem isComp : (Tryd.prog.info? 127).map (·.comparable) = some true := by kernel_rfl
theorem isSize : (Tryd.prog.info? 153).map (·.size) = some 1 := by kernel_rfl
theorem noIsR (v : Value) (xT : TypeId) (w : World) : (Instr.typeAssert (.iface 72 v) xT 88 true).run Tryd.prog w = .ok (.tuple #[.nilIface, .bool false]) w := run_typeAssert_lacksB Tryd.underlying88 (by kernel_rfl) (by kernel_rfl) v xT w
theorem hasUnwrapR (v : Value) (xT : TypeId) (w : World) : (Instr.typeAssert (.iface 72 v) xT 91 true).run Tryd.prog w = .ok (.tuple #[.iface 72 v, .bool true]) w := run_typeAssert_hasB Tryd.underlying91 (by kernel_rfl) v xT w

/-- errors.Is of nothing. -/
theorem is_nil (b : Addr) (w : World) :
    Calls Tryd.prog 18 #[.nilIface, .iface 127 (.pointer (some b))] w fun e w' => e = .returned (.bool false) ∧ w' = w := by
  have hn := run_eql_iface_nil_left (P := Tryd.prog) w 127 (.pointer (some b)) Tryd.underlying51
  go_enter Tryd.func18, Tryd.ntmps18
  go_wp2
  go_ret
  exact ⟨rfl, rfl⟩

set_option maxRecDepth 100000 in
set_option maxHeartbeats 2000000 in
/-- errors.Is of a refusal. -/
theorem is_refusal (s : ByteArray) (b : Addr) (w : World) (hg : w.cell? ⟨0, 0, none⟩ = some (.iface 127 (.pointer (some b)))) :
    Calls Tryd.prog 18 #[.iface 72 (.agg #[.string s]), .iface 127 (.pointer (some b))] w fun e w' => e = .returned (.bool true) ∧ Below w.heap.size w w' := by
  obtain ⟨i, hi, hcmp⟩ := Option.map_eq_some_iff.1 isComp
  obtain ⟨j, hj, hjs⟩ := Option.map_eq_some_iff.1 isSize
  have hT := @run_callFunc_extern Tryd.prog 32 _ Extern.ReflectliteType.typeOf Tryd.func32 (by kernel_rfl) (by kernel_rfl) (by kernel_rfl) (by kernel_rfl)
  have hC := @run_callFunc_extern Tryd.prog 96 _ (Extern.ReflectliteType.method cmpE) Tryd.func96 (by kernel_rfl) (by kernel_rfl) (by kernel_rfl) (by kernel_rfl)
  have tT := isTypeOf
  have cT := isComparable
  have nR := noIsR
  have uR := hasUnwrapR
  have heq : ∀ w : World, _ := fun w => run_eql_iface_ptr_same (P := Tryd.prog) w b Tryd.underlying51 Tryd.underlying127 hi hcmp hj
  have hty : ∀ w : World, _ := fun w => run_eql_iface_types (P := Tryd.prog) 72 127 (.agg #[.string s]) (.pointer (some b)) Tryd.underlying51 (by decide) w
  have hg1 : (w.alloc (.cells #[.string s] 72)).cell? ⟨0, 0, none⟩ = some (.iface 127 (.pointer (some b))) := by
    rw [World.cell?_alloc_lt _ _ _ (cell_lt hg)]; exact hg
  go_enter Tryd.func18, Tryd.ntmps18
  go_wp2
  refine wp_loop_rounds 2 ?_
  rw [rounds_succ]
  go_wp2
  rw [rounds_succ]
  go_wp2
  go_ret
  exact ⟨rfl, by go_grown⟩
end Pg
end Go.Proofs.YtkcbbpfclfncpaaDoor
