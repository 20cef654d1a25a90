/- errors.Is by its contracts: of nothing, and of a refusal of the checker's, against what every refusal comes down to. -/
import Derived.Test.YtfdlljdljefkfaaGreatDoorJLo0
import Derived.WalkKit
import Derived.LaidEql
import Derived.Stop.Asserts
import Derived.RowKitTokens
import Derived.Test.YtfdlljdljefkfaaGreatDoorJEn0
import Derived.Test.YtfdlljdljefkfaaGreatDoorJCk2
namespace Go.Proofs.YtfdlljdljefkfaaGreatDoor
namespace Pg
open Go.ChangeShapes Go.WideShapes Go.ChangeAt Go.RowKit St Go.Extern.Stop Go.Stop Go.Extern

/-- The model's entry for asking a type whether it can be compared. -/
def cmpE (t : TypeId) : Sem Value := do Extern.Rtype.noPackHeld "Comparable" t; pure (.bool (← typeInfo t).comparable)
theorem isTypeOf (v : Value) (w : World) : (Extern.ReflectliteType.typeOf #[.iface 169 v]).run Tryz.prog w = .ok (.iface 113 (.agg #[.pointer (some ⟨1, 169, none⟩)])) w := by kernel_rfl
theorem isComparable (w : World) : ((Extern.ReflectliteType.method cmpE) #[.agg #[.pointer (some ⟨1, 169, none⟩)]]).run Tryz.prog w = .ok (.bool true) w := by kernel_rfl
theorem isComp : (Tryz.prog.info? 169).map (·.comparable) = some true := by kernel_rfl
theorem isSize : (Tryz.prog.info? 196).map (·.size) = some 1 := by kernel_rfl
theorem noIsR (v : Value) (xT : TypeId) (w : World) : (Instr.typeAssert (.iface 90 v) xT 115 true).run Tryz.prog w = .ok (.tuple #[.nilIface, .bool false]) w := run_typeAssert_lacksB Tryz.underlying115 (by kernel_rfl) (by kernel_rfl) v xT w
theorem hasUnwrapR (v : Value) (xT : TypeId) (w : World) : (Instr.typeAssert (.iface 90 v) xT 118 true).run Tryz.prog w = .ok (.tuple #[.iface 90 v, .bool true]) w := run_typeAssert_hasB Tryz.underlying118 (by kernel_rfl) v xT w

/-- errors.Is of nothing. -/
theorem is_nil (b : Addr) (w : World) :
    Calls Tryz.prog 25 #[.nilIface, .iface 169 (.pointer (some b))] w fun e w' => e = .returned (.bool false) ∧ w' = w := by
  have hn := run_eql_iface_nil_left (P := Tryz.prog) w 169 (.pointer (some b)) Tryz.underlying60
  go_enter Tryz.func25, Tryz.ntmps25
  go_wp2
  go_ret
  exact ⟨rfl, rfl⟩

set_option maxRecDepth 100000 in
set_option maxHeartbeats 2000000 in
/-- errors.Is of a refusal. -/
theorem is_refusal (s : ByteArray) (b : Addr) (w : World) (hg : w.cell? ⟨0, 0, none⟩ = some (.iface 169 (.pointer (some b)))) :
    Calls Tryz.prog 25 #[.iface 90 (.agg #[.string s]), .iface 169 (.pointer (some b))] w fun e w' => e = .returned (.bool true) ∧ Below w.heap.size w w' := by
  obtain ⟨i, hi, hcmp⟩ := Option.map_eq_some_iff.1 isComp
  obtain ⟨j, hj, hjs⟩ := Option.map_eq_some_iff.1 isSize
  have hT := @run_callFunc_extern Tryz.prog 48 _ Extern.ReflectliteType.typeOf Tryz.func48 (by kernel_rfl) (by kernel_rfl) (by kernel_rfl) (by kernel_rfl)
  have hC := @run_callFunc_extern Tryz.prog 134 _ (Extern.ReflectliteType.method cmpE) Tryz.func134 (by kernel_rfl) (by kernel_rfl) (by kernel_rfl) (by kernel_rfl)
  have tT := isTypeOf
  have cT := isComparable
  have nR := noIsR
  have uR := hasUnwrapR
  have heq : ∀ w : World, _ := fun w => run_eql_iface_ptr_same (P := Tryz.prog) w b Tryz.underlying60 Tryz.underlying169 hi hcmp hj
  have hty : ∀ w : World, _ := fun w => run_eql_iface_types (P := Tryz.prog) 90 169 (.agg #[.string s]) (.pointer (some b)) Tryz.underlying60 (by decide) w
  have hg1 : (w.alloc (.cells #[.string s] 90)).cell? ⟨0, 0, none⟩ = some (.iface 169 (.pointer (some b))) := by
    rw [World.cell?_alloc_lt _ _ _ (cell_lt hg)]; exact hg
  go_enter Tryz.func25, Tryz.ntmps25
  go_wp2
  refine wp_loop_rounds 2 ?_
  rw [rounds_succ]
  go_wp2
  rw [rounds_succ]
  go_wp2
  go_ret
  exact ⟨rfl, by go_grown⟩
end Pg
end Go.Proofs.YtfdlljdljefkfaaGreatDoor

/- The contract of the state that a method begins with. -/
namespace Go.Proofs.YtfdlljdljefkfaaGreatDoor
namespace Pg
open Go.ChangeShapes Go.WideShapes Go.ChangeAt Go.RowKit St

def slen : Value → Nat
  | .slice _ n _ => n
  | _ => 0
def entF (cls : Int) (args : List Int) : Sta := ([], (cls :: args) ++ List.replicate (7 - args.length) (-3))
theorem ent_len {cls : Int} {args : List Int} (h : args.length ≤ 3) : (entF cls args).2.length = 8 := by simp [entF]; omega
end Pg
end Go.Proofs.YtfdlljdljefkfaaGreatDoor

/- The contract of the program's Entry. -/
namespace Go.Proofs.YtfdlljdljefkfaaGreatDoor
namespace Pg
open Go.ChangeShapes Go.WideShapes Go.ChangeAt Go.RowKit St

def entryF (p : Prg) (t name : Int) : Option Sta := (methF p t name).map fun m => entF t m.args
theorem meth_parts {p : Prg} {t name : Int} {m : Meth} (h : methF p t name = some m) : okP p = true ∧ inB p t = true ∧ okMB p.length m = true := by
  unfold methF at h
  split at h
  · rename_i hc
    rw [Bool.and_eq_true] at hc
    cases hk : p[t.toNat]? with
    | none => rw [hk] at h; cases h
    | some k => rw [hk] at h; exact ⟨hc.1, hc.2, meth_ok hc.1 hk (ownF_in h).1⟩
  · cases h
/-- What the checker's sentinel holds. -/
abbrev Snt (w : World) (b : Addr) : Prop := w.cell? ⟨0, 0, none⟩ = some (.iface 169 (.pointer (some b)))

end Pg
end Go.Proofs.YtfdlljdljefkfaaGreatDoor
