/- Contracts: the root and the trash, folders, what is there. -/
import Derived.Test.YtngikahadkoliaaGreatDoorRunAB
import Derived.Test.YtngikahadkoliaaGreatDoorQuietAll
namespace Go.Proofs.YtngikahadkoliaaGreatDoor
open Go.RowKit Go.Opn Go.Stamp Go.MapInt Go.Mov
open Go.MapFun (got)
attribute [local go_sem] Oper.semAt_some
set_option maxRecDepth 100000 in
theorem hide {p : Prop} (h : p) : Hid p := h
set_option maxRecDepth 100000 in
theorem zeroTh (w : World) : (zeroValue 79).run Tryz.prog w = .ok Th.zero.v w := by kernel_rfl
set_option maxRecDepth 100000 in
theorem thMap : Tryz.prog.underlying 107 = some (.map 49 79) := Tryz.underlying107
set_option maxRecDepth 100000 in
theorem u64Key : Tryz.prog.underlying 49 = some (.int .u64) := Tryz.underlying49
/-- What a map of things has for a number. -/
def gotT : Option Th → Value
  | some x => .tuple #[x.v, .bool true]
  | none => .tuple #[Th.zero.v, .bool false]
set_option maxRecDepth 100000 in
theorem look_two {b : Nat} {mb : Option Nat} {t : Ths} {w : World} (h : ThsAt Tryz.prog 49 b mb t w) (k : Int) (hk : Num k) : (Instr.lookup 107 (.map mb) (.int .u64 k) true).run Tryz.prog w = .ok (gotT (Mov.look t k)) w := by
  rw [h.map.look u64Key thMap (zeroTh w) true k hk]
  cases Mov.look t k <;> rfl
set_option maxRecDepth 100000 in
theorem look_one {b : Nat} {mb : Option Nat} {t : Ths} {w : World} (h : ThsAt Tryz.prog 49 b mb t w) (k : Int) (hk : Num k) : (Instr.lookup 107 (.map mb) (.int .u64 k) false).run Tryz.prog w = .ok ((Mov.look t k).getD Th.zero).v w := by
  rw [h.map.look u64Key thMap (zeroTh w) false k hk]
  cases Mov.look t k <;> rfl
set_option maxRecDepth 100000 in
theorem top_any (k : Int) (w : World) : Calls Tryz.prog 109 #[.int .u64 k] w fun e w' => e = .returned (.bool (top k)) ∧ w' = w := by
  by_cases h0 : k = 0
  · subst h0
    go_enter Tryz.func109, Tryz.ntmps109
    go_wp2
    go_ret
    exact ⟨rfl, rfl⟩
  · have e0 : (k == 0) = false := by simpa using h0
    go_enter Tryz.func109, Tryz.ntmps109
    go_wp2
    go_ret
    exact ⟨by unfold top; rw [e0, Bool.false_or]; rfl, rfl⟩
set_option maxRecDepth 100000 in
theorem field_dir (i p : Int) (n : ByteArray) (d : Bool) (g : ByteArray) (z : Int) (w : World) : (Instr.field 79 (.agg #[.int .u64 i, .int .u64 p, .string n, .bool d, .string g, .int .i64 z]) 3).run Tryz.prog w = .ok (.bool d) w := by kernel_rfl
set_option maxRecDepth 100000 in
theorem folder_any {b : Nat} {mb : Option Nat} {t : Ths} (k : Int) (w : World) (h : ThsAt Tryz.prog 49 b mb t w) (hk : Num k) :
    Calls Tryz.prog 110 #[.pointer (some ⟨b, 0, none⟩), .int .u64 k] w fun e w' => e = .returned (.bool (fold t k)) ∧ w' = w := by
  have c0 := h.cell
  by_cases h0 : k = 0
  · subst h0
    go_enter Tryz.func110, Tryz.ntmps110
    go_wp2
    go_ret
    exact ⟨rfl, rfl⟩
  · have e0 : (k == 0) = false := by simpa using h0
    have hl := look_one h k hk
    have HF : Hid (fold t k = ((Mov.look t k).getD Th.zero).dir) := by
      show _ = _
      unfold fold
      rw [e0, Bool.false_or]
      cases Mov.look t k <;> rfl
    generalize (Mov.look t k).getD Th.zero = x at *
    unfold Th.v at hl
    have hfd := field_dir x.id x.par x.name x.dir x.dg x.size
    clear h hk
    go_enter Tryz.func110, Tryz.ntmps110
    go_wp2
    go_ret
    exact ⟨by rw [HF.out]; rfl, rfl⟩
end Go.Proofs.YtngikahadkoliaaGreatDoor
