/- Several texts in one: MoveTurnsMath, MoveTwins, AppendSz. -/
import Derived.Test.YtnbhchdaobimmaaGreatDoorEntryAll
import Derived.Test.YtnbhchdaobimmaaGreatDoorRunAI
import Derived.Deep.MidRow
import Derived.WalkKit
import Derived.OwnWalk
import Derived.OwnWalkIn
import Derived.Laws.OwnMore
import Derived.RangeFuncBox
/- Operations come in whatever order: what is kept of them hangs on which they are alone; of no program. -/
namespace Go.Mov
open Go.RowKit
/-- Unlike ones of one time have unlike digests. -/
def Uniq (es : List En) : Prop := ∀ x ∈ es, ∀ y ∈ es, x.op.tm = y.op.tm → x.h = y.h → x = y
/-- No two unlike operations of the law's have one time and one letter. -/
def NoTw (ks : List Le) : Prop := ∀ (i k : Nat) (x y : Le), k < i → ks[i]? = some x → ks[k]? = some y → x.h = y.h → x.op.tm = y.op.tm → x.op = y.op
end Go.Mov
/- Contract: whether two unlike operations have one time and one letter. -/
namespace Go.Proofs.YtnbhchdaobimmaaGreatDoor
open Go.RowKit Go.Opn Go.Stamp Go.MapInt Go.Mov Go.Shelf Go.Rws
attribute [local go_sem] Oper.semAt_some
def ocs (o : Ob) : List Value := [.int .i64 o.kind, .int .u64 o.tm.c, .int .i64 o.tm.k, .int .u64 o.thing, .int .u64 o.par, .string o.name, .bool o.dir, .string o.dg, .int .i64 o.size]
end Go.Proofs.YtnbhchdaobimmaaGreatDoor
/- append to a row of one's own, elements of any size: where the row lies behind it; of no program. -/
namespace Go.AppendSz
open Go.RowKit
variable {P : Program} {w : World}
theorem where_append {base e : Nat} {t ty : TypeId} {i : TypeInfo} {z v : Value} {size bytes n : Nat} {xs : List Value} (ht : P.underlying t = some (.slice e)) (hi : P.info? e = some i) (hz : i.zero = some z)
  (hsize : i.size = size) (hby : i.bytes = bytes) (hown : w.ownsRow base e size v n xs)
  (ad : Addr) (m c : Nat) (news : List Value) (hl : news.length = m * size) (hu : ∀ j y, news[j]? = some y → w.cell? (ad.add j) = some y) (h1 : ∀ u ∈ news, u.oneCell' = true) (hlen : (n + m) * bytes ≤ 140737488355328) (h63 : n + m ≤ maxLen)
  (v' : Value) (w' : World) (hr : (Builtin.append_ #[t, t] ty #[v, .slice (some ad) m c]).run P w = .ok v' w') : v'.ownBlock = v.ownBlock ∨ v'.ownBlock = some w.heap.size := by
 subst hby
 subst hsize
 have hsmall : n + m ≤ 9223372036854775807 := by simp only [maxLen] at h63; omega
 rcases hown.2 with ⟨rfl, rfl⟩ | ⟨g, cap, cur, rfl, hbg, hg, hnc, hcm, hcs, htake⟩
 ·by_cases hm : m = 0
  ·subst hm
   have hn : news = [] := List.eq_nil_of_length_eq_zero (by simpa using hl)
   have e1 : (Builtin.append_ #[t, t] ty #[.slice none 0 0, .slice (some ad) 0 c]).run P w = .ok (.slice none 0 0) w := by
    simp [Builtin.append_, run_underlying ht, sizeOf, typeInfo, hi, Builtin.lenOf, Builtin.firstCells, loadCells, loadCellsFrom]
   rw [e1] at hr
   cases hr
   exact .inl rfl
  ·have h2 := run_append_nil (P := P) w t ty e i z ht hi hz ad m c news hl hu (by omega) (by omega) (by rw [Nat.zero_add] at hlen; omega)
   rw [h2] at hr
   cases hr
   exact .inr rfl
 ·by_cases hroom : n + m ≤ cap
  ·have hfit : n * i.size + news.length ≤ cur.size := by rw [hl, hcs, ← Nat.add_mul]; exact Nat.mul_le_mul_right _ hroom
   have h2 := run_append_room (P := P) w t ty e i ht hi g n cap cur hg ad m c news hl hu h1 hroom hfit
   rw [h2] at hr
   cases hr
   exact .inl rfl
  ·have h2 := run_append_grow (P := P) w t ty e i z ht hi hz ⟨g, 0, none⟩ n cap xs hown.1 (hown.cells (g := g) rfl) ad m c news hl hu (by omega) (by omega) (growslice_fits (by omega) hlen)
   rw [h2] at hr
   cases hr
   exact .inr rfl
end Go.AppendSz
