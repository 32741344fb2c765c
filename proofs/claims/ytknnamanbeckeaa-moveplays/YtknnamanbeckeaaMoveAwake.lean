/- Contract: the law's own look whether a tree answers. -/
import Derived.Test.YtknnamanbeckeaaMoveTw
namespace Go.Mov
open Go.RowKit
def aw1 : En := ⟨⟨1, ⟨1, 0⟩, 16, 0, ⟨#[97]⟩, true, ⟨#[]⟩, 0⟩, ⟨#[]⟩⟩
def aw2 : En := ⟨⟨1, ⟨2, 0⟩, 32, 0, ⟨#[98]⟩, true, ⟨#[]⟩, 0⟩, ⟨#[]⟩⟩
def aw3 : En := ⟨⟨2, ⟨6, 0⟩, 32, 16, ⟨#[98]⟩, false, ⟨#[]⟩, 0⟩, ⟨#[]⟩⟩
def aw4 : En := ⟨⟨2, ⟨5, 0⟩, 16, 32, ⟨#[97]⟩, false, ⟨#[]⟩, 0⟩, ⟨#[]⟩⟩
def aws : List En := [aw1, aw2, aw3, aw4]
theorem aws_fits : ∀ e ∈ aws, e.Fits := by
  intro e he
  simp only [aws, List.mem_cons, List.not_mem_nil, or_false] at he
  rcases he with rfl | rfl | rfl | rfl <;> exact ⟨⟨by decide, ⟨by decide, by decide, by decide, by decide⟩, ⟨by decide, by decide⟩, ⟨by decide, by decide⟩, by decide, by decide, by decide⟩, by decide⟩
theorem aws_new : ∀ j e, aws[j]? = some e → known (addsU (aws.take j)).1 e = false
  | 0, e, h => by cases h; rfl
  | 1, e, h => by cases h; rfl
  | 2, e, h => by cases h; rfl
  | 3, e, h => by cases h; rfl
  | j + 4, e, h => by simp [aws] at h
end Go.Mov
namespace Go.Proofs.Ytknnamanbeckeaa
open Go.RowKit Go.Opn Go.Stamp Go.MapInt Go.Mov Go.Shelf
attribute [local go_sem] Oper.semAt_some
theorem aws_x : (Mov.look (ths [] (addsU aws).1) 16).getD Th.zero = ⟨16, 32, ⟨#[97]⟩, true, ⟨#[]⟩, 0⟩ ∧ (Mov.look (ths [] (addsU aws).1) 16).isSome = true := by constructor <;> kernel_rfl
theorem aws_y : (Mov.look (ths [] (addsU aws).1) 32).getD Th.zero = ⟨32, 0, ⟨#[98]⟩, true, ⟨#[]⟩, 0⟩ ∧ (Mov.look (ths [] (addsU aws).1) 32).isSome = true := by constructor <;> kernel_rfl
theorem aws_u : (addsU aws).2 = 1 := by kernel_rfl
set_option maxHeartbeats 4000000 in
set_option maxRecDepth 100000 in
theorem awake13_any (w : World) : Calls Try.prog 6 #[] w fun r w' => r = .returned (.bool true) ∧ Below w.heap.size w w' := by
  have HN := hide (newTw_any w)
  go_enter Try.func6, Try.ntmps6
  go_upto_region 3 with (go_at_call 5; refine HN.out.mono ?_; rintro r w1 ⟨b, rfl, I1⟩; replace I1 := hide I1; clear HN)
  have hrow : Hid ((w1.alloc (.cells (aws.flatMap En.cs).toArray 45 (0, 0))).heap[w1.heap.size]? = some (.cells (aws.flatMap En.cs).toArray 45 (0, 0)) ∧ Tw w b (fun x => False ∨ x = w1.heap.size) [] 0 (w1.alloc (.cells (aws.flatMap En.cs).toArray 45 (0, 0)))) := ⟨heap_alloc_new w1 _, I1.out.more ((Below.refl _ w1).alloc (Nat.le_refl _) _) _ (Nat.le_refl _) (by simp)⟩
  obtain ⟨rb, hrb⟩ : ∃ rb, rb = w1.heap.size := ⟨_, rfl⟩
  have hA : aws.length = 4 := rfl
  go_wp2_with fail
  go_loopw [3] (fun v3 wr => ∃ j : Nat, v3 = .int .i64 j ∧ j ≤ 4 ∧ Hid (wr.heap[w1.heap.size]? = some (.cells (aws.flatMap En.cs).toArray 45 (0, 0)) ∧ Tw w b (fun x => False ∨ x = w1.heap.size) (addsU (aws.take j)).1 (addsU (aws.take j)).2 wr)) (fun v3 _ => 4 - (intOf v3).toNat)
  case atStart => exact ⟨0, rfl, by omega, hrow.out⟩
  case round =>
    obtain ⟨j, rfl, hj, HI⟩ := hrel
    clear hrow
    by_cases hlt : j < 4
    · have hltI : (j : Int) < 4 := by omega
      obtain ⟨e, he⟩ : ∃ e, aws[j]? = some e := ⟨_, List.getElem?_eq_getElem (by rw [hA]; exact hlt)⟩
      obtain ⟨d0, d1, d2, d3, d4, d5, d6, d7, d8, d9⟩ := cells10 (row_ens HI.out.1 he)
      have hbd := addsU_bound (aws.take j)
      have hln : (aws.take j).length = j := by rw [List.length_take, hA]; omega
      rw [hln] at hbd
      have hjj : (j : Int) * j ≤ 16 := by
        have : j = 0 ∨ j = 1 ∨ j = 2 ∨ j = 3 := by omega
        rcases this with rfl | rfl | rfl | rfl <;> decide
      have HC : Hid (Calls Try.prog 10 #[.pointer (some ⟨b, 0, none⟩), e.v] wr fun r w' => r = .returned (.bool true) ∧ Hid (w'.heap[w1.heap.size]? = some (.cells (aws.flatMap En.cs).toArray 45 (0, 0)) ∧ Tw w b (fun x => False ∨ x = w1.heap.size) (addsU (aws.take (j + 1))).1 (addsU (aws.take (j + 1))).2 w')) := by
        refine (addTw_any e HI.out.2 (aws_fits e (List.mem_of_getElem? he)) (by omega) ⟨hbd.2.1, by omega⟩).mono ?_
        rintro r w' ⟨rfl, h1, h2, _⟩
        rw [aws_new j e he]
        refine ⟨rfl, (h2 _ (.inr rfl)).trans HI.out.1, ?_⟩
        have e1 : aws.take (j + 1) = aws.take j ++ [e] := by rw [List.take_add_one, he]; rfl
        rw [e1, addsU_snoc]
        exact h1
      unfold En.v at HC
      clear HI he hbd hln hjj
      go_wp2_with (go_at_call 10; refine HC.out.mono ?_; rintro r w5 ⟨rfl, A5⟩; clear HC)
      go_roundw
      case rel => exact ⟨j + 1, by simp, by omega, A5.out⟩
      case measure => simp [intOf]; omega
    · obtain rfl : j = 4 := by omega
      have e4 : aws.take 4 = aws := rfl
      rw [e4] at HI
      have HG1 : Hid (Calls Try.prog 19 #[.pointer (some ⟨b, 0, none⟩), .int .u64 16] wr fun r w' => r = .returned (.tuple #[.agg #[.int .u64 16, .int .u64 32, .string ⟨#[97]⟩, .bool true, .string ⟨#[]⟩, .int .i64 0], .bool true]) ∧ Below wr.heap.size wr w') := by
        have := getTw_any HI.out.2 16 ⟨by decide, by decide⟩
        rw [aws_x.1, aws_x.2] at this
        exact this
      have HG2 : Hid (∀ v, Below wr.heap.size wr v → Calls Try.prog 19 #[.pointer (some ⟨b, 0, none⟩), .int .u64 32] v fun r w' => r = .returned (.tuple #[.agg #[.int .u64 32, .int .u64 0, .string ⟨#[98]⟩, .bool true, .string ⟨#[]⟩, .int .i64 0], .bool true]) ∧ Below v.heap.size v w') := fun v k => by
        have := getTw_any (HI.out.2.below k) 32 ⟨by decide, by decide⟩
        rw [aws_y.1, aws_y.2] at this
        exact this
      have HU : Hid (∀ v, Below wr.heap.size wr v → Calls Try.prog 20 #[.pointer (some ⟨b, 0, none⟩)] v fun r w' => r = .returned (.int .i64 1) ∧ w' = v) := fun v k => by
        have := undoneTw_any (HI.out.2.below k)
        rw [aws_u] at this
        exact this
      have HK := hide HI.out.2.k
      clear HI
      go_upto_region 9 with (go_at_call 19; refine HG1.out.mono ?_; rintro r w5 ⟨rfl, k5⟩; clear HG1)
      have k6 := k5.alloc k5.size (.cells #[.int .u64 16, .int .u64 32, .string ⟨#[97]⟩, .bool true, .string ⟨#[]⟩, .int .i64 0] 61)
      have hx := heap_alloc_new w5 (.cells #[.int .u64 16, .int .u64 32, .string ⟨#[97]⟩, .bool true, .string ⟨#[]⟩, .int .i64 0] 61 (0, 0))
      clear k5
      generalize hg5 : w5.heap.size = g5 at *
      generalize w5.alloc (.cells #[.int .u64 16, .int .u64 32, .string ⟨#[97]⟩, .bool true, .string ⟨#[]⟩, .int .i64 0] 61) = w6 at *
      clear hg5
      have K6 := hide (And.intro k6 hx)
      clear k6 hx
      go_upto_region 10 with (go_at_call 19; refine (HG2.out _ K6.out.1).mono ?_; rintro r w7 ⟨rfl, k7⟩; clear HG2)
      have hc : (w7.alloc (.cells #[.int .u64 32, .int .u64 0, .string ⟨#[98]⟩, .bool true, .string ⟨#[]⟩, .int .i64 0] 61)).cell? ⟨g5, 1, none⟩ = some (.int .u64 32) := by
        have h1 := (heap_alloc_old w7 (.cells #[.int .u64 32, .int .u64 0, .string ⟨#[98]⟩, .bool true, .string ⟨#[]⟩, .int .i64 0] 61) (Nat.lt_of_lt_of_le (Array.getElem?_eq_some_iff.1 K6.out.2).1 k7.size)).trans ((k7.block g5 (Array.getElem?_eq_some_iff.1 K6.out.2).1).trans K6.out.2)
        exact (cell_of_row _ _ _ _ _ _ h1).trans rfl
      have hc2 : (w7.alloc (.cells #[.int .u64 32, .int .u64 0, .string ⟨#[98]⟩, .bool true, .string ⟨#[]⟩, .int .i64 0] 61)).cell? ⟨w7.heap.size, 1, none⟩ = some (.int .u64 0) := (cell_of_row _ _ _ _ _ _ (heap_alloc_new w7 _)).trans rfl
      have K8 := hide ((K6.out.1.trans (k7.mono K6.out.1.size)).alloc (Nat.le_trans K6.out.1.size k7.size) (.cells #[.int .u64 32, .int .u64 0, .string ⟨#[98]⟩, .bool true, .string ⟨#[]⟩, .int .i64 0] 61))
      clear k7 K6
      generalize w7.heap.size = g7 at *
      generalize w7.alloc (.cells #[.int .u64 32, .int .u64 0, .string ⟨#[98]⟩, .bool true, .string ⟨#[]⟩, .int .i64 0] 61) = w8 at *
      go_wp2_with (go_at_call 20; refine (HU.out _ K8.out).mono ?_; rintro r w9 ⟨rfl, rfl⟩; clear HU)
      go_ret
      exact ⟨rfl, HK.out.trans (K8.out.mono HK.out.size)⟩
end Go.Proofs.Ytknnamanbeckeaa
