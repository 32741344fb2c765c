/- Contract of the document: a share that may not be. -/
import Derived.Test.YtoopaeahhbkncabDoorMerkleProve
namespace Go.Proofs.YtoopaeahhbkncabDoor
open Go.RowKit Go.Mk Go.Chunk
attribute [local go_sem] Oper.semAt_some
theorem empty_iff (s : ByteArray) : s.toList.isEmpty = decide (s.size = 0) := by
  by_cases h : s.size = 0
  · rw [empty_yes s h, decide_eq_true h]
  · rw [empty_no s h, decide_eq_false h]
theorem infoRShare : (Tryd.prog.info? 34).map (·.size) = some 6 := by kernel_rfl
set_option maxHeartbeats 2000000 in
theorem rverify_claim (x : Sh) (pv : Value) (w : World) (hC : ¬ x.Claims) :
    Calls Tryd.prog 10 #[x.v pv] w fun e w' => e = .returned (.int .i64 1) ∧ Below w.heap.size w w' := by
  obtain ⟨dg, sz, mn, at_, ck, pa⟩ := x
  unfold Sh.Claims at hC
  dsimp only at hC
  have he := empty_iff ck
  have hbw : Below w.heap.size w (w.alloc (.cells #[.string dg, .int .i64 sz, .int .i64 mn, .int .i64 at_, .string ck, pv] 34)) := (Below.refl _ w).alloc (Nat.le_refl _) _
  have HB := hide hbw
  clear hbw
  by_cases h1 : 1 ≤ mn
  · by_cases h2 : mn ≤ 256
    · by_cases h3 : 0 ≤ at_
      · by_cases h4 : at_ < mn
        · by_cases h5 : mn ≤ sz
          · by_cases h5b : sz ≤ 512 * mn
            · by_cases h5c : sz ≤ 8192
              · by_cases h6 : ck.size = 0
                · have h6' : ck.toList.isEmpty = true := by rw [he, decide_eq_true h6]
                  clear hC he
                  go_enter Tryd.func10, Tryd.ntmps10
                  go_wp2_with fail
                  go_ret
                  exact ⟨rfl, HB.out⟩
                · have h6' : ck.toList.isEmpty = false := by rw [he, decide_eq_false h6]
                  have h7 : ¬ (ck.size : Int) ≤ 512 := fun h7 => hC ⟨h1, h2, h3, h4, ⟨h2, h5c, h5, h5b⟩, by omega, by omega⟩
                  clear hC he
                  go_enter Tryd.func10, Tryd.ntmps10
                  go_wp2_with fail
                  go_ret
                  exact ⟨rfl, HB.out⟩
              · clear hC he
                go_enter Tryd.func10, Tryd.ntmps10
                go_wp2_with fail
                go_ret
                exact ⟨rfl, HB.out⟩
            · clear hC he
              go_enter Tryd.func10, Tryd.ntmps10
              go_wp2_with fail
              go_ret
              exact ⟨rfl, HB.out⟩
          · clear hC he
            go_enter Tryd.func10, Tryd.ntmps10
            go_wp2_with fail
            go_ret
            exact ⟨rfl, HB.out⟩
        · clear hC he
          go_enter Tryd.func10, Tryd.ntmps10
          go_wp2_with fail
          go_ret
          exact ⟨rfl, HB.out⟩
      · clear hC he
        go_enter Tryd.func10, Tryd.ntmps10
        go_wp2_with fail
        go_ret
        exact ⟨rfl, HB.out⟩
    · clear hC he
      go_enter Tryd.func10, Tryd.ntmps10
      go_wp2_with fail
      go_ret
      exact ⟨rfl, HB.out⟩
  · clear hC he
    go_enter Tryd.func10, Tryd.ntmps10
    go_wp2_with fail
    go_ret
    exact ⟨rfl, HB.out⟩
end Go.Proofs.YtoopaeahhbkncabDoor
