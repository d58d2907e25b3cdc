/- A feed: Put, Take. -/
import Derived.Test.YtkamambgpcdonaaFE1
namespace Go.Proofs.Ytkamambgpcdonaa
open Go.RowKit Go.Conc

theorem put_nil (v : Int) (u : Bool) (w : World) : Calls Try.prog 10 #[.pointer none, .int .i64 v, .bool u] w fun e w' => e = .returned (.int .i64 6) ∧ w' = w := by
  go_enter Try.func10, Try.ntmps10
  go_wp2_with (go_at_call 18; refine (made_nil _).mono ?_; rintro e w' ⟨rfl, rfl⟩)
  go_ret
  exact ⟨rfl, rfl⟩
theorem put_zero (v : Int) (u : Bool) {g : Nat} (w : World) (h : w.cell? ⟨g, 0, none⟩ = some (.chan none)) : Calls Try.prog 10 #[.pointer (some ⟨g, 0, none⟩), .int .i64 v, .bool u] w fun e w' => e = .returned (.int .i64 6) ∧ w' = w := by
  go_enter Try.func10, Try.ntmps10
  go_wp2_with (go_at_call 18; refine (made_zero _ h).mono ?_; rintro e w' ⟨rfl, rfl⟩)
  go_ret
  exact ⟨rfl, rfl⟩
theorem put_shut (v : Int) (u : Bool) (w : World) {base g cu co su ru so ro n : Nat} {U O : List Int} (h : FdAt w base g cu co su ru so ro n U O true) :
    Calls Try.prog 10 #[.pointer (some ⟨g, 0, none⟩), .int .i64 v, .bool u] w fun e w' => e = .returned (.int .i64 113) ∧ w' = w := by
  have c0 := h.cell0
  have c2 := h.cell2
  clear h
  go_enter Try.func10, Try.ntmps10
  go_wp2_with (go_at_call 18; refine (made_some _ c0).mono ?_; rintro e w' ⟨rfl, rfl⟩)
  go_ret
  exact ⟨rfl, rfl⟩
theorem putU_room (v : Int) (w : World) {base g cu co su ru so ro n : Nat} {U O : List Int} (h : FdAt w base g cu co su ru so ro n U O false) (hl : U.length < n) :
    Calls Try.prog 10 #[.pointer (some ⟨g, 0, none⟩), .int .i64 v, .bool true] w fun e w' => e = .returned (.int .i64 0) ∧ w' = w.setChan cu n (bf (U ++ [v])) false (su + 1) ru false := by
  have c0 := h.cell0
  have c1 := h.cell1
  have c2 := h.cell2
  have hx := h.hu
  clear h
  go_enter Try.func10, Try.ntmps10
  refine wp_seq_k (fun K hK0 => ?_)
  have hK := (show Hid _ from hK0)
  clear hK0
  go_wp2
  refine hK.out _ _ ?_
  clear hK K
  refine wp_seq_k (fun K hK0 => ?_)
  have hK := (show Hid _ from hK0)
  clear hK0
  go_wp2_with (go_at_call 18; refine (made_some _ c0).mono ?_; rintro e w' ⟨rfl, rfl⟩)
  refine hK.out _ _ ?_
  clear hK K
  refine wp_seq_k (fun K hK0 => ?_)
  have hK := (show Hid _ from hK0)
  clear hK0
  go_wp2
  refine hK.out _ _ ?_
  clear hK K
  refine wp_seq_k (fun K hK0 => ?_)
  have hK := (show Hid _ from hK0)
  clear hK0
  go_wp2
  refine hK.out _ _ ?_
  clear hK K
  refine wp_seq_k (fun K hK0 => ?_)
  have hK := (show Hid _ from hK0)
  clear hK0
  go_wp2
  refine hK.out _ _ ?_
  clear hK K
  refine wp_seq_k (fun K hK0 => ?_)
  have hK := (show Hid _ from hK0)
  clear hK0
  go_wp2
  refine hK.out _ _ ?_
  clear hK K
  refine wp_seq_k (fun K hK0 => ?_)
  have hK := (show Hid _ from hK0)
  clear hK0
  refine wp_select_send_room (c := cu) (v := .int .i64 v) (z := .int .i64 0) (cap := n) (buf := bf U) (s := su) (r := ru) (tm := false) rfl (by simp [go_sem, execOp, scase, Act.eval]) hx (by rw [bf_size]; exact hl) ?_
  rw [bf_push]
  clear hx
  go_wp2
  refine hK.out _ _ ?_
  clear hK K
  go_wp2
  go_ret
  exact ⟨rfl, rfl⟩
theorem putU_full (v : Int) (w : World) {base g cu co su ru so ro n : Nat} {U O : List Int} (h : FdAt w base g cu co su ru so ro n U O false) (hl : n ≤ U.length) :
    Calls Try.prog 10 #[.pointer (some ⟨g, 0, none⟩), .int .i64 v, .bool true] w fun e w' => e = .returned (.int .i64 5) ∧ w' = w := by
  have c0 := h.cell0
  have c1 := h.cell1
  have c2 := h.cell2
  have hx := h.hu
  clear h
  go_enter Try.func10, Try.ntmps10
  refine wp_seq_k (fun K hK0 => ?_)
  have hK := (show Hid _ from hK0)
  clear hK0
  go_wp2
  refine hK.out _ _ ?_
  clear hK K
  refine wp_seq_k (fun K hK0 => ?_)
  have hK := (show Hid _ from hK0)
  clear hK0
  go_wp2_with (go_at_call 18; refine (made_some _ c0).mono ?_; rintro e w' ⟨rfl, rfl⟩)
  refine hK.out _ _ ?_
  clear hK K
  refine wp_seq_k (fun K hK0 => ?_)
  have hK := (show Hid _ from hK0)
  clear hK0
  go_wp2
  refine hK.out _ _ ?_
  clear hK K
  refine wp_seq_k (fun K hK0 => ?_)
  have hK := (show Hid _ from hK0)
  clear hK0
  go_wp2
  refine hK.out _ _ ?_
  clear hK K
  refine wp_seq_k (fun K hK0 => ?_)
  have hK := (show Hid _ from hK0)
  clear hK0
  go_wp2
  refine hK.out _ _ ?_
  clear hK K
  refine wp_seq_k (fun K hK0 => ?_)
  have hK := (show Hid _ from hK0)
  clear hK0
  go_wp2
  refine hK.out _ _ ?_
  clear hK K
  refine wp_seq_k (fun K hK0 => ?_)
  have hK := (show Hid _ from hK0)
  clear hK0
  refine wp_select_send_full (c := cu) (v := .int .i64 v) (z := .int .i64 0) (cap := n) (buf := bf U) (s := su) (r := ru) (tm := false) rfl (by simp [go_sem, execOp, scase, Act.eval]) hx (by rw [bf_size]; exact hl) ?_
  clear hx
  go_wp2
  refine hK.out _ _ ?_
  clear hK K
  go_wp2
  go_ret
  exact ⟨rfl, rfl⟩
theorem putO_room (v : Int) (w : World) {base g cu co su ru so ro n : Nat} {U O : List Int} (h : FdAt w base g cu co su ru so ro n U O false) (hl : O.length < n) :
    Calls Try.prog 10 #[.pointer (some ⟨g, 0, none⟩), .int .i64 v, .bool false] w fun e w' => e = .returned (.int .i64 0) ∧ w' = w.setChan co n (bf (O ++ [v])) false (so + 1) ro false := by
  have c0 := h.cell0
  have c1 := h.cell1
  have c2 := h.cell2
  have hx := h.ho
  clear h
  go_enter Try.func10, Try.ntmps10
  refine wp_seq_k (fun K hK0 => ?_)
  have hK := (show Hid _ from hK0)
  clear hK0
  go_wp2
  refine hK.out _ _ ?_
  clear hK K
  refine wp_seq_k (fun K hK0 => ?_)
  have hK := (show Hid _ from hK0)
  clear hK0
  go_wp2_with (go_at_call 18; refine (made_some _ c0).mono ?_; rintro e w' ⟨rfl, rfl⟩)
  refine hK.out _ _ ?_
  clear hK K
  refine wp_seq_k (fun K hK0 => ?_)
  have hK := (show Hid _ from hK0)
  clear hK0
  go_wp2
  refine hK.out _ _ ?_
  clear hK K
  refine wp_seq_k (fun K hK0 => ?_)
  have hK := (show Hid _ from hK0)
  clear hK0
  go_wp2
  refine hK.out _ _ ?_
  clear hK K
  refine wp_seq_k (fun K hK0 => ?_)
  have hK := (show Hid _ from hK0)
  clear hK0
  go_wp2
  refine hK.out _ _ ?_
  clear hK K
  refine wp_seq_k (fun K hK0 => ?_)
  have hK := (show Hid _ from hK0)
  clear hK0
  go_wp2
  refine hK.out _ _ ?_
  clear hK K
  refine wp_seq_k (fun K hK0 => ?_)
  have hK := (show Hid _ from hK0)
  clear hK0
  refine wp_select_send_room (c := co) (v := .int .i64 v) (z := .int .i64 0) (cap := n) (buf := bf O) (s := so) (r := ro) (tm := false) rfl (by simp [go_sem, execOp, scase, Act.eval]) hx (by rw [bf_size]; exact hl) ?_
  rw [bf_push]
  clear hx
  go_wp2
  refine hK.out _ _ ?_
  clear hK K
  go_wp2
  go_ret
  exact ⟨rfl, rfl⟩
theorem putO_full (v : Int) (w : World) {base g cu co su ru so ro n : Nat} {U O : List Int} (h : FdAt w base g cu co su ru so ro n U O false) (hl : n ≤ O.length) :
    Calls Try.prog 10 #[.pointer (some ⟨g, 0, none⟩), .int .i64 v, .bool false] w fun e w' => e = .returned (.int .i64 5) ∧ w' = w := by
  have c0 := h.cell0
  have c1 := h.cell1
  have c2 := h.cell2
  have hx := h.ho
  clear h
  go_enter Try.func10, Try.ntmps10
  refine wp_seq_k (fun K hK0 => ?_)
  have hK := (show Hid _ from hK0)
  clear hK0
  go_wp2
  refine hK.out _ _ ?_
  clear hK K
  refine wp_seq_k (fun K hK0 => ?_)
  have hK := (show Hid _ from hK0)
  clear hK0
  go_wp2_with (go_at_call 18; refine (made_some _ c0).mono ?_; rintro e w' ⟨rfl, rfl⟩)
  refine hK.out _ _ ?_
  clear hK K
  refine wp_seq_k (fun K hK0 => ?_)
  have hK := (show Hid _ from hK0)
  clear hK0
  go_wp2
  refine hK.out _ _ ?_
  clear hK K
  refine wp_seq_k (fun K hK0 => ?_)
  have hK := (show Hid _ from hK0)
  clear hK0
  go_wp2
  refine hK.out _ _ ?_
  clear hK K
  refine wp_seq_k (fun K hK0 => ?_)
  have hK := (show Hid _ from hK0)
  clear hK0
  go_wp2
  refine hK.out _ _ ?_
  clear hK K
  refine wp_seq_k (fun K hK0 => ?_)
  have hK := (show Hid _ from hK0)
  clear hK0
  go_wp2
  refine hK.out _ _ ?_
  clear hK K
  refine wp_seq_k (fun K hK0 => ?_)
  have hK := (show Hid _ from hK0)
  clear hK0
  refine wp_select_send_full (c := co) (v := .int .i64 v) (z := .int .i64 0) (cap := n) (buf := bf O) (s := so) (r := ro) (tm := false) rfl (by simp [go_sem, execOp, scase, Act.eval]) hx (by rw [bf_size]; exact hl) ?_
  clear hx
  go_wp2
  refine hK.out _ _ ?_
  clear hK K
  go_wp2
  go_ret
  exact ⟨rfl, rfl⟩
theorem take_nil (w : World) : Calls Try.prog 12 #[.pointer none] w fun e w' => e = .returned (.tuple #[.int .i64 0, .bool false, .int .i64 6]) ∧ w' = w := by
  go_enter Try.func12, Try.ntmps12
  go_wp2_with (go_at_call 18; refine (made_nil _).mono ?_; rintro e w' ⟨rfl, rfl⟩)
  go_ret3
  exact ⟨rfl, rfl⟩
theorem take_zero {g : Nat} (w : World) (h : w.cell? ⟨g, 0, none⟩ = some (.chan none)) : Calls Try.prog 12 #[.pointer (some ⟨g, 0, none⟩)] w fun e w' => e = .returned (.tuple #[.int .i64 0, .bool false, .int .i64 6]) ∧ w' = w := by
  go_enter Try.func12, Try.ntmps12
  go_wp2_with (go_at_call 18; refine (made_zero _ h).mono ?_; rintro e w' ⟨rfl, rfl⟩)
  go_ret3
  exact ⟨rfl, rfl⟩
theorem takeU (x : Int) (w : World) {base g cu co su ru so ro n : Nat} {U O : List Int} {cl : Bool} (h : FdAt w base g cu co su ru so ro n (x :: U) O cl) :
    Calls Try.prog 12 #[.pointer (some ⟨g, 0, none⟩)] w fun e w' => e = .returned (.tuple #[.int .i64 x, .bool true, .int .i64 0]) ∧ w' = w.setChan cu n (bf U) false su (ru + 1) false := by
  have c0 := h.cell0
  have hx := h.hu
  clear h
  go_enter Try.func12, Try.ntmps12
  refine wp_seq_k (fun K hK0 => ?_)
  have hK := (show Hid _ from hK0)
  clear hK0
  go_wp2
  refine hK.out _ _ ?_
  clear hK K
  refine wp_seq_k (fun K hK0 => ?_)
  have hK := (show Hid _ from hK0)
  clear hK0
  go_wp2_with (go_at_call 18; refine (made_some _ c0).mono ?_; rintro e w' ⟨rfl, rfl⟩)
  refine hK.out _ _ ?_
  clear hK K
  refine wp_seq_k (fun K hK0 => ?_)
  have hK := (show Hid _ from hK0)
  clear hK0
  refine wp_seq_k (fun K2 hK20 => ?_)
  have hK2 := (show Hid _ from hK20)
  clear hK20
  go_wp2
  refine hK2.out _ _ ?_
  clear hK2 K2
  refine wp_seq_k (fun K2 hK20 => ?_)
  have hK2 := (show Hid _ from hK20)
  clear hK20
  refine wp_select_recv_buf (c := cu) (z := .int .i64 0) (cap := n) (buf := bf (x :: U)) (closed := false) (s := su) (r := ru) (tm := false) rfl (by simp [go_sem, execOp, rcase, Act.eval]) hx (by rw [bf_size]; simp) ?_
  rw [bf_tail, bf_head]
  clear hx
  go_wp2
  refine hK2.out _ _ ?_
  clear hK2 K2
  go_wp2
  go_ret3
  exact ⟨rfl, rfl⟩
theorem takeO (x : Int) (w : World) {base g cu co su ru so ro n : Nat} {O : List Int} {cl : Bool} (h : FdAt w base g cu co su ru so ro n [] (x :: O) cl) :
    Calls Try.prog 12 #[.pointer (some ⟨g, 0, none⟩)] w fun e w' => e = .returned (.tuple #[.int .i64 x, .bool false, .int .i64 0]) ∧ w' = w.setChan co n (bf O) false so (ro + 1) false := by
  have c0 := h.cell0
  have c1 := h.cell1
  have hx := h.hu
  have hy := h.ho
  clear h
  go_enter Try.func12, Try.ntmps12
  refine wp_seq_k (fun K hK0 => ?_)
  have hK := (show Hid _ from hK0)
  clear hK0
  go_wp2
  refine hK.out _ _ ?_
  clear hK K
  refine wp_seq_k (fun K hK0 => ?_)
  have hK := (show Hid _ from hK0)
  clear hK0
  go_wp2_with (go_at_call 18; refine (made_some _ c0).mono ?_; rintro e w' ⟨rfl, rfl⟩)
  refine hK.out _ _ ?_
  clear hK K
  refine wp_seq_k (fun K hK0 => ?_)
  have hK := (show Hid _ from hK0)
  clear hK0
  refine wp_seq_k (fun K2 hK20 => ?_)
  have hK2 := (show Hid _ from hK20)
  clear hK20
  go_wp2
  refine hK2.out _ _ ?_
  clear hK2 K2
  refine wp_seq_k (fun K2 hK20 => ?_)
  have hK2 := (show Hid _ from hK20)
  clear hK20
  refine wp_select_recv_none (c := cu) (z := .int .i64 0) (cap := n) (s := su) (r := ru) (tm := false) rfl (by simp [go_sem, execOp, rcase, Act.eval]) hx ?_
  clear hx
  go_wp2
  refine hK2.out _ _ ?_
  clear hK2 K2
  go_wp2
  refine hK.out _ _ ?_
  clear hK K
  refine wp_seq_k (fun K hK0 => ?_)
  have hK := (show Hid _ from hK0)
  clear hK0
  go_wp2
  refine hK.out _ _ ?_
  clear hK K
  refine wp_seq_k (fun K hK0 => ?_)
  have hK := (show Hid _ from hK0)
  clear hK0
  refine wp_select_recv_buf (c := co) (z := .int .i64 0) (cap := n) (buf := bf (x :: O)) (closed := false) (s := so) (r := ro) (tm := false) rfl (by simp [go_sem, execOp, rcase, Act.eval]) hy (by rw [bf_size]; simp) ?_
  rw [bf_tail, bf_head]
  clear hy
  go_wp2
  refine hK.out _ _ ?_
  clear hK K
  go_wp2
  go_ret3
  exact ⟨rfl, rfl⟩
theorem take_none (w : World) {base g cu co su ru so ro n : Nat} {cl : Bool} (h : FdAt w base g cu co su ru so ro n [] [] cl) :
    Calls Try.prog 12 #[.pointer (some ⟨g, 0, none⟩)] w fun e w' => e = .returned (.tuple #[.int .i64 0, .bool false, .int .i64 4]) ∧ w' = w := by
  have c0 := h.cell0
  have c1 := h.cell1
  have hx := h.hu
  have hy := h.ho
  clear h
  go_enter Try.func12, Try.ntmps12
  refine wp_seq_k (fun K hK0 => ?_)
  have hK := (show Hid _ from hK0)
  clear hK0
  go_wp2
  refine hK.out _ _ ?_
  clear hK K
  refine wp_seq_k (fun K hK0 => ?_)
  have hK := (show Hid _ from hK0)
  clear hK0
  go_wp2_with (go_at_call 18; refine (made_some _ c0).mono ?_; rintro e w' ⟨rfl, rfl⟩)
  refine hK.out _ _ ?_
  clear hK K
  refine wp_seq_k (fun K hK0 => ?_)
  have hK := (show Hid _ from hK0)
  clear hK0
  refine wp_seq_k (fun K2 hK20 => ?_)
  have hK2 := (show Hid _ from hK20)
  clear hK20
  go_wp2
  refine hK2.out _ _ ?_
  clear hK2 K2
  refine wp_seq_k (fun K2 hK20 => ?_)
  have hK2 := (show Hid _ from hK20)
  clear hK20
  refine wp_select_recv_none (c := cu) (z := .int .i64 0) (cap := n) (s := su) (r := ru) (tm := false) rfl (by simp [go_sem, execOp, rcase, Act.eval]) hx ?_
  clear hx
  go_wp2
  refine hK2.out _ _ ?_
  clear hK2 K2
  go_wp2
  refine hK.out _ _ ?_
  clear hK K
  refine wp_seq_k (fun K hK0 => ?_)
  have hK := (show Hid _ from hK0)
  clear hK0
  go_wp2
  refine hK.out _ _ ?_
  clear hK K
  refine wp_seq_k (fun K hK0 => ?_)
  have hK := (show Hid _ from hK0)
  clear hK0
  refine wp_select_recv_none (c := co) (z := .int .i64 0) (cap := n) (s := so) (r := ro) (tm := false) rfl (by simp [go_sem, execOp, rcase, Act.eval]) hy ?_
  clear hy
  go_wp2
  refine hK.out _ _ ?_
  clear hK K
  go_wp2
  go_ret3
  exact ⟨rfl, rfl⟩
end Go.Proofs.Ytkamambgpcdonaa
