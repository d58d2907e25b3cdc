/- FeedCloses' walk. -/
import Derived.Test.YtkamambgpcdonaaFE3
import Derived.Test.YtkamambgpcdonaaFO1
namespace Go.Proofs.Ytkamambgpcdonaa
open Go.RowKit Go.Conc

theorem hid_exc {α : Type} (a : α) : ∃ x, Hid (x = a) := ⟨a, rfl⟩
/-- A feed one of whose rows is empty. -/
def FdR (w : World) (base : Nat) (p : Value) (n : Nat) (u : Bool) (T : List Int) (cl : Bool) : Prop := Fd w base p n (if u = true then T else []) (if u = true then [] else T) cl
theorem FdR.below {w w' : World} {base n : Nat} {p : Value} {u : Bool} {T : List Int} {cl : Bool} (h : FdR w base p n u T cl) (hb : Below w.heap.size w w') : FdR w' base p n u T cl := Fd.below h hb
theorem putR_room (v : Int) (u : Bool) (w : World) {base n : Nat} {p : Value} {T : List Int} (h : FdR w base p n u T false) (hl : T.length < n) :
    Calls Try.prog 10 #[p, .int .i64 v, .bool u] w fun e w' => e = .returned (.int .i64 0) ∧ FdR w' base p n u (T ++ [v]) false ∧ Below base w w' := by
  refine (put_any v u w h).mono ?_
  rintro e w' ⟨rfl, hf, hb⟩
  cases u with
  | true => exact ⟨by simp [puE, hl], by simpa [FdR, puU, puO, hl] using hf, hb⟩
  | false => exact ⟨by simp [puE, hl], by simpa [FdR, puU, puO, hl] using hf, hb⟩
theorem putR_full (v : Int) (u : Bool) (w : World) {base n : Nat} {p : Value} {T : List Int} (h : FdR w base p n u T false) (hl : ¬ T.length < n) :
    Calls Try.prog 10 #[p, .int .i64 v, .bool u] w fun e w' => e = .returned (.int .i64 5) ∧ FdR w' base p n u T false ∧ Below base w w' := by
  refine (put_any v u w h).mono ?_
  rintro e w' ⟨rfl, hf, hb⟩
  cases u with
  | true => exact ⟨by simp [puE, hl], by simpa [FdR, puU, puO, hl] using hf, hb⟩
  | false => exact ⟨by simp [puE, hl], by simpa [FdR, puU, puO, hl] using hf, hb⟩
theorem putR_shut (v : Int) (u : Bool) (w : World) {base n : Nat} {p : Value} {T : List Int} (h : FdR w base p n u T true) :
    Calls Try.prog 10 #[p, .int .i64 v, .bool u] w fun e w' => e = .returned (.int .i64 113) ∧ FdR w' base p n u T true ∧ Below base w w' := by
  refine (put_any v u w h).mono ?_
  rintro e w' ⟨rfl, hf, hb⟩
  exact ⟨by simp [puE], by simpa [FdR, puU, puO] using hf, hb⟩
theorem takeR_some (w : World) {base n : Nat} {p : Value} {u : Bool} {x : Int} {T : List Int} {cl : Bool} (h : FdR w base p n u (x :: T) cl) :
    Calls Try.prog 12 #[p] w fun e w' => e = .returned (.tuple #[.int .i64 x, .bool u, .int .i64 0]) ∧ FdR w' base p n u T cl ∧ Below base w w' := by
  refine (take_any w h).mono ?_
  rintro e w' ⟨rfl, hf, hb⟩
  cases u with
  | true => exact ⟨rfl, hf, hb⟩
  | false => exact ⟨rfl, hf, hb⟩
theorem takeR_none (w : World) {base n : Nat} {p : Value} {u : Bool} {cl : Bool} (h : FdR w base p n u [] cl) :
    Calls Try.prog 12 #[p] w fun e w' => e = .returned (.tuple #[.int .i64 0, .bool false, .int .i64 4]) ∧ FdR w' base p n u [] cl ∧ Below base w w' := by
  refine (take_any w h).mono ?_
  rintro e w' ⟨rfl, hf, hb⟩
  cases u with
  | true => exact ⟨rfl, hf, hb⟩
  | false => exact ⟨rfl, hf, hb⟩
theorem take_snocI (l : List Int) (k : Nat) (h : k < l.length) : l.take (k + 1) = l.take k ++ [l[k]] := by rw [List.take_succ_eq_append_getElem h]
theorem drop_consI (l : List Int) (k : Nat) (h : k < l.length) : l.drop k = l[k] :: l.drop (k + 1) := by rw [List.drop_eq_getElem_cons h]
theorem Reads.ptr {w : World} {a : Option Addr} {n cap : Nat} {l : List Int} (h : Reads w (.slice a n cap) l) (h0 : 0 < l.length) : ∃ b off, a = some ⟨b, off, none⟩ ∧ b < w.heap.size ∧ ∀ j (h : j < l.length), w.cell? ⟨b, off + j, none⟩ = some (.int .i64 l[j]) := by
  rcases h with ⟨rfl, _⟩ | ⟨b, off, cap, hv, h2, h3, h4, h5, h6⟩
  · simp at h0
  · simp at hv
    obtain ⟨rfl, rfl, rfl⟩ := hv
    exact ⟨b, off, rfl, h5, h6⟩
set_option maxRecDepth 100000 in
set_option maxHeartbeats 4000000 in
theorem feedCloses_walk (x : Int) (vl : Value) (l : List Int) (u : Bool) (v : Int) (w : World) (hR : Reads w vl l) : Calls Try.prog 7 #[.int .i64 x, vl, .bool u, .int .i64 v] w fun e w' => e = .returned (.bool true) ∧ Below w.heap.size w w' := by
  have HR : Hid (Reads w vl l) := hR
  obtain ⟨a, cap, rfl, hl2⟩ := hR.form
  clear hR
  unfold maxLen at hl2
  by_cases hx : x < 1 ∨ 64 < x
  · go_enter Try.func7, Try.ntmps7
    go_wp2_with fail
    refine (fault_new _ _ hx).mono ?_
    rintro e w' ⟨rfl, rfl⟩
    clear hx
    go_wp2_with fail
    refine (alive_any _).mono ?_
    rintro e w2 ⟨rfl, hb2⟩
    go_wp2_with fail
    go_ret
    exact ⟨rfl, hb2⟩
  · obtain ⟨n, rfl⟩ : ∃ n : Nat, x = (n : Int) := ⟨x.toNat, by omega⟩
    have h1 : 1 ≤ n := by omega
    have h64 : n ≤ 64 := by omega
    clear hx
    go_enter Try.func7, Try.ntmps7
    go_wp2_with fail
    refine (new_any n _ h1 h64).mono ?_
    rintro e w1 ⟨p, rfl, hf, hb⟩
    obtain ⟨g, rfl⟩ := hf.ptr
    have HF : Hid (FdR w1 w.heap.size (.pointer (some ⟨g, 0, none⟩)) n u [] false) := by unfold Hid FdR; cases u <;> exact hf
    have HB1 := (show Hid _ from hb)
    clear hf hb
    go_wp2_with fail
    go_loopw [11, 12] (fun c i wr => ∃ k m : Nat, k ≤ l.length ∧ k ≤ 100 ∧ m ≤ k ∧ m ≤ n ∧ (m < k → m = n) ∧ c = .int .i64 (m : Int) ∧ i = .int .i64 (k : Int) ∧ Hid (FdR wr w.heap.size (.pointer (some ⟨g, 0, none⟩)) n u (l.take m) false) ∧ Hid (Below w.heap.size w wr)) (fun _ i _ => l.length - (intOf i).toNat)
    case atStart => exact ⟨0, 0, by omega, by omega, by omega, by omega, by omega, rfl, rfl, HF.out, HB1.out⟩
    case round =>
      obtain ⟨k, m, hk, hk1, hmk, hmn, hmm, rfl, rfl, HFr, HBr⟩ := hrel
      by_cases hlt : k < l.length ∧ k < 100
      · obtain ⟨hlt, h300⟩ := hlt
        have h300' : (k : Int) < 100 := by omega
        obtain ⟨b, off, rfl, hbb, hc⟩ := (HR.out.below HBr.out).ptr (by omega)
        have ck := hc k hlt
        have HC : Hid (m < n → m = k) := fun h => by omega
        obtain ⟨T, HT⟩ := hid_exc (l.take m)
        have hTl : T.length = m := by rw [HT.out]; simp; omega
        have HTl := (show Hid _ from hTl)
        rw [← HT.out] at HFr
        have HM := (show Hid _ from hmm)
        clear hc hTl hmm
        obtain ⟨y, Hy⟩ := hid_exc (l[k]'hlt)
        rw [← Hy.out] at ck
        by_cases hroom : m < n
        · go_wp2_with fail
          refine (putR_room y u _ HFr.out (by rw [HTl.out]; exact hroom)).mono ?_
          rintro e w3 ⟨rfl, hf3, hb3⟩
          have HF3 : Hid (FdR w3 w.heap.size (.pointer (some ⟨g, 0, none⟩)) n u (T ++ [y]) false) := hf3
          have HB3 : Hid (Below w.heap.size w w3) := HBr.out.trans hb3
          clear hf3 hb3 ck
          go_wp2_with fail
          go_roundw
          case rel =>
            have hmk2 : m = k := HC.out hroom
            refine ⟨k + 1, m + 1, by omega, by omega, by omega, by omega, by omega, by go_num, by go_num, ?_, HB3.out⟩
            unfold Hid
            subst hmk2
            rw [take_snocI l m hlt, ← HT.out, ← Hy.out]
            exact HF3.out
          case measure => simp [intOf]; omega
        · go_wp2_with fail
          refine (putR_full y u _ HFr.out (by rw [HTl.out]; exact hroom)).mono ?_
          rintro e w3 ⟨rfl, hf3, hb3⟩
          have HF3 : Hid (FdR w3 w.heap.size (.pointer (some ⟨g, 0, none⟩)) n u T false) := hf3
          have HB3 : Hid (Below w.heap.size w w3) := HBr.out.trans hb3
          clear hf3 hb3 ck
          go_wp2_with fail
          go_roundw
          case rel => exact ⟨k + 1, m, by omega, by omega, by omega, by omega, by omega, rfl, by go_num, by rw [← HT.out]; exact HF3.out, HB3.out⟩
          case measure => simp [intOf]; omega
      · have hml : m ≤ l.length := by omega
        have hm100 : m ≤ 100 := by omega
        obtain ⟨T, HT⟩ := hid_exc (l.take m)
        have HTl : Hid (T.length = m) := by unfold Hid; rw [HT.out]; simp; omega
        rw [← HT.out] at HFr
        clear hmm
        have hend : (k < l.length ∧ ¬ (k : Int) < 100) ∨ ¬ k < l.length := by omega
        clear hlt
        rcases hend with ⟨hlt, h100⟩ | hlt
        all_goals
          go_wp2_with fail
          refine (close_any _ HFr.out).mono ?_
          rintro e w3 ⟨rfl, hf3, hb3⟩
          have HF3 : Hid (FdR w3 w.heap.size (.pointer (some ⟨g, 0, none⟩)) n u T true) := hf3
          have HB3 : Hid (Below w.heap.size w w3) := HBr.out.trans hb3
          clear hf3 hb3
          simp only [clE, Bool.false_eq_true, if_false]
          go_wp2_with fail
          refine (putR_shut v u _ HF3.out).mono ?_
          rintro e w4 ⟨rfl, hf3, hb3⟩
          have HF4 : Hid (FdR w4 w.heap.size (.pointer (some ⟨g, 0, none⟩)) n u T true) := hf3
          have HB4 : Hid (Below w.heap.size w w4) := HB3.out.trans hb3
          clear hf3 hb3
          go_wp2_with fail
          refine (close_any _ HF4.out).mono ?_
          rintro e w5 ⟨rfl, hf3, hb3⟩
          have HF5 : Hid (FdR w5 w.heap.size (.pointer (some ⟨g, 0, none⟩)) n u T true) := hf3
          have HB5 : Hid (Below w.heap.size w w5) := HB4.out.trans hb3
          clear hf3 hb3 HF3 HF4 HFr HB3 HB4
          simp only [clE, if_true]
          go_wp2_with fail
          go_loopw [13] (fun i wq => ∃ j : Nat, j ≤ m ∧ i = .int .i64 (j : Int) ∧ Hid (FdR wq w.heap.size (.pointer (some ⟨g, 0, none⟩)) n u (T.drop j) true) ∧ Hid (Below w.heap.size w wq)) (fun i _ => m - (intOf i).toNat)
          case atStart => exact ⟨0, by omega, rfl, HF5.out, HB5.out⟩
          case round =>
            obtain ⟨j, hj, rfl, HFq, HBq⟩ := hrel
            by_cases hjm : j < m
            · obtain ⟨b, off, rfl, hbb, hc⟩ := (HR.out.below HBq.out).ptr (by omega)
              have ck := hc j (by omega)
              have hjT : j < T.length := by rw [HTl.out]; exact hjm
              have HD : Hid (T.drop j = l[j]'(by omega) :: T.drop (j + 1)) := by
                unfold Hid
                rw [drop_consI T j hjT]
                congr 1
                simp [HT.out]
              clear hc hjT
              obtain ⟨y, Hy⟩ := hid_exc (l[j]'(by omega))
              rw [← Hy.out] at ck
              rw [← Hy.out] at HD
              rw [HD.out] at HFq
              go_wp2_with fail
              refine (takeR_some _ HFq.out).mono ?_
              rintro e w6 ⟨rfl, hf3, hb3⟩
              have HF6 : Hid (FdR w6 w.heap.size (.pointer (some ⟨g, 0, none⟩)) n u (T.drop (j + 1)) true) := hf3
              have HB6 : Hid (Below w.heap.size w w6) := HBq.out.trans hb3
              have ck6 : w6.cell? ⟨b, off + j, none⟩ = some (.int .i64 y) := by
                have := hb3
                obtain ⟨b', off', e', hbb', hc'⟩ := (HR.out.below HB6.out).ptr (by omega)
                simp at e'
                obtain ⟨rfl, rfl⟩ := e'
                rw [Hy.out]
                exact hc' j (by omega)
              clear hf3 hb3 ck
              go_wp2_with fail
              go_roundw
              case rel => exact ⟨j + 1, by omega, by go_num, HF6.out, HB6.out⟩
              case measure => simp [intOf]; omega
            · have HD : Hid (T.drop j = []) := by unfold Hid; rw [List.drop_eq_nil_of_le (by rw [HTl.out]; omega)]
              rw [HD.out] at HFq
              go_wp2_with fail
              refine (takeR_none _ HFq.out).mono ?_
              rintro e w6 ⟨rfl, hf3, hb3⟩
              have HB6 : Hid (Below w.heap.size w w6) := HBq.out.trans hb3
              clear hf3 hb3
              go_wp2_with fail
              refine (alive_any _).mono ?_
              rintro e w7 ⟨rfl, hb2⟩
              have HB7 : Hid (Below w.heap.size w w7) := HB6.out.trans (hb2.mono HB6.out.size)
              clear hb2
              go_wp2_with fail
              go_ret
              exact ⟨rfl, HB7.out⟩
end Go.Proofs.Ytkamambgpcdonaa
