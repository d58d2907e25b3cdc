/- The contract of the list's from: what the function that is ranged over hands over. -/
import Derived.Test.YtbeemkcdpmbhmaaS11
import Derived.Test.YtbeemkcdpmbhmaaFX
import Derived.RangeFuncNested
import Derived.RangeFuncBound
import Derived.RangeFuncCalls
import Derived.RangeFuncBox
import Derived.Shelf.Abstract
import Derived.Shelf.RegionOpen
import Derived.WalkKit
import Derived.OwnWalkIn
import Derived.TacticsInMore
import Derived.LoopNIn
import Derived.LoopIn
import Derived.RegionIn
namespace Go.Proofs.Ytbeemkcdpmbhmaa
open Go.RowKit Go.Shelf
attribute [local go_sem] Oper.semAt_some

def encN (x : Nd) : Array Value := #[env x.kv x.a]
def PreN (N : List Nd) (i : Nat) (pre : List Nd) (x : Nd) (_ : World) : Prop := ∃ h : i + pre.length < N.length, x = N[i + pre.length] ∧ pre = (N.drop i).take pre.length
def mes (L0 : Nat) (N : List Nd) : Value → Nat
  | .pointer none => 0
  | v => N.length + 1 - pIdx L0 N v
theorem take_dr {N : List Nd} {i m : Nat} (h : i + m < N.length) : (N.drop i).take (m + 1) = (N.drop i).take m ++ [N[i + m]] := by
  rw [List.take_add_one, List.getElem?_drop, List.getElem?_eq_getElem h]; rfl
set_option maxRecDepth 100000 in
set_option maxHeartbeats 2000000 in
theorem from1_in (n : Nat) (_hn : 1 ≤ n) (l Bl Bk L0 : Nat) (N : List Nd) (sz : Int) (fr : Bool) (kv : Value) (key : Ks) (w0 : World) (base : Nat) (hS : SL w0 base L0 N sz fr) (hR : Reads w0 kv key) (J Jx : List Nd → World → Prop) (W : World) (hW : Below w0.heap.size w0 W)
    (hJ : ∀ pre A B, J pre A → Below A.heap.size A B → J pre B)
    (hY : ∀ pre x W1, J pre W1 → PreN N (plK (N.map Nd.k) key) pre x W1 → w0.heap.size ≤ W1.heap.size → YieldAt Fence.wide (n - 1) Try.prog l (encN x) W1 fun e W' => (e = .returned (.bool true) ∧ J (pre ++ [x]) W' ∧ Below w0.heap.size W1 W') ∨ (e = .returned (.bool false) ∧ Jx (pre ++ [x]) W'))
    (hBl : W.cell? ⟨Bl, 0, none⟩ = some (.pointer (some ⟨L0, 0, none⟩))) (hBk : W.cell? ⟨Bk, 0, none⟩ = some kv) (h0 : J [] W) :
    CallsIn Fence.wide n Try.prog 38 #[.func (.yield l) #[] #[], .pointer (some ⟨Bl, 0, none⟩), .pointer (some ⟨Bk, 0, none⟩)] W fun e W' => (∃ v, e = .returned v) ∧ (J (N.drop (plK (N.map Nd.k) key)) W' ∨ ∃ xs, (∃ m, xs = (N.drop (plK (N.map Nd.k) key)).take m) ∧ Jx xs W') := by
  have hag := hS.2
  obtain ⟨i, Hi⟩ := hid_ex (plK (N.map Nd.k) key)
  have hiN : i ≤ N.length := by rw [Hi.out]; have := plK_le (N.map Nd.k) key; simpa using this
  rw [← Hi.out] at hY ⊢
  have HBR : Hid _ := before_any L0 N sz fr kv key W base (hS.below hW) (hR.below hW)
  rw [← Hi.out] at HBR
  obtain ⟨g, Hg⟩ := hid_ex (fun j => blk L0 N (bp N j i))
  have HEG : Hid ((fun j => (.pointer (some ⟨blk L0 N (bp N j i), 0, none⟩) : Value)) = fun j => .pointer (some ⟨g j, 0, none⟩)) := by rw [Hg.out]; rfl
  have HG0 : Hid (g 0 = blk L0 N i) := by rw [Hg.out]; unfold Hid; dsimp only; rw [bp_zero hag.ht hiN]
  rw [HEG.out] at HBR
  obtain ⟨ak, ck, rfl, _⟩ := hR.form
  have HS : Hid (SL w0 base L0 N sz fr) := hS
  have HW : Hid (Below w0.heap.size w0 W) := hW
  have HJ : Hid (∀ pre A B, J pre A → Below A.heap.size A B → J pre B) := hJ
  have HY : Hid (∀ pre x W1, J pre W1 → PreN N i pre x W1 → w0.heap.size ≤ W1.heap.size → YieldAt Fence.wide (n - 1) Try.prog l (encN x) W1 fun e W' => (e = .returned (.bool true) ∧ J (pre ++ [x]) W' ∧ Below w0.heap.size W1 W') ∨ (e = .returned (.bool false) ∧ Jx (pre ++ [x]) W')) := hY
  clear hS hR hW hJ hY hag
  refine callsIn_of_wp Try.func38 rfl trivial ?_ rfl
  simp only [Try.ntmps38, List.size_toArray, List.length_cons, List.length_nil, Nat.reduceAdd, Nat.reduceSub, Array.replicate_succ, Array.replicate_zero, List.push_toArray, List.append_toArray, List.nil_append, List.cons_append]
  gi_wp2_with fail
  refine ⟨trivial, ?_⟩
  refine (callsIn_wide.2 HBR.out).mono ?_
  rintro e w1 ⟨rfl, hb1⟩
  have HB1 : Hid (Below w0.heap.size w0 w1) := HW.out.trans (hb1.mono HW.out.size)
  have hJ1 : J [] w1 := HJ.out [] _ _ h0 hb1
  have hix : (Instr.index 52 (.agg (ar8 fun j => .pointer (some ⟨g j, 0, none⟩))) (.int .i64 0)).run Try.prog w1 = .ok (.pointer (some ⟨g 0, 0, none⟩)) w1 := idx8 _ 0 (by decide) w1
  obtain ⟨cN, _, hbl⟩ := HS.out.1.blk_hd (p := i) hiN (k := 0) (by decide)
  have cN2 := (HB1.out.cell (p := ⟨blk L0 N i, 7 + 0, none⟩) hbl).trans cN
  rw [← HG0.out] at cN2
  obtain ⟨pn, hpn⟩ : ∃ pn, nxF N i 0 = .pointer pn := by unfold nxF nxt; split <;> exact ⟨_, rfl⟩
  rw [hpn] at cN2
  have HPN : Hid (nxF N i 0 = .pointer pn) := hpn
  clear hb1 cN hpn HBR
  gi_wp2_with fail
  gi_loopw [4] (fun v wr => ∃ m : Nat, i + m ≤ N.length ∧ Hid (nxF N (i + m) 0 = v) ∧ J ((N.drop i).take m) wr ∧ Hid (Below w0.heap.size w0 wr)) (fun v _ => mes L0 N v)
  case atStart => exact ⟨0, hiN, HPN, hJ1, HB1⟩
  case round =>
    clear cN2 hix HB1 HPN hJ1
    obtain ⟨m, hm, HV, hJm, HB⟩ := hrel
    have hnz := nxF_zero HS.out.2.ht hm
    by_cases hlt : i + m < N.length
    · rw [dif_pos hlt] at hnz
      obtain ⟨x, Hx⟩ := hid_ex N[i + m]
      rw [← Hx.out] at hnz
      have hv := HV.out
      rw [hnz] at hv
      subst hv
      have hn := HS.out.1.nd (i + m) hlt
      rw [← Hx.out] at hn
      have hbn := (Array.getElem?_eq_some_iff.1 hn).1
      have HN1 : Hid (wr.heap[x.b]? = some (.cells (ndc x.kv x.a (nxF N (i + m + 1))) 55)) := (HB.out.block _ hbn).trans hn
      have HN0 : Hid (w0.heap[x.b]? = some (.cells (ndc x.kv x.a (nxF N (i + m + 1))) 55)) := hn
      obtain ⟨a0, _⟩ := cell_row HN1.out 0 (by simp [ndc])
      obtain ⟨a1, _⟩ := cell_row HN1.out 1 (by simp [ndc])
      obtain ⟨a2, _⟩ := cell_row HN1.out 2 (by simp [ndc])
      obtain ⟨a3, _⟩ := cell_row HN1.out 3 (by simp [ndc])
      obtain ⟨a4, _⟩ := cell_row HN1.out 4 (by simp [ndc])
      obtain ⟨a5, _⟩ := cell_row HN1.out 5 (by simp [ndc])
      obtain ⟨a6, _⟩ := cell_row HN1.out 6 (by simp [ndc])
      simp only [ndc, List.getElem_toArray, List.getElem_cons_succ, List.getElem_cons_zero] at a0 a1 a2 a3 a4 a5 a6
      have hlm : ((N.drop i).take m).length = m := by simp; omega
      obtain ⟨fn, tmps, assign, body, hy, hRd⟩ := HY.out _ x _ hJm ⟨by rw [hlm]; exact hlt, by simp only [hlm]; exact Hx.out, by rw [hlm]⟩ HB.out.size
      dsimp only [encN, env] at hy
      have HTK : Hid ((N.drop i).take m ++ [x] = (N.drop i).take (m + 1)) := by unfold Hid; rw [take_dr hlt, Hx.out]
      have HM1 : Hid (mes L0 N (.pointer (some ⟨x.b, 0, none⟩)) = N.length - (i + m)) := by
        have := pIdx_blk HS.out.1 (p := i + m + 1) (by omega)
        rw [blk_at hlt, ← Hx.out] at this
        unfold Hid mes
        simp only [this]; omega
      obtain ⟨pn, hpn⟩ : ∃ pn, nxF N (i + (m + 1)) 0 = .pointer pn := by unfold nxF nxt; split <;> exact ⟨_, rfl⟩
      have HPN : Hid (nxF N (i + (m + 1)) 0 = .pointer pn) := hpn
      have HM2 : Hid (mes L0 N (.pointer pn) < N.length - (i + m)) := by
        have h2 := nxF_zero HS.out.2.ht (show i + (m + 1) ≤ N.length by omega)
        rw [hpn] at h2
        by_cases hl2 : i + (m + 1) < N.length
        · rw [dif_pos hl2] at h2
          have := pIdx_blk HS.out.1 (p := i + (m + 1) + 1) (by omega)
          rw [blk_at hl2] at this
          rw [h2]
          unfold Hid mes
          simp only [this]; omega
        · rw [dif_neg hl2] at h2
          rw [h2]
          show 0 < _
          omega
      clear hn hnz HV hlm hpn
      gi_wp2
      refine hRd.mono ?_
      rintro e W3 (⟨rfl, hJ3, hk3⟩ | ⟨rfl, hX3⟩)
      · rw [HTK.out] at hJ3
        have HB3 : Hid (Below w0.heap.size w0 W3) := HB.out.trans hk3
        have HN3 : Hid (W3.heap[x.b]? = some (.cells (ndc x.kv x.a (nxF N (i + m + 1))) 55)) := (HB3.out.block _ hbn).trans HN0.out
        obtain ⟨a7, _⟩ := cell_row HN3.out 7 (by simp [ndc])
        simp only [ndc, List.getElem_toArray, List.getElem_cons_succ, List.getElem_cons_zero] at a7
        rw [Nat.add_assoc, HPN.out] at a7
        clear hy hRd hk3 a0 a1 a2 a3 a4 a5 a6
        gi_wp2
        go_roundw
        case rel => exact ⟨m + 1, by omega, HPN, hJ3, HB3⟩
        case measure => rw [HM1.out]; exact HM2.out
      · rw [HTK.out] at hX3
        clear hy hRd a0 a1 a2 a3 a4 a5 a6
        gi_wp2
        refine bodyPost_ret (results_none rfl _ _ _) rfl ?_
        exact ⟨⟨_, rfl⟩, .inr ⟨_, ⟨m + 1, rfl⟩, hX3⟩⟩
    · rw [dif_neg hlt] at hnz
      have hv := HV.out
      rw [hnz] at hv
      subst hv
      have hte : (N.drop i).take m = N.drop i := List.take_of_length_le (by simp; omega)
      rw [hte] at hJm
      clear hnz HV hte
      gi_wp2
      refine bodyPost_end (results_none rfl _ _ _) rfl ?_
      exact ⟨⟨_, rfl⟩, .inl hJm⟩
end Go.Proofs.Ytbeemkcdpmbhmaa
