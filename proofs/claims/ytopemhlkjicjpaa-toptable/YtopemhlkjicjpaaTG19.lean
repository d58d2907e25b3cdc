/- OP BK2 BK3 IX, joined. -/
import Derived.Test.YtopemhlkjicjpaaTG1
import Derived.Test.YtopemhlkjicjpaaTG9
import Derived.Test.YtopemhlkjicjpaaTG10
import Derived.Test.YtopemhlkjicjpaaTG18
import Derived.Deep.Slices
import Derived.ProofKit
import Derived.OpenShut
import Derived.Lib.SmallJoins
import Derived.BigQuiet
import Derived.Deep.QuietTactic
/- Pairs of a key and a value, as arguments. -/
namespace Go.Proofs.Ytopemhlkjicjpaa
open Go.ChangeShapes Go.WideShapes Go.ChangeAt Go.RowKit Go.Joins

set_option maxRecDepth 100000 in
theorem openB' {H : Type} {enc : TypeId × Value → H} {W : World} {base : Nat} {spare : Nat → Bool} {held : Bool} {cs : List Value} {x : DataW H × List MemPlace} {fuel : Nat}
    (hf : DataW.trod enc Try.prog W base spare held fuel 23 cs = some x) : ∃ v l, cs = [v] ∧ Reads W v l := by
  rcases open_ints Try.underlying23 Try.underlying5 (by kernel_rfl) hf with ⟨rfl, _⟩ | ⟨x, len, cap, zs, rfl, _, hl, hm, hz, _, hcell, hwz⟩
  · exact ⟨_, [], rfl, .inl ⟨rfl, _, _, rfl, fun _ => rfl⟩⟩
  · have hzl : len ≤ zs.length := by rw [hz]; split <;> omega
    rcases Nat.eq_zero_or_pos len with h0 | h0
    · subst h0; exact ⟨_, [], rfl, .inl ⟨rfl, _, _, rfl, fun h => by cases h⟩⟩
    · refine ⟨_, (zs.take len).map fun z => UInt8.ofNat z.toNat, rfl, .inr ?_⟩
      have hlen : ((zs.take len).map fun z => UInt8.ofNat z.toNat).length = len := by simp; omega
      have c0 := hcell 0 (by omega)
      have e0 : x.add 0 = x := by simp [Addr.add]
      rw [e0] at c0
      obtain ⟨hb, hs⟩ := cell_block c0
      obtain ⟨b, off, spot⟩ := x
      simp only at hb hs
      subst hs
      refine ⟨b, off, cap, by rw [hlen], by omega, by omega, hm, hb, fun j hj => ?_⟩
      have hj' : j < len := by omega
      have cj := hcell j (by omega)
      have ea : (⟨b, off, none⟩ : Addr).add j = ⟨b, off + j, none⟩ := by simp [Addr.add]
      rw [ea] at cj
      rw [cj]
      have hzj : j < zs.length := by omega
      have hg : zs.getD j 0 = zs[j] := by simp [List.getD, hzj]
      have hw := bounds_u8 (hwz zs[j] (List.getElem_mem hzj))
      rw [hg]
      have e1 : ((zs.take len).map fun z => UInt8.ofNat z.toNat)[j] = UInt8.ofNat (zs[j]).toNat := by simp
      rw [e1]
      unfold bc
      have e2 : (UInt8.ofNat (zs[j]).toNat).toNat = (zs[j]).toNat := by simp [UInt8.toNat_ofNat']; omega
      rw [e2]
      congr 2
      omega
/-- A slice reads these pairs (of either kind). -/
def PReads (w : World) (v : Value) (L : List Pr) : Prop :=
  ∃ a cap, v = .slice a L.length cap ∧ L.length ≤ cap ∧ cap ≤ maxLen ∧ (L = [] ∨ ∃ b off, a = some ⟨b, off, none⟩ ∧ b < w.heap.size ∧ ∀ j (hj : j < L.length), ∃ kv vv, w.cell? ⟨b, off + j * 2, none⟩ = some kv ∧ w.cell? ⟨b, off + j * 2 + 1, none⟩ = some vv ∧ Reads w kv L[j].1 ∧ Reads w vv L[j].2)
theorem PReads.below {w w' : World} {v : Value} {L : List Pr} (h : PReads w v L) (hb : Below w.heap.size w w') : PReads w' v L := by
  obtain ⟨a, cap, rfl, h1, h2, h3⟩ := h
  refine ⟨a, cap, rfl, h1, h2, ?_⟩
  rcases h3 with h3 | ⟨b, off, h4, h5, h6⟩
  · exact .inl h3
  · refine .inr ⟨b, off, h4, Nat.lt_of_lt_of_le h5 hb.size, fun j hj => ?_⟩
    obtain ⟨kv, vv, g1, g2, g3, g4⟩ := h6 j hj
    exact ⟨kv, vv, (hb.cell (p := ⟨b, off + j * 2, none⟩) h5).trans g1, (hb.cell (p := ⟨b, off + j * 2 + 1, none⟩) h5).trans g2, g3.below hb, g4.below hb⟩
end Go.Proofs.Ytopemhlkjicjpaa

/- The contracts of Common and saved. -/
namespace Go.Proofs.Ytopemhlkjicjpaa
open Go.RowKit

set_option maxRecDepth 100000 in
set_option maxHeartbeats 1000000 in
theorem common_any (va vb : Value) (a b : Ks) (w : World) (ha : Reads w va a) (hb : Reads w vb b) :
    Calls Try.prog 72 #[va, vb] w fun e w' => e = .returned (.int .i64 ((com a b : Nat) : Int)) ∧ Below w.heap.size w w' := by
  obtain ⟨aa, ca, rfl, hma⟩ := ha.form
  obtain ⟨ab, cb, rfl, hmb⟩ := hb.form
  unfold maxLen at hma hmb
  have HA : Hid (Reads w (.slice aa a.length ca) a) := ha
  have HB : Hid (Reads w (.slice ab b.length cb) b) := hb
  clear ha hb
  go_enter Try.func72, Try.ntmps72
  go_wp2_with fail
  go_loopw [5] (fun i wr => Hid (Below w.heap.size w wr) ∧ ∃ k : Nat, k ≤ a.length ∧ k ≤ b.length ∧ i = .int .i64 (k : Int) ∧ Hid (∀ j (g1 : j < a.length) (g2 : j < b.length), j < k → a[j] = b[j])) (fun i _ => a.length - (intOf i).toNat)
  case atStart => exact ⟨Below.refl _ _, 0, by omega, by omega, rfl, fun j _ _ h => by omega⟩
  case round =>
    obtain ⟨HW, k, h1, h2, rfl, HE⟩ := hrel
    by_cases g1 : k < a.length
    · by_cases g2 : k < b.length
      · obtain ⟨b1, o1, rfl, l1, c1⟩ := HA.out.at k g1
        obtain ⟨b2, o2, rfl, l2, c2⟩ := HB.out.at k g2
        have d1 := (HW.out.cell (p := ⟨b1, o1 + k, none⟩) l1).trans c1
        have d2 := (HW.out.cell (p := ⟨b2, o2 + k, none⟩) l2).trans c2
        unfold bc at d1 d2
        clear c1 c2
        obtain ⟨x, HX⟩ := hid_ex a[k]
        obtain ⟨y, HY⟩ := hid_ex b[k]
        rw [← HX.out] at d1
        rw [← HY.out] at d2
        by_cases hxy : (x.toNat : Int) = (y.toNat : Int)
        · go_wp2_with fail
          go_quiet (fail)
          have HW2 : Hid (Below w.heap.size w (wr.drewN nq)) := below_drewN HW.out nq
          go_wp2_with fail
          go_roundw
          case rel =>
            refine ⟨HW2, k + 1, by omega, by omega, by go_num, fun j g3 g4 hj => ?_⟩
            by_cases hjk : j < k
            · exact HE.out j g3 g4 hjk
            · have : j = k := by omega
              subst this
              rw [← HX.out, ← HY.out]
              exact UInt8.toNat_inj.1 (by omega)
          case measure => simp [intOf]; omega
        · go_wp2_with fail
          go_quiet (fail)
          have HW2 : Hid (Below w.heap.size w (wr.drewN nq)) := below_drewN HW.out nq
          go_wp2_with fail
          go_ret
          rw [com_eq h1 h2 HE.out (fun g1 g2 => by rw [← HX.out, ← HY.out]; intro h; rw [h] at hxy; exact hxy rfl)]
          exact ⟨rfl, HW2.out⟩
      · go_wp2_with fail
        go_quiet (fail)
        have HW2 : Hid (Below w.heap.size w (wr.drewN nq)) := below_drewN HW.out nq
        go_wp2_with fail
        go_ret
        rw [com_eq h1 h2 HE.out (fun _ g => absurd g g2)]
        exact ⟨rfl, HW2.out⟩
    · go_wp2_with fail
      go_quiet (fail)
      have HW2 : Hid (Below w.heap.size w (wr.drewN nq)) := below_drewN HW.out nq
      go_wp2_with fail
      go_ret
      rw [com_eq h1 h2 HE.out (fun g _ => absurd g g1)]
      exact ⟨rfl, HW2.out⟩
set_option maxRecDepth 100000 in
set_option maxHeartbeats 1000000 in
theorem saved_any (i : Nat) (hi : i < 9223372036854775808) (va vb : Value) (a b : Ks) (w : World) (ha : Reads w va a) (hb : Reads w vb b) :
    Calls Try.prog 53 #[.int .i64 (i : Int), va, vb] w fun e w' => e = .returned (.int .i64 ((svd i a b : Nat) : Int)) ∧ Below w.heap.size w w' := by
  obtain ⟨aa, ca, rfl, _⟩ := ha.form
  obtain ⟨ab, cb, rfl, _⟩ := hb.form
  have HA : Hid (Reads w (.slice aa a.length ca) a) := ha
  have HB : Hid (Reads w (.slice ab b.length cb) b) := hb
  clear ha hb
  have e8 : Int.tmod (i : Int) 8 = ((i % 8 : Nat) : Int) := by rw [Int.tmod_eq_emod_of_nonneg (by omega)]; omega
  go_enter Try.func53, Try.ntmps53
  by_cases h8 : i % 8 = 0
  · have h8' : Int.tmod (i : Int) 8 = 0 := by omega
    have e : svd i a b = 0 := by unfold svd; rw [if_pos h8]
    rw [e]
    go_wp2_with fail
    go_ret
    exact ⟨rfl, Below.refl _ _⟩
  · have h8' : ¬ Int.tmod (i : Int) 8 = 0 := by omega
    have e : svd i a b = com a b := by unfold svd; rw [if_neg h8]
    rw [e]
    go_wp2_with fail
    refine (common_any _ _ a b _ HA.out HB.out).mono ?_
    rintro e w1 ⟨rfl, hb1⟩
    go_wp2_with fail
    go_ret
    exact ⟨rfl, hb1⟩
end Go.Proofs.Ytopemhlkjicjpaa

/- The contract of mayBe. -/
namespace Go.Proofs.Ytopemhlkjicjpaa
open Go.RowKit

theorem rise_snoc : ∀ (l : List Pr) (i : Nat) (ah : Ks) (x : Pr), rise i ah (l ++ [x]) ↔ rise i ah l ∧ ((0 < i + l.length) → ltK (match l.getLast? with | none => ah | some y => y.1) x.1)
  | [], i, ah, x => by simp [rise]
  | y :: l, i, ah, x => by
    have ih := rise_snoc l (i + 1) y.1 x
    rw [List.cons_append, rise, rise, ih, and_assoc]
    have e : (match (y :: l).getLast? with | none => ah | some z => z.1) = (match l.getLast? with | none => y.1 | some z => z.1) := by
      cases l with
      | nil => rfl
      | cons z l => rw [List.getLast?_cons_cons]; cases h : (z :: l).getLast? with
        | none => simp at h
        | some u => rfl
    rw [e]
    simp only [List.length_cons]
    constructor
    · rintro ⟨h1, h2, h3⟩; exact ⟨h1, h2, fun h => h3 (by omega)⟩
    · rintro ⟨h1, h2, h3⟩; exact ⟨h1, h2, fun h => h3 (by omega)⟩
theorem rise_step {l : List Pr} {k : Nat} (h0 : 0 < k) (hk : k < l.length) : rise 0 [] (l.take (k + 1)) ↔ rise 0 [] (l.take k) ∧ ltK (l[k - 1]'(by omega)).1 l[k].1 := by
  rw [List.take_add_one, List.getElem?_eq_getElem hk]
  show rise 0 [] (l.take k ++ [l[k]]) ↔ _
  rw [rise_snoc]
  have e : (l.take k).getLast? = some (l[k - 1]'(by omega)) := by
    rw [List.getLast?_eq_getElem?, List.length_take, Nat.min_eq_left (by omega), List.getElem?_take_of_lt (by omega), List.getElem?_eq_getElem]
  rw [e]
  simp only [List.length_take]
  constructor
  · rintro ⟨h1, h2⟩; exact ⟨h1, h2 (by omega)⟩
  · rintro ⟨h1, h2⟩; exact ⟨h1, fun _ => h2⟩
theorem rise_take : ∀ (l : List Pr) (i : Nat) (ah : Ks) (k : Nat), rise i ah l → rise i ah (l.take k)
  | [], _, _, _, _ => by simp [rise]
  | _ :: _, _, _, 0, _ => by simp [rise]
  | x :: l, i, ah, k + 1, h => by rw [List.take_succ_cons]; exact ⟨h.1, rise_take l (i + 1) x.1 k h.2⟩
theorem rise_one (l : List Pr) : rise 0 [] (l.take 1) := by
  cases l with
  | nil => simp [rise]
  | cons x l => simp [rise]
set_option maxRecDepth 100000 in
set_option maxHeartbeats 2000000 in
theorem mayBe_any (v : Value) (l : List Pr) (w : World) (hP : PReads w v l) :
    Calls Try.prog 52 #[v] w fun e w' => e = .returned (.int .i64 (mbF l)) ∧ Below w.heap.size w w' := by
  obtain ⟨a, cap, rfl, hcap, hm, h3⟩ := hP
  unfold maxLen at hm
  have H3 : Hid _ := h3
  clear h3
  go_enter Try.func52, Try.ntmps52
  by_cases g1 : (4096 : Int) < (l.length : Int)
  · go_wp2_with fail
    go_ret
    have : mbF l = 2 := by unfold mbF; rw [if_pos (by omega)]
    rw [this]
    exact ⟨rfl, Below.refl _ _⟩
  go_wp2_with fail
  go_loopw [11] (fun i wr => ∃ k : Nat, k ≤ l.length ∧ i = .int .i64 (k : Int) ∧ Hid (∀ x ∈ l.take k, okP x) ∧ Hid (Below w.heap.size w wr)) (fun i _ => l.length - (intOf i).toNat)
  case atStart => exact ⟨0, by omega, rfl, fun x hx => by simp at hx, Below.refl _ _⟩
  case round =>
    obtain ⟨k, hk, rfl, HO, HW⟩ := hrel
    by_cases hlt : k < l.length
    · obtain ⟨bA, oA, rfl, hbA, hA⟩ := H3.out.resolve_left (fun h => by rw [h] at hlt; simp at hlt)
      obtain ⟨kv, vv, q0, q1, r0, r1⟩ := hA k hlt
      obtain ⟨X, HX⟩ := hid_ex l[k]
      rw [← HX.out] at r0 r1
      have HTk : Hid (l.take (k + 1) = l.take k ++ [X]) := by unfold Hid; rw [List.take_add_one, List.getElem?_eq_getElem hlt, HX.out]; rfl
      have HXm : Hid (X ∈ l) := by rw [HX.out]; exact List.getElem_mem hlt
      have c0 := (HW.out.cell (p := ⟨bA, oA + k * 2, none⟩) hbA).trans q0
      have c1 := (HW.out.cell (p := ⟨bA, oA + k * 2 + 1, none⟩) hbA).trans q1
      obtain ⟨ak, ck, rfl, hmk⟩ := r0.form
      obtain ⟨av, cv, rfl, hmv⟩ := r1.form
      unfold maxLen at hmk hmv
      clear hA q0 q1 r0 r1 HX
      have HAl : Hid (Below w.heap.size w (wr.alloc (.cells #[.slice ak X.1.length ck, .slice av X.2.length cv] 68))) := HW.out.alloc HW.out.size _
      by_cases e1 : (4096 : Int) < (X.1.length : Int)
      · go_wp2_with fail
        go_ret
        have : mbF l = 2 := by
          unfold mbF
          rw [if_neg (by omega), if_pos (fun h => by have := (h X HXm.out).1; omega)]
        rw [this]
        exact ⟨rfl, HAl.out⟩
      by_cases e2 : (4096 : Int) < (X.2.length : Int)
      · go_wp2_with fail
        go_ret
        have : mbF l = 2 := by
          unfold mbF
          rw [if_neg (by omega), if_pos (fun h => by have := (h X HXm.out).2; omega)]
        rw [this]
        exact ⟨rfl, HAl.out⟩
      go_wp2_with fail
      go_roundw
      case rel =>
        refine ⟨k + 1, by omega, by go_num, ?_, HAl⟩
        rw [HTk.out]
        intro y hy
        rcases List.mem_append.1 hy with hy | hy
        · exact HO.out y hy
        · simp at hy; subst hy; exact ⟨by omega, by omega⟩
      case measure => simp [intOf]; omega
    · have hkl : k = l.length := by omega
      rw [hkl, List.take_length] at HO
      go_wp2_with fail
      go_loopw [5] (fun i wr => ∃ k : Nat, 1 ≤ k ∧ (k ≤ l.length ∨ k = 1) ∧ i = .int .i64 (k : Int) ∧ Hid (rise 0 [] (l.take k)) ∧ Hid (Below w.heap.size w wr)) (fun i _ => l.length - (intOf i).toNat)
      case atStart => exact ⟨1, by omega, by omega, rfl, rise_one l, HW⟩
      case round =>
        obtain ⟨k, hk1, hk2, rfl, HR, HW⟩ := hrel
        by_cases hlt : k < l.length
        · obtain ⟨bA, oA, rfl, hbA, hA⟩ := H3.out.resolve_left (fun h => by rw [h] at hlt; simp at hlt)
          obtain ⟨k', rfl⟩ : ∃ k', k = k' + 1 := ⟨k - 1, by omega⟩
          obtain ⟨kx, _, q0, _, r0, _⟩ := hA (k' + 1) hlt
          obtain ⟨ky, _, q1, _, r1, _⟩ := hA k' (by omega)
          have HST : Hid (rise 0 [] (l.take (k' + 1 + 1)) ↔ rise 0 [] (l.take (k' + 1)) ∧ ltK (l[k']'(by omega)).1 l[k' + 1].1) := rise_step (by omega) hlt
          obtain ⟨X, HX⟩ := hid_ex l[k' + 1]
          obtain ⟨Y, HY⟩ := hid_ex (l[k']'(by omega))
          rw [← HX.out] at r0 HST
          rw [← HY.out] at r1 HST
          have c0 := (HW.out.cell (p := ⟨bA, oA + (k' + 1) * 2, none⟩) hbA).trans q0
          have c1 := (HW.out.cell (p := ⟨bA, oA + k' * 2, none⟩) hbA).trans q1
          have HRx : Hid (Reads w kx X.1) := r0
          have HRy : Hid (Reads w ky Y.1) := r1
          clear hA q0 q1 r0 r1 HX HY
          have HWQ : Hid _ := fun n => below_drewN HW.out n
          go_wp2_with fail
          go_quiet (exact (cmp_any _ _ Y.1 X.1 _ (HRy.out.below (below_drewN HW.out _)) (HRx.out.below (below_drewN HW.out _))).mono (fun e w' h => ⟨h.1, _, h.2⟩))
          have HW2 : Hid (Below w.heap.size w (wr.drewN nq)) := below_drewN HW.out nq
          clear c0 c1 HRx HRy HWQ
          by_cases hl : ltK Y.1 X.1
          · have hc : Lib.compareBytes Y.1 X.1 = -1 := hl
            rw [hc]
            go_wp2_with fail
            go_roundw
            case rel => exact ⟨k' + 1 + 1, by omega, by omega, by go_num, HST.out.2 ⟨HR.out, hl⟩, HW2⟩
            case measure => simp [intOf]; omega
          · have hc : 0 ≤ Lib.compareBytes Y.1 X.1 := cmp_ge.2 hl
            go_wp2_with fail
            go_ret
            have : mbF l = 50 := by
              unfold mbF
              rw [if_neg (by omega), if_neg (fun h => h HO.out), if_pos (fun h => hl (HST.out.1 (rise_take _ _ _ _ h)).2)]
            rw [this]
            exact ⟨rfl, HW2.out⟩
        · go_wp2_with fail
          go_ret
          have : mbF l = 0 := mb_zero.2 ⟨by omega, HO.out, by have := HR.out; rwa [List.take_of_length_le (by omega)] at this⟩
          rw [this]
          exact ⟨rfl, HW.out⟩
end Go.Proofs.Ytopemhlkjicjpaa

/- Places of an array of three numbers. -/
namespace Go.Proofs.Ytopemhlkjicjpaa
open Go.RowKit
theorem idx3_0 (a b c : Int) (w : World) : (Instr.index 106 (.agg #[.int .i64 a, .int .i64 b, .int .i64 c]) (.int .i64 0)).run Try.prog w = .ok (.int .i64 a) w := by
  simp [Instr.index, run_underlying Try.underlying106, part, sizeOf, asIntOf, Result.andThen]
theorem idx3_1 (a b c : Int) (w : World) : (Instr.index 106 (.agg #[.int .i64 a, .int .i64 b, .int .i64 c]) (.int .i64 1)).run Try.prog w = .ok (.int .i64 b) w := by
  have hs : Try.t3.size = 1 := rfl
  simp [Instr.index, run_underlying Try.underlying106, part, sizeOf, asIntOf, Result.andThen, hs]
theorem idx3_2 (a b c : Int) (w : World) : (Instr.index 106 (.agg #[.int .i64 a, .int .i64 b, .int .i64 c]) (.int .i64 2)).run Try.prog w = .ok (.int .i64 c) w := by
  have hs : Try.t3.size = 1 := rfl
  simp [Instr.index, run_underlying Try.underlying106, part, sizeOf, asIntOf, Result.andThen, hs]
end Go.Proofs.Ytopemhlkjicjpaa
