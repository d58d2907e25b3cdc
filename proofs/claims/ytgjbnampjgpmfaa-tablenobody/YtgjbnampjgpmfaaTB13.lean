/- OP BK2 S1 BK3, joined. -/
import Derived.Test.YtgjbnampjgpmfaaTB2
import Derived.Test.YtgjbnampjgpmfaaTB4
import Derived.Test.YtgjbnampjgpmfaaTB12
import Derived.Deep.Slices
import Derived.ProofKit
import Derived.OpenShut
import Derived.Lib.SmallJoins
import Derived.BigQuiet
import Derived.Deep.QuietTactic
import Derived.Lib.Bytealg
import Derived.Laws.Externs
/- Pairs of a key and a value, as arguments. -/
namespace Go.Proofs.Ytgjbnampjgpmfaa
open Go.ChangeShapes Go.WideShapes Go.ChangeAt Go.RowKit Go.Joins

set_option maxRecDepth 100000 in
theorem openB' {H : Type} {enc : TypeId × Value → H} {W : World} {base : Nat} {spare : Nat → Bool} {held : Bool} {cs : List Value} {x : DataW H × List MemPlace} {fuel : Nat}
    (hf : DataW.trod enc Try.prog W base spare held fuel 22 cs = some x) : ∃ v l, cs = [v] ∧ Reads W v l := by
  rcases open_ints Try.underlying22 Try.underlying5 (by kernel_rfl) hf with ⟨rfl, _⟩ | ⟨x, len, cap, zs, rfl, _, hl, hm, hz, _, hcell, hwz⟩
  · exact ⟨_, [], rfl, .inl ⟨rfl, _, _, rfl, fun _ => rfl⟩⟩
  · have hzl : len ≤ zs.length := by rw [hz]; split <;> omega
    rcases Nat.eq_zero_or_pos len with h0 | h0
    · subst h0; exact ⟨_, [], rfl, .inl ⟨rfl, _, _, rfl, fun h => by cases h⟩⟩
    · refine ⟨_, (zs.take len).map fun z => UInt8.ofNat z.toNat, rfl, .inr ?_⟩
      have hlen : ((zs.take len).map fun z => UInt8.ofNat z.toNat).length = len := by simp; omega
      have c0 := hcell 0 (by omega)
      have e0 : x.add 0 = x := by simp [Addr.add]
      rw [e0] at c0
      obtain ⟨hb, hs⟩ := cell_block c0
      obtain ⟨b, off, spot⟩ := x
      simp only at hb hs
      subst hs
      refine ⟨b, off, cap, by rw [hlen], by omega, by omega, hm, hb, fun j hj => ?_⟩
      have hj' : j < len := by omega
      have cj := hcell j (by omega)
      have ea : (⟨b, off, none⟩ : Addr).add j = ⟨b, off + j, none⟩ := by simp [Addr.add]
      rw [ea] at cj
      rw [cj]
      have hzj : j < zs.length := by omega
      have hg : zs.getD j 0 = zs[j] := by simp [List.getD, hzj]
      have hw := bounds_u8 (hwz zs[j] (List.getElem_mem hzj))
      rw [hg]
      have e1 : ((zs.take len).map fun z => UInt8.ofNat z.toNat)[j] = UInt8.ofNat (zs[j]).toNat := by simp
      rw [e1]
      unfold bc
      have e2 : (UInt8.ofNat (zs[j]).toNat).toNat = (zs[j]).toNat := by simp [UInt8.toNat_ofNat']; omega
      rw [e2]
      congr 2
      omega
theorem two_cells {α : Type} : ∀ {l : List α}, l.length = 2 → ∃ c0 c1, l = [c0, c1]
  | [c0, c1], _ => ⟨c0, c1, rfl⟩
set_option maxRecDepth 100000 in
/-- The two cells of a pair. -/
theorem openP' {H : Type} {enc : TypeId × Value → H} {W : World} {base : Nat} {spare : Nat → Bool} {held : Bool} {c0 c1 : Value} {x : DataW H × List MemPlace} {fuel : Nat}
    (hf : DataW.trod enc Try.prog W base spare held fuel 70 [c0, c1] = some x) :
    ∃ p : Pr, Reads W c0 p.1 ∧ Reads W c1 p.2 := by
  obtain ⟨z0, z1, m, _, _, f0, f1⟩ := trod_struct2 Try.underlying70 hf
  have ck : Try.prog.cellsOf 22 = 1 := by kernel_rfl
  simp [ck] at f0
  simp [ck] at f1
  obtain ⟨kv, k, e0, hr⟩ := openB' f0
  obtain ⟨vv, v, e1, hv⟩ := openB' f1
  simp at e0 e1
  subst e0 e1
  exact ⟨(k, v), hr, hv⟩
/-- A slice reads these pairs (of either kind). -/
def PReads (w : World) (v : Value) (L : List Pr) : Prop :=
  ∃ a cap, v = .slice a L.length cap ∧ L.length ≤ cap ∧ cap ≤ maxLen ∧ (L = [] ∨ ∃ b off, a = some ⟨b, off, none⟩ ∧ b < w.heap.size ∧ ∀ j (hj : j < L.length), ∃ kv vv, w.cell? ⟨b, off + j * 2, none⟩ = some kv ∧ w.cell? ⟨b, off + j * 2 + 1, none⟩ = some vv ∧ Reads w kv L[j].1 ∧ Reads w vv L[j].2)
theorem PReads.below {w w' : World} {v : Value} {L : List Pr} (h : PReads w v L) (hb : Below w.heap.size w w') : PReads w' v L := by
  obtain ⟨a, cap, rfl, h1, h2, h3⟩ := h
  refine ⟨a, cap, rfl, h1, h2, ?_⟩
  rcases h3 with h3 | ⟨b, off, h4, h5, h6⟩
  · exact .inl h3
  · refine .inr ⟨b, off, h4, Nat.lt_of_lt_of_le h5 hb.size, fun j hj => ?_⟩
    obtain ⟨kv, vv, g1, g2, g3, g4⟩ := h6 j hj
    exact ⟨kv, vv, (hb.cell (p := ⟨b, off + j * 2, none⟩) h5).trans g1, (hb.cell (p := ⟨b, off + j * 2 + 1, none⟩) h5).trans g2, g3.below hb, g4.below hb⟩
set_option maxRecDepth 100000 in
theorem openP {H : Type} {enc : TypeId × Value → H} {W : World} {r : Reach} {b0 base : Nat} {spare : Nat → Bool} {held : Bool} {v : Value} {d : DataW H} {p : List MemPlace}
    (hv : Value.okWide Try.prog W r b0 64 v) (h : DataW.Trod enc Try.prog W base spare held 64 v d p) : ∃ L : List Pr, PReads W v L := by
  obtain ⟨a, len, cap, rfl⟩ := okWide_slice Try.underlying64 hv
  obtain ⟨fuel, hf⟩ := h
  rcases Go.Deep.open_slice Try.underlying64 hf with ⟨hcs, _⟩ | ⟨x, l, c, m, n, D, Pl, hcs, _, hl, hm, hz, _, hcell⟩
  · simp [Value.cells] at hcs
    obtain ⟨rfl, rfl, rfl⟩ := hcs
    exact ⟨[], none, 0, rfl, by simp, by simp, .inl rfl⟩
  · simp [Value.cells] at hcs
    obtain ⟨rfl, rfl, rfl⟩ := hcs
    have hzl : len ≤ m := by rw [hz]; split <;> omega
    have hce : Try.prog.cellsOf 70 = 2 := by kernel_rfl
    rw [hce] at hcell
    have hall : ∀ j, ∃ (y : Pr × Value × Value), j < len → W.cell? (x.add (j * 2)) = some y.2.1 ∧ W.cell? ((x.add (j * 2)).add 1) = some y.2.2 ∧ Reads W y.2.1 y.1.1 ∧ Reads W y.2.2 y.1.2 := by
      intro j
      by_cases hj : j < len
      · obtain ⟨cs', hc1, hc2⟩ := hcell j (by omega)
        obtain ⟨_, hl2, hq⟩ := World.cells?_some hc1
        obtain ⟨c0, c1, rfl⟩ := two_cells hl2
        obtain ⟨q, hr, hv⟩ := openP' hc2
        have h0 := hq 0 (by decide)
        have h1 := hq 1 (by decide)
        have e0 : (x.add (j * 2)).add 0 = x.add (j * 2) := by simp [Addr.add]
        rw [e0] at h0
        exact ⟨(q, c0, c1), fun _ => ⟨h0, h1, hr, hv⟩⟩
      · exact ⟨(([], []), .bool false, .bool false), fun h => absurd h hj⟩
    obtain ⟨ys, hys⟩ := Classical.axiomOfChoice hall
    rcases Nat.eq_zero_or_pos len with h0 | h0
    · subst h0
      exact ⟨[], _, cap, rfl, by simp, hm, .inl rfl⟩
    · have k0 := (hys 0 h0).1
      have e0 : x.add (0 * 2) = x := by simp [Addr.add]
      rw [e0] at k0
      obtain ⟨hb, hs⟩ := cell_block k0
      obtain ⟨b, off, spot⟩ := x
      simp only at hb hs
      subst hs
      refine ⟨(List.range len).map fun j => (ys j).1, _, cap, by simp, by simpa using hl, hm, .inr ⟨b, off, rfl, hb, fun j hj => ?_⟩⟩
      simp at hj
      obtain ⟨g1, g2, g3, g4⟩ := hys j hj
      have ej : ((List.range len).map fun j => (ys j).1)[j]'(by simpa using hj) = (ys j).1 := by simp
      rw [ej]
      have ea : (⟨b, off, none⟩ : Addr).add (j * 2) = ⟨b, off + j * 2, none⟩ := by simp [Addr.add]
      have eb : (⟨b, off + j * 2, none⟩ : Addr).add 1 = ⟨b, off + j * 2 + 1, none⟩ := by simp [Addr.add]
      rw [ea] at g1 g2
      rw [eb] at g2
      exact ⟨(ys j).2.1, (ys j).2.2, g1, g2, g3, g4⟩
end Go.Proofs.Ytgjbnampjgpmfaa

/- The contracts of Common and saved. -/
namespace Go.Proofs.Ytgjbnampjgpmfaa
open Go.RowKit

set_option maxRecDepth 100000 in
set_option maxHeartbeats 1000000 in
theorem common_any (va vb : Value) (a b : Ks) (w : World) (ha : Reads w va a) (hb : Reads w vb b) :
    Calls Try.prog 59 #[va, vb] w fun e w' => e = .returned (.int .i64 ((com a b : Nat) : Int)) ∧ Below w.heap.size w w' := by
  obtain ⟨aa, ca, rfl, hma⟩ := ha.form
  obtain ⟨ab, cb, rfl, hmb⟩ := hb.form
  unfold maxLen at hma hmb
  have HA : Hid (Reads w (.slice aa a.length ca) a) := ha
  have HB : Hid (Reads w (.slice ab b.length cb) b) := hb
  clear ha hb
  go_enter Try.func59, Try.ntmps59
  go_wp2_with fail
  go_loopw [5] (fun i wr => Hid (Below w.heap.size w wr) ∧ ∃ k : Nat, k ≤ a.length ∧ k ≤ b.length ∧ i = .int .i64 (k : Int) ∧ Hid (∀ j (g1 : j < a.length) (g2 : j < b.length), j < k → a[j] = b[j])) (fun i _ => a.length - (intOf i).toNat)
  case atStart => exact ⟨Below.refl _ _, 0, by omega, by omega, rfl, fun j _ _ h => by omega⟩
  case round =>
    obtain ⟨HW, k, h1, h2, rfl, HE⟩ := hrel
    by_cases g1 : k < a.length
    · by_cases g2 : k < b.length
      · obtain ⟨b1, o1, rfl, l1, c1⟩ := HA.out.at k g1
        obtain ⟨b2, o2, rfl, l2, c2⟩ := HB.out.at k g2
        have d1 := (HW.out.cell (p := ⟨b1, o1 + k, none⟩) l1).trans c1
        have d2 := (HW.out.cell (p := ⟨b2, o2 + k, none⟩) l2).trans c2
        unfold bc at d1 d2
        clear c1 c2
        obtain ⟨x, HX⟩ := hid_ex a[k]
        obtain ⟨y, HY⟩ := hid_ex b[k]
        rw [← HX.out] at d1
        rw [← HY.out] at d2
        by_cases hxy : (x.toNat : Int) = (y.toNat : Int)
        · go_wp2_with fail
          go_quiet (fail)
          have HW2 : Hid (Below w.heap.size w (wr.drewN nq)) := below_drewN HW.out nq
          go_wp2_with fail
          go_roundw
          case rel =>
            refine ⟨HW2, k + 1, by omega, by omega, by go_num, fun j g3 g4 hj => ?_⟩
            by_cases hjk : j < k
            · exact HE.out j g3 g4 hjk
            · have : j = k := by omega
              subst this
              rw [← HX.out, ← HY.out]
              exact UInt8.toNat_inj.1 (by omega)
          case measure => simp [intOf]; omega
        · go_wp2_with fail
          go_quiet (fail)
          have HW2 : Hid (Below w.heap.size w (wr.drewN nq)) := below_drewN HW.out nq
          go_wp2_with fail
          go_ret
          rw [com_eq h1 h2 HE.out (fun g1 g2 => by rw [← HX.out, ← HY.out]; intro h; rw [h] at hxy; exact hxy rfl)]
          exact ⟨rfl, HW2.out⟩
      · go_wp2_with fail
        go_quiet (fail)
        have HW2 : Hid (Below w.heap.size w (wr.drewN nq)) := below_drewN HW.out nq
        go_wp2_with fail
        go_ret
        rw [com_eq h1 h2 HE.out (fun _ g => absurd g g2)]
        exact ⟨rfl, HW2.out⟩
    · go_wp2_with fail
      go_quiet (fail)
      have HW2 : Hid (Below w.heap.size w (wr.drewN nq)) := below_drewN HW.out nq
      go_wp2_with fail
      go_ret
      rw [com_eq h1 h2 HE.out (fun g _ => absurd g g1)]
      exact ⟨rfl, HW2.out⟩
set_option maxRecDepth 100000 in
set_option maxHeartbeats 1000000 in
theorem saved_any (i : Nat) (hi : i < 9223372036854775808) (va vb : Value) (a b : Ks) (w : World) (ha : Reads w va a) (hb : Reads w vb b) :
    Calls Try.prog 43 #[.int .i64 (i : Int), va, vb] w fun e w' => e = .returned (.int .i64 ((svd i a b : Nat) : Int)) ∧ Below w.heap.size w w' := by
  obtain ⟨aa, ca, rfl, _⟩ := ha.form
  obtain ⟨ab, cb, rfl, _⟩ := hb.form
  have HA : Hid (Reads w (.slice aa a.length ca) a) := ha
  have HB : Hid (Reads w (.slice ab b.length cb) b) := hb
  clear ha hb
  have e8 : Int.tmod (i : Int) 8 = ((i % 8 : Nat) : Int) := by rw [Int.tmod_eq_emod_of_nonneg (by omega)]; omega
  go_enter Try.func43, Try.ntmps43
  by_cases h8 : i % 8 = 0
  · have h8' : Int.tmod (i : Int) 8 = 0 := by omega
    have e : svd i a b = 0 := by unfold svd; rw [if_pos h8]
    rw [e]
    go_wp2_with fail
    go_ret
    exact ⟨rfl, Below.refl _ _⟩
  · have h8' : ¬ Int.tmod (i : Int) 8 = 0 := by omega
    have e : svd i a b = com a b := by unfold svd; rw [if_neg h8]
    rw [e]
    go_wp2_with fail
    refine (common_any _ _ a b _ HA.out HB.out).mono ?_
    rintro e w1 ⟨rfl, hb1⟩
    go_wp2_with fail
    go_ret
    exact ⟨rfl, hb1⟩
end Go.Proofs.Ytgjbnampjgpmfaa

/- The contracts of bytes.Compare and bytes.Equal; the order of bytes. -/
namespace Go.Proofs.Ytgjbnampjgpmfaa
open Go.RowKit

theorem run_loadBytes (w : World) : ∀ (l : List UInt8) (b off : Nat) (acc : ByteArray), (∀ j (h : j < l.length), w.cell? ⟨b, off + j, none⟩ = some (bc l[j])) →
    (Extern.Bytes.loadBytes ⟨b, off, none⟩ l.length acc).run Try.prog w = .ok ⟨acc.data ++ l.toArray⟩ w := by
  intro l
  induction l with
  | nil => intro b off acc _; simp [Extern.Bytes.loadBytes, Sem.run_pure]
  | cons x l ih =>
    intro b off acc h
    have h0 := h 0 (by simp)
    simp only [Nat.add_zero, List.getElem_cons_zero] at h0
    have e1 : (⟨b, off, none⟩ : Addr).add 1 = ⟨b, off + 1, none⟩ := by simp [Addr.add]
    have := ih b (off + 1) (acc.push x) (fun j hj => by
      have := h (j + 1) (by simpa using hj)
      simpa [Nat.add_assoc, Nat.add_comm 1 j] using this)
    have e2 : ((x.toNat : Int).toNat).toUInt8 = x := by simp
    unfold bc at h0
    simp only [List.length_cons, Extern.Bytes.loadBytes, Sem.run_bind, run_load, h0, Result.andThen, e1, e2, this]
    congr 1
    simp [ByteArray.push]
theorem run_bytesOf {w : World} {v : Value} {l : List UInt8} (h : Reads w v l) : (Extern.Bytes.bytesOf v).run Try.prog w = .ok ⟨l.toArray⟩ w := by
  rcases h with ⟨rfl, a, cap, rfl, _⟩ | ⟨b, off, cap, rfl, h2, h3, h4, h5, h6⟩
  · cases a with
    | none => simp [Extern.Bytes.bytesOf, Sem.run_pure]; rfl
    | some a => simp [Extern.Bytes.bytesOf, Extern.Bytes.loadBytes, Sem.run_pure]; rfl
  · have := run_loadBytes w l b off ByteArray.empty h6
    simp only [Extern.Bytes.bytesOf]
    rw [this]; simp
theorem run_cmp {w : World} {va vb : Value} {a b : List UInt8} (ha : Reads w va a) (hb : Reads w vb b) : (Extern.BytealgCompare.compare #[va, vb]).run Try.prog w = .ok (.int .i64 (Lib.compareBytes a b)) w := by
  change Sem.run Try.prog (do pure (goInt (Extern.BytealgCompare.cmp (← Extern.Bytes.bytesOf va) (← Extern.Bytes.bytesOf vb)))) w = _
  simp only [Sem.run_bind, run_bytesOf ha, run_bytesOf hb, Sem.run_pure, Result.andThen]
  rw [Lib.cmp_eq]
  rfl
theorem cmp_any (va vb : Value) (a b : List UInt8) (w : World) (ha : Reads w va a) (hb : Reads w vb b) :
    Calls Try.prog 22 #[va, vb] w fun e w' => e = .returned (.int .i64 (Lib.compareBytes a b)) ∧ w' = w := by
  have hr := run_cmp ha hb
  obtain ⟨a1, c1, rfl, _⟩ := ha.form
  obtain ⟨a2, c2, rfl, _⟩ := hb.form
  go_enter Try.func22, Try.ntmps22
  go_wp2_with (rw [run_callFunc_extern Try.func37 (by kernel_rfl) (by kernel_rfl) (by kernel_rfl) (e := Extern.BytealgCompare.compare) (by kernel_rfl), hr]; simp only [Result.andThen]; rw [Oper.upon_value])
  go_ret
  exact ⟨rfl, rfl⟩
theorem equal_any (va vb : Value) (a b : List UInt8) (w : World) (ha : Reads w va a) (hb : Reads w vb b) :
    Calls Try.prog 17 #[va, vb] w fun e w' => e = .returned (.bool (decide (a = b))) ∧ w' = w := by
  have h1 := reads_text ha
  have h2 := reads_text hb
  obtain ⟨a1, c1, rfl, _⟩ := ha.form
  obtain ⟨a2, c2, rfl, _⟩ := hb.form
  go_enter Try.func17, Try.ntmps17
  go_wp2_with fail
  go_ret
  exact ⟨congrArg (fun x => Ending.returned (Value.bool x)) (by rw [Bool.eq_iff_iff]; simp), rfl⟩
end Go.Proofs.Ytgjbnampjgpmfaa

/- The contract of mayBe. -/
namespace Go.Proofs.Ytgjbnampjgpmfaa
open Go.RowKit

theorem rise_snoc : ∀ (l : List Pr) (i : Nat) (ah : Ks) (x : Pr), rise i ah (l ++ [x]) ↔ rise i ah l ∧ ((0 < i + l.length) → ltK (match l.getLast? with | none => ah | some y => y.1) x.1)
  | [], i, ah, x => by simp [rise]
  | y :: l, i, ah, x => by
    have ih := rise_snoc l (i + 1) y.1 x
    rw [List.cons_append, rise, rise, ih, and_assoc]
    have e : (match (y :: l).getLast? with | none => ah | some z => z.1) = (match l.getLast? with | none => y.1 | some z => z.1) := by
      cases l with
      | nil => rfl
      | cons z l => rw [List.getLast?_cons_cons]; cases h : (z :: l).getLast? with
        | none => simp at h
        | some u => rfl
    rw [e]
    simp only [List.length_cons]
    constructor
    · rintro ⟨h1, h2, h3⟩; exact ⟨h1, h2, fun h => h3 (by omega)⟩
    · rintro ⟨h1, h2, h3⟩; exact ⟨h1, h2, fun h => h3 (by omega)⟩
theorem rise_step {l : List Pr} {k : Nat} (h0 : 0 < k) (hk : k < l.length) : rise 0 [] (l.take (k + 1)) ↔ rise 0 [] (l.take k) ∧ ltK (l[k - 1]'(by omega)).1 l[k].1 := by
  rw [List.take_add_one, List.getElem?_eq_getElem hk]
  show rise 0 [] (l.take k ++ [l[k]]) ↔ _
  rw [rise_snoc]
  have e : (l.take k).getLast? = some (l[k - 1]'(by omega)) := by
    rw [List.getLast?_eq_getElem?, List.length_take, Nat.min_eq_left (by omega), List.getElem?_take_of_lt (by omega), List.getElem?_eq_getElem]
  rw [e]
  simp only [List.length_take]
  constructor
  · rintro ⟨h1, h2⟩; exact ⟨h1, h2 (by omega)⟩
  · rintro ⟨h1, h2⟩; exact ⟨h1, fun _ => h2⟩
theorem rise_take : ∀ (l : List Pr) (i : Nat) (ah : Ks) (k : Nat), rise i ah l → rise i ah (l.take k)
  | [], _, _, _, _ => by simp [rise]
  | _ :: _, _, _, 0, _ => by simp [rise]
  | x :: l, i, ah, k + 1, h => by rw [List.take_succ_cons]; exact ⟨h.1, rise_take l (i + 1) x.1 k h.2⟩
theorem rise_one (l : List Pr) : rise 0 [] (l.take 1) := by
  cases l with
  | nil => simp [rise]
  | cons x l => simp [rise]
set_option maxRecDepth 100000 in
set_option maxHeartbeats 2000000 in
theorem mayBe_any (v : Value) (l : List Pr) (w : World) (hP : PReads w v l) :
    Calls Try.prog 42 #[v] w fun e w' => e = .returned (.int .i64 (mbF l)) ∧ Below w.heap.size w w' := by
  obtain ⟨a, cap, rfl, hcap, hm, h3⟩ := hP
  unfold maxLen at hm
  have H3 : Hid _ := h3
  clear h3
  go_enter Try.func42, Try.ntmps42
  by_cases g1 : (4096 : Int) < (l.length : Int)
  · go_wp2_with fail
    go_ret
    have : mbF l = 2 := by unfold mbF; rw [if_pos (by omega)]
    rw [this]
    exact ⟨rfl, Below.refl _ _⟩
  go_wp2_with fail
  go_loopw [11] (fun i wr => ∃ k : Nat, k ≤ l.length ∧ i = .int .i64 (k : Int) ∧ Hid (∀ x ∈ l.take k, okP x) ∧ Hid (Below w.heap.size w wr)) (fun i _ => l.length - (intOf i).toNat)
  case atStart => exact ⟨0, by omega, rfl, fun x hx => by simp at hx, Below.refl _ _⟩
  case round =>
    obtain ⟨k, hk, rfl, HO, HW⟩ := hrel
    by_cases hlt : k < l.length
    · obtain ⟨bA, oA, rfl, hbA, hA⟩ := H3.out.resolve_left (fun h => by rw [h] at hlt; simp at hlt)
      obtain ⟨kv, vv, q0, q1, r0, r1⟩ := hA k hlt
      obtain ⟨X, HX⟩ := hid_ex l[k]
      rw [← HX.out] at r0 r1
      have HTk : Hid (l.take (k + 1) = l.take k ++ [X]) := by unfold Hid; rw [List.take_add_one, List.getElem?_eq_getElem hlt, HX.out]; rfl
      have HXm : Hid (X ∈ l) := by rw [HX.out]; exact List.getElem_mem hlt
      have c0 := (HW.out.cell (p := ⟨bA, oA + k * 2, none⟩) hbA).trans q0
      have c1 := (HW.out.cell (p := ⟨bA, oA + k * 2 + 1, none⟩) hbA).trans q1
      obtain ⟨ak, ck, rfl, hmk⟩ := r0.form
      obtain ⟨av, cv, rfl, hmv⟩ := r1.form
      unfold maxLen at hmk hmv
      clear hA q0 q1 r0 r1 HX
      have HAl : Hid (Below w.heap.size w (wr.alloc (.cells #[.slice ak X.1.length ck, .slice av X.2.length cv] 70))) := HW.out.alloc HW.out.size _
      by_cases e1 : (4096 : Int) < (X.1.length : Int)
      · go_wp2_with fail
        go_ret
        have : mbF l = 2 := by
          unfold mbF
          rw [if_neg (by omega), if_pos (fun h => by have := (h X HXm.out).1; omega)]
        rw [this]
        exact ⟨rfl, HAl.out⟩
      by_cases e2 : (4096 : Int) < (X.2.length : Int)
      · go_wp2_with fail
        go_ret
        have : mbF l = 2 := by
          unfold mbF
          rw [if_neg (by omega), if_pos (fun h => by have := (h X HXm.out).2; omega)]
        rw [this]
        exact ⟨rfl, HAl.out⟩
      go_wp2_with fail
      go_roundw
      case rel =>
        refine ⟨k + 1, by omega, by go_num, ?_, HAl⟩
        rw [HTk.out]
        intro y hy
        rcases List.mem_append.1 hy with hy | hy
        · exact HO.out y hy
        · simp at hy; subst hy; exact ⟨by omega, by omega⟩
      case measure => simp [intOf]; omega
    · have hkl : k = l.length := by omega
      rw [hkl, List.take_length] at HO
      go_wp2_with fail
      go_loopw [5] (fun i wr => ∃ k : Nat, 1 ≤ k ∧ (k ≤ l.length ∨ k = 1) ∧ i = .int .i64 (k : Int) ∧ Hid (rise 0 [] (l.take k)) ∧ Hid (Below w.heap.size w wr)) (fun i _ => l.length - (intOf i).toNat)
      case atStart => exact ⟨1, by omega, by omega, rfl, rise_one l, HW⟩
      case round =>
        obtain ⟨k, hk1, hk2, rfl, HR, HW⟩ := hrel
        by_cases hlt : k < l.length
        · obtain ⟨bA, oA, rfl, hbA, hA⟩ := H3.out.resolve_left (fun h => by rw [h] at hlt; simp at hlt)
          obtain ⟨k', rfl⟩ : ∃ k', k = k' + 1 := ⟨k - 1, by omega⟩
          obtain ⟨kx, _, q0, _, r0, _⟩ := hA (k' + 1) hlt
          obtain ⟨ky, _, q1, _, r1, _⟩ := hA k' (by omega)
          have HST : Hid (rise 0 [] (l.take (k' + 1 + 1)) ↔ rise 0 [] (l.take (k' + 1)) ∧ ltK (l[k']'(by omega)).1 l[k' + 1].1) := rise_step (by omega) hlt
          obtain ⟨X, HX⟩ := hid_ex l[k' + 1]
          obtain ⟨Y, HY⟩ := hid_ex (l[k']'(by omega))
          rw [← HX.out] at r0 HST
          rw [← HY.out] at r1 HST
          have c0 := (HW.out.cell (p := ⟨bA, oA + (k' + 1) * 2, none⟩) hbA).trans q0
          have c1 := (HW.out.cell (p := ⟨bA, oA + k' * 2, none⟩) hbA).trans q1
          have HRx : Hid (Reads w kx X.1) := r0
          have HRy : Hid (Reads w ky Y.1) := r1
          clear hA q0 q1 r0 r1 HX HY
          have HWQ : Hid _ := fun n => below_drewN HW.out n
          go_wp2_with fail
          go_quiet (exact (cmp_any _ _ Y.1 X.1 _ (HRy.out.below (below_drewN HW.out _)) (HRx.out.below (below_drewN HW.out _))).mono (fun e w' h => ⟨h.1, _, h.2⟩))
          have HW2 : Hid (Below w.heap.size w (wr.drewN nq)) := below_drewN HW.out nq
          clear c0 c1 HRx HRy HWQ
          by_cases hl : ltK Y.1 X.1
          · have hc : Lib.compareBytes Y.1 X.1 = -1 := hl
            rw [hc]
            go_wp2_with fail
            go_roundw
            case rel => exact ⟨k' + 1 + 1, by omega, by omega, by go_num, HST.out.2 ⟨HR.out, hl⟩, HW2⟩
            case measure => simp [intOf]; omega
          · have hc : 0 ≤ Lib.compareBytes Y.1 X.1 := cmp_ge.2 hl
            go_wp2_with fail
            go_ret
            have : mbF l = 50 := by
              unfold mbF
              rw [if_neg (by omega), if_neg (fun h => h HO.out), if_pos (fun h => hl (HST.out.1 (rise_take _ _ _ _ h)).2)]
            rw [this]
            exact ⟨rfl, HW2.out⟩
        · go_wp2_with fail
          go_ret
          have : mbF l = 0 := mb_zero.2 ⟨by omega, HO.out, by have := HR.out; rwa [List.take_of_length_le (by omega)] at this⟩
          rw [this]
          exact ⟨rfl, HW.out⟩
end Go.Proofs.Ytgjbnampjgpmfaa
