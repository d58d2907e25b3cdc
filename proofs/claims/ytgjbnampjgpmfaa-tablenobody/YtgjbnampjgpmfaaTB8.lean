/- V3 V4 F1 FX, joined. -/
import Derived.Test.YtgjbnampjgpmfaaTB7
import Derived.Test.YtgjbnampjgpmfaaRows
import Derived.RangeFuncLeaves
import Derived.RangeFuncOwn
import Derived.RangeFuncSeq
import Derived.RangeFuncIn
import Derived.RangeFuncRecord
import Derived.Below
/- The contracts of crc.number and crc.appendNumber. -/
namespace Go.Proofs.Ytgjbnampjgpmfaa
open Go.RowKit

theorem vle_snoc (l : List UInt8) (x : UInt8) : vle (l ++ [x]) = vle l + x.toNat * 2 ^ (8 * l.length) := by
  induction l with
  | nil => simp [vle]
  | cons y l ih =>
    simp only [List.cons_append, vle, ih, List.length_cons]
    rw [show 8 * (l.length + 1) = 8 + 8 * l.length by omega, Nat.pow_add, Nat.mul_add, Nat.add_assoc]
    congr 1
    rw [← Nat.mul_assoc, ← Nat.mul_assoc, Nat.mul_comm (x.toNat) (2 ^ 8)]
theorem vle_lt (l : List UInt8) : vle l < 2 ^ (8 * l.length) := by
  induction l with
  | nil => simp [vle]
  | cons y l ih =>
    have := y.toNat_lt
    rw [vle, List.length_cons, show 8 * (l.length + 1) = 8 + 8 * l.length by omega, Nat.pow_add]
    omega
theorem x_or {l : List UInt8} {x : UInt8} (h : l.length < 4) : bits .or .u32 (vle l : Int) ((x.toNat * 2 ^ (8 * l.length) : Nat) : Int) = ((vle (l ++ [x]) : Nat) : Int) := by
  have hv := vle_lt l
  have hx := x.toNat_lt
  have hp : 2 ^ (8 * l.length) ≤ 2 ^ 24 := Nat.pow_le_pow_right (by decide) (by omega)
  have hm : x.toNat * 2 ^ (8 * l.length) ≤ 255 * 2 ^ 24 := Nat.mul_le_mul (by omega) hp
  rw [u32_or_nat _ _ (by omega) (by omega), vle_snoc, Nat.or_comm, Nat.mul_comm x.toNat, ← Nat.two_pow_add_eq_or_of_lt hv, Nat.add_comm]
set_option maxRecDepth 100000 in
set_option maxHeartbeats 1000000 in
theorem number_some (b off cap : Nat) (l : List UInt8) (hl : l.length ≤ 4) (w : World)
    (hc : ∀ j (h : j < l.length), w.cell? ⟨b, off + j, none⟩ = some (bc l[j])) :
    Calls Try.prog 64 #[.slice (some ⟨b, off, none⟩) l.length cap] w fun e w' => e = .returned (.int .u32 (vle l : Nat)) ∧ w' = w := by
  have HC : Hid (∀ j (h : j < l.length), w.cell? ⟨b, off + j, none⟩ = some (bc l[j])) := hc
  clear hc
  go_enter Try.func64, Try.ntmps64
  go_wp2_with fail
  go_loop [3, 8] (fun r i => ∃ k c : Nat, k ≤ l.length ∧ i = .int .i64 k ∧ r = .int .u32 (c : Int) ∧ Hid (c = vle (l.take k))) (fun _ i => l.length - (intOf i).toNat)
  case atStart => exact ⟨0, 0, Nat.zero_le _, rfl, rfl, rfl⟩
  case round =>
    obtain ⟨k, c, hk, rfl, rfl, HE⟩ := hrel
    by_cases hlt : k < l.length
    · have hcell := HC.out k hlt
      have hxb : l[k].toNat < 256 := l[k].toNat_lt
      have hkl : (l.take k).length = k := by simp; omega
      have hx := x_or (l := l.take k) (x := l[k]) (by omega)
      rw [← List.take_succ_eq_append_getElem hlt, ← HE.out, hkl] at hx
      unfold bc at hcell
      have h4 : (8 : Int) * (k : Int) ≤ 24 := by omega
      have HX : Hid (bits .or .u32 (c : Int) ((l[k].toNat : Int) * 2 ^ (8 * k) % 4294967296) = ((vle (l.take (k + 1)) : Nat) : Int)) := by
        have hp : 2 ^ (8 * k) ≤ 2 ^ 24 := Nat.pow_le_pow_right (by decide) (by omega)
        have hm : l[k].toNat * 2 ^ (8 * k) ≤ 255 * 2 ^ 24 := Nat.mul_le_mul (by omega) hp
        have e : ((l[k].toNat : Int) * 2 ^ (8 * k) % 4294967296) = ((l[k].toNat * 2 ^ (8 * k) : Nat) : Int) := by
          rw [show ((l[k].toNat : Int) * 2 ^ (8 * k)) = ((l[k].toNat * 2 ^ (8 * k) : Nat) : Int) by push_cast; rfl]
          generalize l[k].toNat * 2 ^ (8 * k) = q at *
          omega
        rw [Hid, e]; exact hx
      clear hkl hx
      go_wp2_with fail
      go_round
      case rel => exact ⟨k + 1, _, by omega, by go_num, by rw [HX.out], rfl⟩
      case measure => simp [intOf]; omega
    · have hkl : k = l.length := by omega
      have HS : Hid (c = vle l) := by
        unfold Hid
        rw [HE.out, hkl, List.take_length]
      clear hkl
      go_wp2_with fail
      go_ret
      exact ⟨by rw [HS.out]; rfl, rfl⟩
theorem number_none (a : Option Addr) (cap : Nat) (w : World) :
    Calls Try.prog 64 #[.slice a 0 cap] w fun e w' => e = .returned (.int .u32 (vle [] : Nat)) ∧ w' = w := by
  go_enter Try.func64, Try.ntmps64
  go_wp2_with fail
  go_loop [3, 8] (fun r i => i = .int .i64 0 ∧ r = .int .u32 0) (fun _ _ => 0)
  case atStart => exact ⟨rfl, rfl⟩
  case round =>
    obtain ⟨rfl, rfl⟩ := hrel
    go_wp2_with fail
    go_ret
    exact ⟨rfl, rfl⟩
theorem number_any (v : Value) (l : List UInt8) (hl : l.length ≤ 4) (w : World) (h : Reads w v l) :
    Calls Try.prog 64 #[v] w fun e w' => e = .returned (.int .u32 (vle l : Nat)) ∧ w' = w := by
  rcases h with ⟨rfl, a, cap, rfl, _⟩ | ⟨b, off, cap, rfl, h2, h3, h4, h5, h6⟩
  · exact number_none a cap w
  · exact number_some b off cap l hl w h6
/-- A number's bytes, so many, the least one first. -/
def frs (n : Nat) : Nat → List UInt8
  | 0 => []
  | k + 1 => frs n k ++ [UInt8.ofNat (n / 2 ^ (8 * k))]
theorem frs_len (n k : Nat) : (frs n k).length = k := by
  induction k with
  | zero => rfl
  | succ k ih => simp [frs, ih]
theorem frs_four (n : Nat) : frs n 4 = four n := by simp [frs, four]
set_option maxRecDepth 100000 in
set_option maxHeartbeats 1000000 in
theorem appendNumber_any (v : Value) (L : List UInt8) (n : Nat) (base : Nat) (w : World) (hown : Own w base v L) (hL : L.length ≤ 1000000) (hbase : base ≤ w.heap.size) :
    Calls Try.prog 45 #[v, .int .u32 (n : Int)] w fun e w' => ∃ v', e = .returned v' ∧ Own w' base v' (L ++ four n) ∧ Below base w w' := by
  go_enter Try.func45, Try.ntmps45
  go_wp2_with fail
  go_loopw [0, 6] (fun x i wr => ∃ (k : Nat) (M : List UInt8), k ≤ 4 ∧ i = .int .i64 (k : Int) ∧ Hid (M = L ++ frs n k) ∧ Own wr base x M ∧ Hid (Below base w wr)) (fun _ i _ => 4 - (intOf i).toNat)
  case atStart => exact ⟨0, L, by omega, rfl, by rw [frs, List.append_nil]; rfl, hown, Below.refl _ _⟩
  case round =>
    obtain ⟨k, M, hk, rfl, HM, HR, HB⟩ := hrel
    have hsz := HB.out.size
    have hml : M.length = L.length + k := by rw [HM.out, List.length_append, frs_len]
    by_cases hlt : k < 4
    · have h4 : (8 : Int) * (k : Int) ≤ 24 := by omega
      have HU : Hid (Value.int .u8 ((n : Int) / 2 ^ (8 * k) % 256) = bc (UInt8.ofNat (n / 2 ^ (8 * k)))) := by
        unfold Hid bc
        rw [UInt8.toNat_ofNat']
        push_cast; rfl
      have HN : Hid (M ++ [UInt8.ofNat (n / 2 ^ (8 * k))] = L ++ frs n (k + 1)) := by rw [HM.out, frs, List.append_assoc]; rfl
      generalize hM' : M ++ [UInt8.ofNat (n / 2 ^ (8 * k))] = M' at HN
      have HM' : Hid (M' = M ++ [UInt8.ofNat (n / 2 ^ (8 * k))]) := hM'.symm
      clear hM'
      go_wp2_with (at_builtin; refine wpList_app1 rfl _ _ rfl base _ M (UInt8.ofNat (n / 2 ^ (8 * k))) M' HM'.out HU.out rfl rfl HR (by omega) (by omega) ?_)
      intro v' w1 hown1 hb1
      have HB1 : Hid (Below base w w1) := HB.out.trans hb1.out
      clear hb1 HB HM'
      go_wp2_with fail
      go_roundw
      case rel => exact ⟨k + 1, M', by omega, by go_num, HN, hown1, HB1⟩
      case measure => simp [intOf]; omega
    · have HK : Hid (M = L ++ four n) := by
        have hk4 : k = 4 := by omega
        rw [HM.out, hk4, frs_four]; rfl
      clear hml
      go_wp2_with fail
      go_ret
      exact ⟨_, rfl, by rw [← HK.out]; exact HR, HB.out⟩
end Go.Proofs.Ytgjbnampjgpmfaa

/- The contract of crc.Frame. -/
namespace Go.Proofs.Ytgjbnampjgpmfaa
open Go.RowKit

/-- A frame. -/
def frm (l : List UInt8) : List UInt8 := (four l.length ++ l) ++ four (mor 0 (four l.length ++ l))
theorem four_len (n : Nat) : (four n).length = 4 := rfl
theorem frm_len (l : List UInt8) : (frm l).length = l.length + 8 := by unfold frm; simp [four_len]; omega
set_option maxRecDepth 100000 in
set_option maxHeartbeats 1000000 in
theorem frame_any (v : Value) (l : List UInt8) (hl : l.length ≤ 65535) (w : World) (hr : Reads w v l) :
    Calls Try.prog 30 #[v] w fun e w' => ∃ v', e = .returned (.tuple #[v', .int .i64 0]) ∧ Own w' w.heap.size v' (frm l) ∧ Below w.heap.size w w' := by
  obtain ⟨i0, hi, hz0, hz1, hz2⟩ := info_parts info5
  obtain ⟨w0, hrn, hown0, hg0⟩ := run_make_own (P := Try.prog) w w.heap.size 22 5 i0 (.int .u8 0) 1 Try.underlying22 hi hz0 hz1 .i64 .i64 (l.length + 8) (by rw [hz2]; omega) (by unfold maxLen; omega) (Nat.le_refl _)
  have e2 : ((l.length + 8 : Nat) : Int) = (l.length : Int) + 8 := by omega
  rw [e2] at hrn
  clear e2
  have HB0 : Hid (Below w.heap.size w w0) := (Below.refl _ _).grown hg0 (Nat.le_refl _) (fun k hk => by cases hk)
  have HO0 : Own w0 w.heap.size (.slice (some ⟨w.heap.size, 0, none⟩) 0 (l.length + 8)) [] := hown0
  clear hown0 hg0 hi hz0 hz1 hz2
  obtain ⟨a, cap, rfl, _⟩ := hr.form
  have hsz0 := HB0.out.size
  go_enter Try.func30, Try.ntmps30
  go_wp2_with fail
  refine (appendNumber_any _ [] l.length _ _ HO0 (by simp) hsz0).mono ?_
  rintro e w1 ⟨v1, rfl, HO1, hb1⟩
  have HB1 : Hid (Below w.heap.size w w1) := HB0.out.trans hb1
  have hr1 : Reads w1 (.slice a l.length cap) l := hr.below HB1.out
  have hsz1 := HB1.out.size
  clear hr hb1 hrn HO0
  obtain ⟨M, HM⟩ := hid_ex (([] ++ four l.length) ++ l)
  go_wp2_with (at_builtin; refine wpList_app rfl _ _ rfl w.heap.size _ _ ([] ++ four l.length) l M HM.out rfl rfl HO1 hr1 (by simp [four_len]; omega) hsz1 ?_)
  intro v2 w2 HO2 hb2
  have HB2 : Hid (Below w.heap.size w w2) := HB1.out.trans hb2.out
  have hsz2 := HB2.out.size
  have HML : Hid (M.length = l.length + 4) := by unfold Hid; rw [HM.out]; simp [four_len]; omega
  clear hb2 HO1 hr1
  go_wp2_with fail
  refine (sum_any _ M _ HO2.reads).mono ?_
  rintro e w3 ⟨rfl, hw⟩
  subst w3
  go_wp2_with fail
  refine (appendNumber_any _ M (mor 0 M) _ _ HO2 (by rw [HML.out]; omega) hsz2).mono ?_
  rintro e w4 ⟨v4, rfl, HO4, hb4⟩
  have HB4 : Hid (Below w.heap.size w w4) := HB2.out.trans hb4
  have HF : Hid (M ++ four (mor 0 M) = frm l) := by rw [HM.out]; rfl
  clear hb4 HO2
  go_wp2_with fail
  go_ret2
  exact ⟨_, rfl, by rw [← HF.out]; exact HO4, HB4.out⟩
theorem frame_long (v : Value) (l : List UInt8) (hl : 65535 < l.length) (w : World) (hr : Reads w v l) :
    Calls Try.prog 30 #[v] w fun e w' => e = .returned (.tuple #[.slice none 0 0, .int .i64 2]) ∧ w' = w := by
  obtain ⟨a, cap, rfl, _⟩ := hr.form
  clear hr
  have h1 : (65535 : Int) < (l.length : Int) := by omega
  go_enter Try.func30, Try.ntmps30
  go_wp2_with fail
  go_ret2
  exact ⟨rfl, rfl⟩
end Go.Proofs.Ytgjbnampjgpmfaa

/- A range over a function that tells something of what it hands over: a law of our own. -/
namespace Go.Proofs.Ytgjbnampjgpmfaa
open Go.RowKit

/-- B has what A has in cells, and all that lies below n. -/
structure Kc (n : Nat) (A B : World) : Prop where
  b : Below n A B
  c : ∀ (k : Nat) (cs : Array Value) (t : TypeId) (fr : Nat × Nat), A.heap[k]? = some (Obj.cells cs t fr) → B.heap[k]? = some (Obj.cells cs t fr)
theorem Kc.of_below {n : Nat} {A B : World} (h : Below A.heap.size A B) (hn : n ≤ A.heap.size) : Kc n A B :=
  ⟨h.mono hn, fun k _ _ _ hk => (h.block k (Array.getElem?_eq_some_iff.1 hk).1).trans hk⟩
theorem Kc.put {n : Nat} {A : World} {l : Nat} {o : Obj} (o' : Obj) (h : A.heap[l]? = some o) (ho : o.isCells = false) (hn : n ≤ l) : Kc n A (A.putObj l o') := by
  refine ⟨(Below.refl n A).grown (grownBy_putObj' A l o') (by have := (Array.getElem?_eq_some_iff.1 h).1; omega) (fun k e => by cases e; exact hn), fun k cs t fr hk => ?_⟩
  by_cases e : k = l
  · subst e
    rw [h] at hk
    simp at hk
    subst hk
    simp [Obj.isCells] at ho
  · rw [World.putObj_heap_other e]; exact hk
variable {F : Fence} {n : Nat} {P : Program}
/-- What the function that is ranged over must do: it hands over what meets Pre, one behind the other, and in the end S. -/
def SeqP {α : Type} (F : Fence) (n : Nat) (P : Program) (g : Nat) (lb : Array Value) (encs : α → Array Value) (n₀ : Nat) (Pre : List α → α → World → Prop) (S : List α → Prop) (w : World) : Prop :=
  ∀ (l : Nat) (J : List α → World → Prop) (W : World), Kc n₀ w W → n₀ ≤ W.heap.size → (∀ pre A B, J pre A → Below A.heap.size A B → J pre B) →
    (∀ pre x W1, J pre W1 → Pre pre x W1 → n₀ ≤ W1.heap.size → YieldAt F (n - 1) P l (encs x) W1 fun e W' => e = .returned (.bool true) ∧ J (pre ++ [x]) W' ∧ Below n₀ W1 W') →
    J [] W → CallsIn F n P g (#[.func (.yield l) #[] #[]] ++ lb) W fun e W' => (∃ v, e = .returned v) ∧ ∃ xs, S xs ∧ J xs W'
/-- How a round that goes on ends. -/
def postP {α : Type} (n₀ : Nat) (I : List α → World → Prop) (xs : List α) (W : World) : Exit → Act → World → Prop
  | .normal, _, W' => KeepsOthers W W' ∧ Below n₀ W W' ∧ I xs W'
  | _, _, _ => False
theorem wpIn_range_pre {α : Type} {g : Operand} {ps : Array Tmp} {assign body : Code} {Q : Exit → Act → World → Prop} {a : Act} {w : World}
    (hro : F.round = none) (h1 : 1 ≤ n) {gf : Nat} {lb : Array Value} (hg : a.eval g = .func (.func gf) #[] lb) (hFg : F.fn gf) (eg : ∀ args w, (callFunc gf args).run P w = .ok (.enter gf args) w)
    {encs : α → Array Value} (hps : ∀ x, (encs x).size = ps.size) (I : List α → World → Prop) (Pre : List α → α → World → Prop) (S : List α → Prop)
    (n₀ : Nat) (hn₀ : n₀ ≤ w.heap.size) (hseq : SeqP F (n - 1) P gf lb encs n₀ Pre S w)
    (hI : ∀ pre A B, I pre A → Kc n₀ A B → I pre B) (hP : ∀ pre x A B, Pre pre x A → Kc n₀ A B → Pre pre x B) (h0 : I [] w) (a₁ : α → Act)
    (hassign : ∀ (l : Nat) (x : α) (W : World) (K : Act → World → Prop), K (a₁ x) W →
      assign.wpIn (F.inRound l) (n - 1 - 1) P (Exit.then K (fun _ _ _ => False)) { tmps := (ps.zip (encs x)).foldl (fun t (p, v) => t.setIfInBounds p v) a.tmps, defers := [] } W)
    (hbody : ∀ (l : Nat) (pre : List α) (x : α) (W : World), I pre W → Pre pre x W → n₀ ≤ W.heap.size → body.wpIn (F.inRound l) (n - 1 - 1) P (postP n₀ I (pre ++ [x]) W) (a₁ x) W)
    (hdone : ∀ (D : Nat) (xs : List α) (W : World), w.heap.size ≤ D → S xs → I xs W → W.heap[D]? = some (.deferred (some [])) → Q .normal { a with defers := { target := .collected D, args := #[] } :: a.defers } W) :
    (Code.rangeFunc g ps assign body).wpIn F n P Q a w := by
  refine wpIn_rangeFunc ?_
  intro fn hfn
  rw [hro]
  have hen := run_enterLoop_outer (P := P) (w := w) fn a.tmps ps assign body
  generalize hd : w.heap.size = d at *
  generalize hr0 : ({ state := .ready, pending := none, fn := fn, tmps := a.tmps, params := ps, assign := assign, body := body, defers := d } : Loop) = r0 at *
  have e1 : r0.fn = fn := by rw [← hr0]
  have e2 : r0.params = ps := by rw [← hr0]
  have e3 : r0.state = .ready := by rw [← hr0]
  have e4 : r0.tmps = a.tmps := by rw [← hr0]
  have e5 : r0.assign = assign := by rw [← hr0]
  have e6 : r0.body = body := by rw [← hr0]
  have e7 : r0.pending = none := by rw [← hr0]
  generalize hW : (w.alloc (.deferred (some []))).alloc (.loop r0) = W0 at *
  have hB : Below d w W0 := by
    rw [← hW]
    exact ((Below.refl d w).alloc (by omega) _).alloc (by simp; omega) _
  have hz : W0.heap.size = d + 2 := by rw [← hW]; simp; omega
  have hD0 : W0.heap[d]? = some (.deferred (some [])) := by
    rw [← hW, Below.heap_alloc _ _ _ (by simp; omega), ← hd]; exact World.alloc_heap_new w _
  have hL0 : W0.heap[d + 1]? = some (.loop r0) := by
    have := World.alloc_heap_new (w.alloc (.deferred (some []))) (.loop r0)
    rw [World.size_alloc, hd, hW] at this
    exact this
  refine ⟨d + 1, _, W0, { target := .fn (.func gf) lb, args := #[.func (.yield (d + 1)) #[] #[]] }, W0, gf, #[.func (.yield (d + 1)) #[] #[]] ++ lb, W0, hen, ?_, ?_, ?_, fun _ => h1, ?_⟩
  · simp only [resolve, hg]; simp [go_sem]
  · intro f' hf'; simp [Target.leads] at hf'; subst hf'; exact hFg
  · simp [invoke, go_sem, eg]
  · have hKw : Kc n₀ w W0 := ⟨hB.mono hn₀, fun k _ _ _ hk => (hB.block k (by have := (Array.getElem?_eq_some_iff.1 hk).1; omega)).trans hk⟩
    have hI0 : I [] W0 := hI [] w W0 h0 hKw
    refine (hseq (d + 1) (fun pre W => I pre W ∧ W.heap[d + 1]? = some (.loop r0) ∧ W.heap[d]? = some (.deferred (some [])) ∧ d ≤ W.heap.size) W0 hKw (by omega) ?_ ?_ ⟨hI0, hL0, hD0, by omega⟩).mono ?_
    · rintro pre A B ⟨q1, q2, q3, q4⟩ hb
      have hs := hb.size
      exact ⟨hI pre A B q1 (Kc.of_below hb (by omega)), (hb.block _ (Array.getElem?_eq_some_iff.1 q2).1).trans q2, (hb.block _ (Array.getElem?_eq_some_iff.1 q3).1).trans q3, by omega⟩
    · rintro pre x W ⟨q1, q2, q3, q4⟩ hpx hdw
      have hl := (Array.getElem?_eq_some_iff.1 q2).1
      have hy := run_yield (P := P) (args := encs x) q2 (by rw [e2]; exact hps x)
      rw [e1, e2, e4, e5, e6] at hy
      refine ⟨fn, _, assign, body, hy, roundIn_of_wpIn hfn (hassign _ x W _ ⟨_, run_beginRound q2 e3, ?_⟩)⟩
      have k1 := Kc.put (n := n₀) (.loop { r0 with state := .busy }) q2 rfl (by omega)
      have l1 : (W.putObj (d + 1) (.loop { r0 with state := .busy })).heap[d + 1]? = some (.loop { r0 with state := .busy }) := World.putObj_heap_same hl
      have d1 : (W.putObj (d + 1) (.loop { r0 with state := .busy })).heap[d]? = some (.deferred (some [])) := (World.putObj_heap_other (by omega)).trans q3
      refine wpIn_mono (hbody _ pre x _ (hI _ _ _ q1 k1) (hP _ _ _ _ hpx k1) (by simp; omega)) ?_
      intro e a3 W3 hp
      cases e with
      | normal =>
        obtain ⟨m1, m2, m3⟩ := hp
        have l3 := m1.same _ _ l1 rfl
        have d3 := m1.same _ _ d1 rfl
        have hend := run_endRound (P := P) none l3
        have hl3 := (Array.getElem?_eq_some_iff.1 l3).1
        have e9 : ({ ({ r0 with state := .busy } : Loop) with state := if (none : Option Code).isNone then .ready else .done, pending := none } : Loop) = r0 := by
          rw [← hr0]; rfl
        rw [e9] at hend
        have k3 := Kc.put (n := n₀) (.loop r0) l3 rfl (by omega)
        exact ⟨_, _, hend, rfl, ⟨hI _ _ _ m3 k3, World.putObj_heap_same hl3, (World.putObj_heap_other (by omega)).trans d3, by have := m1.size; simp at this ⊢; omega⟩, (k1.b.trans m2).trans k3.b⟩
      | ret => exact hp.elim
      | exit id => exact hp.elim
      | goto t => exact hp.elim
      | panic ch => exact hp.elim
      | outgrown => exact hp.elim
    · rintro e W2 ⟨⟨v, rfl⟩, xs, hS, q1, q2, q3, q4⟩
      have hend := run_endLoop (P := P) q2 (by rw [e3]; simp)
      rw [e7] at hend
      refine ⟨none, _, hend, ?_⟩
      exact hdone d xs _ (by omega) hS (hI _ _ _ q1 (Kc.put _ q2 rfl (by omega))) ((World.putObj_heap_other (by omega)).trans q3)
end Go.Proofs.Ytgjbnampjgpmfaa

/- A range over a function whose body may leave early: a law of our own. -/
namespace Go.Proofs.Ytgjbnampjgpmfaa
open Go.RowKit

variable {F : Fence} {n : Nat} {P : Program}
/-- What the function that is ranged over must do, if rounds may say no more. -/
def SeqX {α : Type} (F : Fence) (n : Nat) (P : Program) (g : Nat) (lb : Array Value) (encs : α → Array Value) (n₀ : Nat) (Pre : List α → α → World → Prop) (S Sp : List α → Prop) (w : World) : Prop :=
  ∀ (l : Nat) (J Jx : List α → World → Prop) (W : World), Kc n₀ w W → n₀ ≤ W.heap.size → (∀ pre A B, J pre A → Below A.heap.size A B → J pre B) → (∀ pre A B, Jx pre A → Below A.heap.size A B → Jx pre B) →
    (∀ pre x W1, J pre W1 → Pre pre x W1 → n₀ ≤ W1.heap.size → YieldAt F (n - 1) P l (encs x) W1 fun e W' => (e = .returned (.bool true) ∧ J (pre ++ [x]) W' ∧ Below n₀ W1 W') ∨ (e = .returned (.bool false) ∧ Jx (pre ++ [x]) W')) →
    J [] W → CallsIn F n P g (#[.func (.yield l) #[] #[]] ++ lb) W fun e W' => (∃ v, e = .returned v) ∧ ((∃ xs, S xs ∧ J xs W') ∨ ∃ xs, Sp xs ∧ Jx xs W')
/-- How a round ends. -/
def postX {α : Type} (n₀ : Nat) (I : List α → World → Prop) (Ix : Code → List α → World → Prop) (xs : List α) (W : World) : Exit → Act → World → Prop
  | .normal, _, W' => KeepsOthers W W' ∧ Below n₀ W W' ∧ I xs W'
  | .ret, _, W' => KeepsOthers W W' ∧ Ix .ret xs W'
  | .exit id, _, W' => KeepsOthers W W' ∧ Ix (.exit id) xs W'
  | _, _, _ => False
theorem wpIn_range_x {α : Type} {g : Operand} {ps : Array Tmp} {assign body : Code} {Q : Exit → Act → World → Prop} {a : Act} {w : World}
    (hro : F.round = none) (h1 : 1 ≤ n) {gf : Nat} {lb : Array Value} (hg : a.eval g = .func (.func gf) #[] lb) (hFg : F.fn gf) (eg : ∀ args w, (callFunc gf args).run P w = .ok (.enter gf args) w)
    {encs : α → Array Value} (hps : ∀ x, (encs x).size = ps.size) (I : List α → World → Prop) (Ix : Code → List α → World → Prop) (Pre : List α → α → World → Prop) (S Sp : List α → Prop)
    (n₀ : Nat) (hn₀ : n₀ ≤ w.heap.size) (hseq : SeqX F (n - 1) P gf lb encs n₀ Pre S Sp w)
    (hI : ∀ pre A B, I pre A → Kc n₀ A B → I pre B) (hIx : ∀ c pre A B, Ix c pre A → Kc n₀ A B → Ix c pre B) (hP : ∀ pre x A B, Pre pre x A → Kc n₀ A B → Pre pre x B) (h0 : I [] w) (a₁ : α → Act)
    (hassign : ∀ (l : Nat) (x : α) (W : World) (K : Act → World → Prop), K (a₁ x) W →
      assign.wpIn (F.inRound l) (n - 1 - 1) P (Exit.then K (fun _ _ _ => False)) { tmps := (ps.zip (encs x)).foldl (fun t (p, v) => t.setIfInBounds p v) a.tmps, defers := [] } W)
    (hbody : ∀ (l : Nat) (pre : List α) (x : α) (W : World), I pre W → Pre pre x W → n₀ ≤ W.heap.size → body.wpIn (F.inRound l) (n - 1 - 1) P (postX n₀ I Ix (pre ++ [x]) W) (a₁ x) W)
    (hdone : ∀ (D : Nat) (xs : List α) (W : World), w.heap.size ≤ D → S xs → I xs W → W.heap[D]? = some (.deferred (some [])) → Q .normal { a with defers := { target := .collected D, args := #[] } :: a.defers } W)
    (hleft : ∀ (D : Nat) (xs : List α) (c : Code) (W : World), w.heap.size ≤ D → Sp xs → Ix c xs W → W.heap[D]? = some (.deferred (some [])) → c.wpIn F n P Q { a with defers := { target := .collected D, args := #[] } :: a.defers } W) :
    (Code.rangeFunc g ps assign body).wpIn F n P Q a w := by
  refine wpIn_rangeFunc ?_
  intro fn hfn
  rw [hro]
  have hen := run_enterLoop_outer (P := P) (w := w) fn a.tmps ps assign body
  generalize hd : w.heap.size = d at *
  generalize hr0 : ({ state := .ready, pending := none, fn := fn, tmps := a.tmps, params := ps, assign := assign, body := body, defers := d } : Loop) = r0 at *
  have e1 : r0.fn = fn := by rw [← hr0]
  have e2 : r0.params = ps := by rw [← hr0]
  have e3 : r0.state = .ready := by rw [← hr0]
  have e4 : r0.tmps = a.tmps := by rw [← hr0]
  have e5 : r0.assign = assign := by rw [← hr0]
  have e6 : r0.body = body := by rw [← hr0]
  have e7 : r0.pending = none := by rw [← hr0]
  generalize hW : (w.alloc (.deferred (some []))).alloc (.loop r0) = W0 at *
  have hB : Below d w W0 := by
    rw [← hW]
    exact ((Below.refl d w).alloc (by omega) _).alloc (by simp; omega) _
  have hz : W0.heap.size = d + 2 := by rw [← hW]; simp; omega
  have hD0 : W0.heap[d]? = some (.deferred (some [])) := by
    rw [← hW, Below.heap_alloc _ _ _ (by simp; omega), ← hd]; exact World.alloc_heap_new w _
  have hL0 : W0.heap[d + 1]? = some (.loop r0) := by
    have := World.alloc_heap_new (w.alloc (.deferred (some []))) (.loop r0)
    rw [World.size_alloc, hd, hW] at this
    exact this
  refine ⟨d + 1, _, W0, { target := .fn (.func gf) lb, args := #[.func (.yield (d + 1)) #[] #[]] }, W0, gf, #[.func (.yield (d + 1)) #[] #[]] ++ lb, W0, hen, ?_, ?_, ?_, fun _ => h1, ?_⟩
  · simp only [resolve, hg]; simp [go_sem]
  · intro f' hf'; simp [Target.leads] at hf'; subst hf'; exact hFg
  · simp [invoke, go_sem, eg]
  · have hKw : Kc n₀ w W0 := ⟨hB.mono hn₀, fun k _ _ _ hk => (hB.block k (by have := (Array.getElem?_eq_some_iff.1 hk).1; omega)).trans hk⟩
    have hI0 : I [] W0 := hI [] w W0 h0 hKw
    refine (hseq (d + 1) (fun pre W => I pre W ∧ W.heap[d + 1]? = some (.loop r0) ∧ W.heap[d]? = some (.deferred (some [])) ∧ d ≤ W.heap.size)
      (fun pre W => ∃ c, Ix c pre W ∧ W.heap[d + 1]? = some (.loop { r0 with state := .done, pending := some c }) ∧ W.heap[d]? = some (.deferred (some [])) ∧ d ≤ W.heap.size) W0 hKw (by omega) ?_ ?_ ?_ ⟨hI0, hL0, hD0, by omega⟩).mono ?_
    · rintro pre A B ⟨q1, q2, q3, q4⟩ hb
      have hs := hb.size
      exact ⟨hI pre A B q1 (Kc.of_below hb (by omega)), (hb.block _ (Array.getElem?_eq_some_iff.1 q2).1).trans q2, (hb.block _ (Array.getElem?_eq_some_iff.1 q3).1).trans q3, by omega⟩
    · rintro pre A B ⟨c, q1, q2, q3, q4⟩ hb
      have hs := hb.size
      exact ⟨c, hIx c pre A B q1 (Kc.of_below hb (by omega)), (hb.block _ (Array.getElem?_eq_some_iff.1 q2).1).trans q2, (hb.block _ (Array.getElem?_eq_some_iff.1 q3).1).trans q3, by omega⟩
    · rintro pre x W ⟨q1, q2, q3, q4⟩ hpx hdw
      have hl := (Array.getElem?_eq_some_iff.1 q2).1
      have hy := run_yield (P := P) (args := encs x) q2 (by rw [e2]; exact hps x)
      rw [e1, e2, e4, e5, e6] at hy
      refine ⟨fn, _, assign, body, hy, roundIn_of_wpIn hfn (hassign _ x W _ ⟨_, run_beginRound q2 e3, ?_⟩)⟩
      have k1 := Kc.put (n := n₀) (.loop { r0 with state := .busy }) q2 rfl (by omega)
      have l1 : (W.putObj (d + 1) (.loop { r0 with state := .busy })).heap[d + 1]? = some (.loop { r0 with state := .busy }) := World.putObj_heap_same hl
      have d1 : (W.putObj (d + 1) (.loop { r0 with state := .busy })).heap[d]? = some (.deferred (some [])) := (World.putObj_heap_other (by omega)).trans q3
      refine wpIn_mono (hbody _ pre x _ (hI _ _ _ q1 k1) (hP _ _ _ _ hpx k1) (by simp; omega)) ?_
      have left : ∀ (c : Code) (W3 : World), KeepsOthers (W.putObj (d + 1) (.loop { r0 with state := .busy })) W3 → Ix c (pre ++ [x]) W3 →
          ∃ w', (Instr.endRound (d + 1) (some c)).run P W3 = .ok (.bool false) w' ∧ ∃ c, Ix c (pre ++ [x]) w' ∧ w'.heap[d + 1]? = some (.loop { r0 with state := .done, pending := some c }) ∧ w'.heap[d]? = some (.deferred (some [])) ∧ d ≤ w'.heap.size := by
        intro c W3 m1 m3
        have l3 := m1.same _ _ l1 rfl
        have d3 := m1.same _ _ d1 rfl
        have hend := run_endRound (P := P) (some c) l3
        have hl3 := (Array.getElem?_eq_some_iff.1 l3).1
        have k3 := Kc.put (n := n₀) (.loop { r0 with state := .done, pending := some c }) l3 rfl (by omega)
        exact ⟨_, hend, c, hIx _ _ _ _ m3 k3, World.putObj_heap_same hl3, (World.putObj_heap_other (by omega)).trans d3, by have := m1.size; simp at this ⊢; omega⟩
      intro e a3 W3 hp
      cases e with
      | normal =>
        obtain ⟨m1, m2, m3⟩ := hp
        have l3 := m1.same _ _ l1 rfl
        have d3 := m1.same _ _ d1 rfl
        have hend := run_endRound (P := P) none l3
        have hl3 := (Array.getElem?_eq_some_iff.1 l3).1
        have e9 : ({ ({ r0 with state := .busy } : Loop) with state := if (none : Option Code).isNone then .ready else .done, pending := none } : Loop) = r0 := by
          rw [← hr0]; rfl
        rw [e9] at hend
        have k3 := Kc.put (n := n₀) (.loop r0) l3 rfl (by omega)
        exact ⟨_, _, hend, .inl ⟨rfl, ⟨hI _ _ _ m3 k3, World.putObj_heap_same hl3, (World.putObj_heap_other (by omega)).trans d3, by have := m1.size; simp at this ⊢; omega⟩, (k1.b.trans m2).trans k3.b⟩⟩
      | ret =>
        obtain ⟨w', g1, g2⟩ := left _ _ hp.1 hp.2
        exact ⟨_, w', g1, .inr ⟨rfl, g2⟩⟩
      | exit id =>
        obtain ⟨w', g1, g2⟩ := left _ _ hp.1 hp.2
        exact ⟨_, w', g1, .inr ⟨rfl, g2⟩⟩
      | goto t => exact hp.elim
      | panic ch => exact hp.elim
      | outgrown => exact hp.elim
    · rintro e W2 ⟨⟨v, rfl⟩, ⟨xs, hS, q1, q2, q3, q4⟩ | ⟨xs, hS, c, q1, q2, q3, q4⟩⟩
      · have hend := run_endLoop (P := P) q2 (by rw [e3]; simp)
        rw [e7] at hend
        refine ⟨none, _, hend, ?_⟩
        exact hdone d xs _ (by omega) hS (hI _ _ _ q1 (Kc.put _ q2 rfl (by omega))) ((World.putObj_heap_other (by omega)).trans q3)
      · have hend := run_endLoop (P := P) q2 (by simp)
        refine ⟨some c, _, hend, ?_⟩
        exact hleft d xs c _ (by omega) hS (hIx _ _ _ _ q1 (Kc.put _ q2 rfl (by omega))) ((World.putObj_heap_other (by omega)).trans q3)
end Go.Proofs.Ytgjbnampjgpmfaa
