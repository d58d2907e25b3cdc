/- F1 V1 V2 V3 V4, joined. -/
import Derived.Test.YtilbffgpniomcaaGreatDoorOO1
import Derived.Test.YtilbffgpniomcaaGreatDoorRows
import Derived.RangeFuncLeaves
import Derived.RangeFuncOwn
import Derived.RangeFuncSeq
import Derived.RangeFuncIn
import Derived.RangeFuncRecord
import Derived.Below
/- A range over a function that tells something of what it hands over: a law of our own. -/
namespace Go.Proofs.YtilbffgpniomcaaGreatDoor
open Go.RowKit

/-- B has what A has in cells, and all that lies below n. -/
structure Kc (n : Nat) (A B : World) : Prop where
  b : Below n A B
  c : ∀ (k : Nat) (cs : Array Value) (t : TypeId) (fr : Nat × Nat), A.heap[k]? = some (Obj.cells cs t fr) → B.heap[k]? = some (Obj.cells cs t fr)
theorem Kc.of_below {n : Nat} {A B : World} (h : Below A.heap.size A B) (hn : n ≤ A.heap.size) : Kc n A B :=
  ⟨h.mono hn, fun k _ _ _ hk => (h.block k (Array.getElem?_eq_some_iff.1 hk).1).trans hk⟩
theorem Kc.put {n : Nat} {A : World} {l : Nat} {o : Obj} (o' : Obj) (h : A.heap[l]? = some o) (ho : o.isCells = false) (hn : n ≤ l) : Kc n A (A.putObj l o') := by
  refine ⟨(Below.refl n A).grown (grownBy_putObj' A l o') (by have := (Array.getElem?_eq_some_iff.1 h).1; omega) (fun k e => by cases e; exact hn), fun k cs t fr hk => ?_⟩
  by_cases e : k = l
  · subst e
    rw [h] at hk
    simp at hk
    subst hk
    simp [Obj.isCells] at ho
  · rw [World.putObj_heap_other e]; exact hk
variable {F : Fence} {n : Nat} {P : Program}
/-- What the function that is ranged over must do: it hands over what meets Pre, one behind the other, and in the end S. -/
def SeqP {α : Type} (F : Fence) (n : Nat) (P : Program) (g : Nat) (lb : Array Value) (encs : α → Array Value) (n₀ : Nat) (Pre : List α → α → World → Prop) (S : List α → Prop) (w : World) : Prop :=
  ∀ (l : Nat) (J : List α → World → Prop) (W : World), Kc n₀ w W → n₀ ≤ W.heap.size → (∀ pre A B, J pre A → Below A.heap.size A B → J pre B) →
    (∀ pre x W1, J pre W1 → Pre pre x W1 → n₀ ≤ W1.heap.size → YieldAt F (n - 1) P l (encs x) W1 fun e W' => e = .returned (.bool true) ∧ J (pre ++ [x]) W' ∧ Below n₀ W1 W') →
    J [] W → CallsIn F n P g (#[.func (.yield l) #[] #[]] ++ lb) W fun e W' => (∃ v, e = .returned v) ∧ ∃ xs, S xs ∧ J xs W'
/-- How a round that goes on ends. -/
def postP {α : Type} (n₀ : Nat) (I : List α → World → Prop) (xs : List α) (W : World) : Exit → Act → World → Prop
  | .normal, _, W' => KeepsOthers W W' ∧ Below n₀ W W' ∧ I xs W'
  | _, _, _ => False
theorem wpIn_range_pre {α : Type} {g : Operand} {ps : Array Tmp} {assign body : Code} {Q : Exit → Act → World → Prop} {a : Act} {w : World}
    (hro : F.round = none) (h1 : 1 ≤ n) {gf : Nat} {lb : Array Value} (hg : a.eval g = .func (.func gf) #[] lb) (hFg : F.fn gf) (eg : ∀ args w, (callFunc gf args).run P w = .ok (.enter gf args) w)
    {encs : α → Array Value} (hps : ∀ x, (encs x).size = ps.size) (I : List α → World → Prop) (Pre : List α → α → World → Prop) (S : List α → Prop)
    (n₀ : Nat) (hn₀ : n₀ ≤ w.heap.size) (hseq : SeqP F (n - 1) P gf lb encs n₀ Pre S w)
    (hI : ∀ pre A B, I pre A → Kc n₀ A B → I pre B) (hP : ∀ pre x A B, Pre pre x A → Kc n₀ A B → Pre pre x B) (h0 : I [] w) (a₁ : α → Act)
    (hassign : ∀ (l : Nat) (x : α) (W : World) (K : Act → World → Prop), K (a₁ x) W →
      assign.wpIn (F.inRound l) (n - 1 - 1) P (Exit.then K (fun _ _ _ => False)) { tmps := (ps.zip (encs x)).foldl (fun t (p, v) => t.setIfInBounds p v) a.tmps, defers := [] } W)
    (hbody : ∀ (l : Nat) (pre : List α) (x : α) (W : World), I pre W → Pre pre x W → n₀ ≤ W.heap.size → body.wpIn (F.inRound l) (n - 1 - 1) P (postP n₀ I (pre ++ [x]) W) (a₁ x) W)
    (hdone : ∀ (D : Nat) (xs : List α) (W : World), w.heap.size ≤ D → S xs → I xs W → W.heap[D]? = some (.deferred (some [])) → Q .normal { a with defers := { target := .collected D, args := #[] } :: a.defers } W) :
    (Code.rangeFunc g ps assign body).wpIn F n P Q a w := by
  refine wpIn_rangeFunc ?_
  intro fn hfn
  rw [hro]
  have hen := run_enterLoop_outer (P := P) (w := w) fn a.tmps ps assign body
  generalize hd : w.heap.size = d at *
  generalize hr0 : ({ state := .ready, pending := none, fn := fn, tmps := a.tmps, params := ps, assign := assign, body := body, defers := d } : Loop) = r0 at *
  have e1 : r0.fn = fn := by rw [← hr0]
  have e2 : r0.params = ps := by rw [← hr0]
  have e3 : r0.state = .ready := by rw [← hr0]
  have e4 : r0.tmps = a.tmps := by rw [← hr0]
  have e5 : r0.assign = assign := by rw [← hr0]
  have e6 : r0.body = body := by rw [← hr0]
  have e7 : r0.pending = none := by rw [← hr0]
  generalize hW : (w.alloc (.deferred (some []))).alloc (.loop r0) = W0 at *
  have hB : Below d w W0 := by
    rw [← hW]
    exact ((Below.refl d w).alloc (by omega) _).alloc (by simp; omega) _
  have hz : W0.heap.size = d + 2 := by rw [← hW]; simp; omega
  have hD0 : W0.heap[d]? = some (.deferred (some [])) := by
    rw [← hW, Below.heap_alloc _ _ _ (by simp; omega), ← hd]; exact World.alloc_heap_new w _
  have hL0 : W0.heap[d + 1]? = some (.loop r0) := by
    have := World.alloc_heap_new (w.alloc (.deferred (some []))) (.loop r0)
    rw [World.size_alloc, hd, hW] at this
    exact this
  refine ⟨d + 1, _, W0, { target := .fn (.func gf) lb, args := #[.func (.yield (d + 1)) #[] #[]] }, W0, gf, #[.func (.yield (d + 1)) #[] #[]] ++ lb, W0, hen, ?_, ?_, ?_, fun _ => h1, ?_⟩
  · simp only [resolve, hg]; simp [go_sem]
  · intro f' hf'; simp [Target.leads] at hf'; subst hf'; exact hFg
  · simp [invoke, go_sem, eg]
  · have hKw : Kc n₀ w W0 := ⟨hB.mono hn₀, fun k _ _ _ hk => (hB.block k (by have := (Array.getElem?_eq_some_iff.1 hk).1; omega)).trans hk⟩
    have hI0 : I [] W0 := hI [] w W0 h0 hKw
    refine (hseq (d + 1) (fun pre W => I pre W ∧ W.heap[d + 1]? = some (.loop r0) ∧ W.heap[d]? = some (.deferred (some [])) ∧ d ≤ W.heap.size) W0 hKw (by omega) ?_ ?_ ⟨hI0, hL0, hD0, by omega⟩).mono ?_
    · rintro pre A B ⟨q1, q2, q3, q4⟩ hb
      have hs := hb.size
      exact ⟨hI pre A B q1 (Kc.of_below hb (by omega)), (hb.block _ (Array.getElem?_eq_some_iff.1 q2).1).trans q2, (hb.block _ (Array.getElem?_eq_some_iff.1 q3).1).trans q3, by omega⟩
    · rintro pre x W ⟨q1, q2, q3, q4⟩ hpx hdw
      have hl := (Array.getElem?_eq_some_iff.1 q2).1
      have hy := run_yield (P := P) (args := encs x) q2 (by rw [e2]; exact hps x)
      rw [e1, e2, e4, e5, e6] at hy
      refine ⟨fn, _, assign, body, hy, roundIn_of_wpIn hfn (hassign _ x W _ ⟨_, run_beginRound q2 e3, ?_⟩)⟩
      have k1 := Kc.put (n := n₀) (.loop { r0 with state := .busy }) q2 rfl (by omega)
      have l1 : (W.putObj (d + 1) (.loop { r0 with state := .busy })).heap[d + 1]? = some (.loop { r0 with state := .busy }) := World.putObj_heap_same hl
      have d1 : (W.putObj (d + 1) (.loop { r0 with state := .busy })).heap[d]? = some (.deferred (some [])) := (World.putObj_heap_other (by omega)).trans q3
      refine wpIn_mono (hbody _ pre x _ (hI _ _ _ q1 k1) (hP _ _ _ _ hpx k1) (by simp; omega)) ?_
      intro e a3 W3 hp
      cases e with
      | normal =>
        obtain ⟨m1, m2, m3⟩ := hp
        have l3 := m1.same _ _ l1 rfl
        have d3 := m1.same _ _ d1 rfl
        have hend := run_endRound (P := P) none l3
        have hl3 := (Array.getElem?_eq_some_iff.1 l3).1
        have e9 : ({ ({ r0 with state := .busy } : Loop) with state := if (none : Option Code).isNone then .ready else .done, pending := none } : Loop) = r0 := by
          rw [← hr0]; rfl
        rw [e9] at hend
        have k3 := Kc.put (n := n₀) (.loop r0) l3 rfl (by omega)
        exact ⟨_, _, hend, rfl, ⟨hI _ _ _ m3 k3, World.putObj_heap_same hl3, (World.putObj_heap_other (by omega)).trans d3, by have := m1.size; simp at this ⊢; omega⟩, (k1.b.trans m2).trans k3.b⟩
      | ret => exact hp.elim
      | exit id => exact hp.elim
      | goto t => exact hp.elim
      | panic ch => exact hp.elim
      | outgrown => exact hp.elim
    · rintro e W2 ⟨⟨v, rfl⟩, xs, hS, q1, q2, q3, q4⟩
      have hend := run_endLoop (P := P) q2 (by rw [e3]; simp)
      rw [e7] at hend
      refine ⟨none, _, hend, ?_⟩
      exact hdone d xs _ (by omega) hS (hI _ _ _ q1 (Kc.put _ q2 rfl (by omega))) ((World.putObj_heap_other (by omega)).trans q3)
end Go.Proofs.YtilbffgpniomcaaGreatDoor

/- The sum's mathematics: the register as a natural number, of any length. -/
namespace Go.Proofs.YtilbffgpniomcaaGreatDoor

/-- One digit leaves the register. -/
def stpV (c : Nat) : Nat := if c % 2 = 1 then (c / 2) ^^^ 2197175160 else c / 2
/-- So many digits leave it. -/
def stpsV : Nat → Nat → Nat
  | 0, c => c
  | n + 1, c => stpsV n (stpV c)
/-- The register behind a byte. -/
def byt (c : Nat) (x : UInt8) : Nat := stpsV 8 (c ^^^ x.toNat)
/-- The register behind bytes. -/
def reg (c : Nat) : List UInt8 → Nat
  | [] => c
  | x :: l => reg (byt c x) l
theorem reg_nil (c : Nat) : reg c [] = c := rfl
theorem reg_cons (c : Nat) (x : UInt8) (l : List UInt8) : reg c (x :: l) = reg (byt c x) l := rfl
/-- The sum of what goes on. -/
def mor (s : Nat) (l : List UInt8) : Nat := 4294967295 - reg (4294967295 - s) l
/-- The value of bytes, the least one first. -/
def vle : List UInt8 → Nat
  | [] => 0
  | x :: l => x.toNat + 256 * vle l
/-- A number as four bytes, the least one first. -/
def four (n : Nat) : List UInt8 := [UInt8.ofNat n, UInt8.ofNat (n / 256), UInt8.ofNat (n / 65536), UInt8.ofNat (n / 16777216)]

theorem xor_lt32 {a b : Nat} (ha : a < 4294967296) (hb : b < 4294967296) : a ^^^ b < 4294967296 := Nat.xor_lt_two_pow (n := 32) ha hb
theorem stp_lt {c : Nat} (h : c < 4294967296) : stpV c < 4294967296 := by
  unfold stpV; split
  · exact xor_lt32 (by omega) (by omega)
  · omega
theorem stps_lt (n : Nat) : ∀ {c : Nat}, c < 4294967296 → stpsV n c < 4294967296 := by
  induction n with
  | zero => intro c h; exact h
  | succ n ih => intro c h; exact ih (stp_lt h)
theorem byt_lt {c : Nat} {x : UInt8} (h : c < 4294967296) : byt c x < 4294967296 := stps_lt 8 (xor_lt32 h (by have := x.toNat_lt; omega))
theorem reg_lt (l : List UInt8) : ∀ {c : Nat}, c < 4294967296 → reg c l < 4294967296 := by
  induction l with
  | nil => intro c h; exact h
  | cons x l ih => intro c h; exact ih (byt_lt h)
theorem stps_add (m n : Nat) : ∀ c, stpsV (m + n) c = stpsV n (stpsV m c) := by
  induction m with
  | zero => intro c; simp [stpsV]
  | succ m ih => intro c; rw [Nat.succ_add]; exact ih (stpV c)
theorem stps_snocV (n : Nat) (c : Nat) : stpsV (n + 1) c = stpV (stpsV n c) := by rw [stps_add]; rfl
theorem reg_append (a b : List UInt8) : ∀ c, reg c (a ++ b) = reg (reg c a) b := by
  induction a with
  | nil => intro c; rfl
  | cons x a ih => intro c; exact ih (byt c x)
theorem reg_snoc (a : List UInt8) (x : UInt8) (c : Nat) : reg c (a ++ [x]) = byt (reg c a) x := by rw [reg_append]; rfl
theorem mor_lt (s : Nat) (l : List UInt8) : mor s l < 4294967296 := by unfold mor; omega
theorem mor_append {s : Nat} (a b : List UInt8) : mor s (a ++ b) = mor (mor s a) b := by
  unfold mor
  rw [reg_append]
  have := reg_lt a (c := 4294967295 - s) (by omega)
  congr 1
  have e : 4294967295 - (4294967295 - reg (4294967295 - s) a) = reg (4294967295 - s) a := by omega
  rw [e]
theorem mor_nil {s : Nat} (h : s < 4294967296) : mor s [] = s := by unfold mor; rw [reg_nil]; omega

/-- The digits turned. -/
theorem not32 {a : Nat} (h : a < 4294967296) : 4294967295 - a = 4294967295 ^^^ a := by
  have e : (BitVec.allOnes 32 ^^^ BitVec.ofNat 32 a).toNat = (~~~ BitVec.ofNat 32 a).toNat := by rw [BitVec.allOnes_xor]
  rw [BitVec.toNat_xor, BitVec.toNat_not, BitVec.toNat_allOnes, BitVec.toNat_ofNat, Nat.mod_eq_of_lt (by omega)] at e
  simpa using e.symm
theorem xor_mod2 (a b : Nat) : (a ^^^ b) % 2 = (a % 2) ^^^ (b % 2) := Nat.xor_mod_two_pow (n := 1)
theorem xor_div2 (a b : Nat) : (a ^^^ b) / 2 = (a / 2) ^^^ (b / 2) := Nat.xor_div_two_pow (n := 1)
theorem xor4 (a b t : Nat) : (a ^^^ t) ^^^ (b ^^^ t) = a ^^^ b := by
  rw [Nat.xor_assoc, Nat.xor_comm b t, ← Nat.xor_assoc t t b, Nat.xor_self, Nat.zero_xor]
theorem stp_xor (a b : Nat) : stpV (a ^^^ b) = stpV a ^^^ stpV b := by
  unfold stpV
  rw [xor_mod2, xor_div2]
  rcases Nat.mod_two_eq_zero_or_one a with h | h <;> rcases Nat.mod_two_eq_zero_or_one b with k | k <;> simp only [h, k]
  · simp
  · simp [Nat.xor_assoc]
  · simp only [Nat.xor_zero, if_true]
    rw [if_neg (by decide), Nat.xor_assoc, Nat.xor_assoc, Nat.xor_comm (b / 2)]
  · rw [Nat.xor_self, if_neg (by decide), if_pos trivial, if_pos trivial, xor4]
theorem stps_xor (n : Nat) : ∀ a b, stpsV n (a ^^^ b) = stpsV n a ^^^ stpsV n b := by
  induction n with
  | zero => intro a b; rfl
  | succ n ih => intro a b; show stpsV n (stpV (a ^^^ b)) = _; rw [stp_xor]; exact ih _ _
theorem stp_two (y : Nat) : stpV (2 * y) = y := by
  unfold stpV; rw [if_neg (by omega)]; omega
theorem stps_pow (n : Nat) : ∀ y, stpsV n (2 ^ n * y) = y := by
  induction n with
  | zero => intro y; simp [stpsV]
  | succ n ih => intro y; show stpsV n (stpV _) = y; rw [Nat.pow_succ, Nat.mul_comm (2 ^ n) 2, Nat.mul_assoc, stp_two]; exact ih y
theorem low8 (x : UInt8) (V : Nat) : x.toNat + 256 * V = x.toNat ^^^ (2 ^ 8 * V) := by
  have h := x.toNat_lt
  have e : x.toNat ^^^ (2 ^ 8 * V) = (2 ^ 8 * V) ||| x.toNat := by
    apply Nat.eq_of_testBit_eq
    intro i
    rw [Nat.testBit_xor, Nat.testBit_or, Nat.testBit_two_pow_mul]
    by_cases hi : i < 8
    · simp [Nat.not_le.2 hi]
    · have : x.toNat.testBit i = false := Nat.testBit_lt_two_pow (Nat.lt_of_lt_of_le h (Nat.pow_le_pow_right (by decide) (by omega : 8 ≤ i)))
      simp [this]
  rw [e, ← Nat.two_pow_add_eq_or_of_lt h]; omega
/-- THE REGISTER: the bytes' value, xor'ed in at once. -/
theorem reg_eq (l : List UInt8) : ∀ c, reg c l = stpsV (8 * l.length) (c ^^^ vle l) := by
  induction l with
  | nil => intro c; rw [reg_nil, vle, Nat.xor_zero]; rfl
  | cons x l ih =>
    intro c
    have e1 : 8 * (x :: l).length = 8 + 8 * l.length := by simp; omega
    have e2 : stpsV 8 (c ^^^ vle (x :: l)) = byt c x ^^^ vle l := by
      rw [vle, low8, ← Nat.xor_assoc, stps_xor 8 (c ^^^ x.toNat), stps_pow, byt]
    rw [reg_cons, ih, e1, stps_add, e2]
theorem stp_zero : stpV 0 = 0 := by decide
theorem stp_ne {c : Nat} (h : c < 4294967296) (h0 : c ≠ 0) : stpV c ≠ 0 := by
  unfold stpV
  split
  · intro e
    have e2 : c / 2 = 2197175160 := by
      have := congrArg (· ^^^ 2197175160) e
      simp only [Nat.zero_xor] at this
      rwa [Nat.xor_assoc, Nat.xor_self, Nat.xor_zero] at this
    omega
  · omega
theorem stps_ne (n : Nat) : ∀ {c : Nat}, c < 4294967296 → c ≠ 0 → stpsV n c ≠ 0 := by
  induction n with
  | zero => intro c _ h; exact h
  | succ n ih => intro c h h0; exact ih (stp_lt h) (stp_ne h h0)
end Go.Proofs.YtilbffgpniomcaaGreatDoor

/- The contracts of crc.More and crc.Sum. -/
namespace Go.Proofs.YtilbffgpniomcaaGreatDoor
open Go.RowKit

theorem x_not {c : Nat} (h : c < 4294967296) : bits .xor .u32 IntKind.u32.max (c : Int) = ((4294967295 - c : Nat) : Int) := by
  have := u32_xor_nat 4294967295 c (by decide) h
  rw [← not32 h] at this
  exact this
theorem x_xor {c d : Nat} (h : c < 4294967296) (hd : d < 4294967296) : bits .xor .u32 (c : Int) (d : Int) = ((c ^^^ d : Nat) : Int) := u32_xor_nat c d h hd
theorem x_and {c : Nat} (h : c < 4294967296) : bits .and .u32 (c : Int) 1 = ((c % 2 : Nat) : Int) := by
  have := u32_and_nat c 1 h (by decide)
  rw [Nat.and_one_is_mod] at this
  exact this
theorem x_turn {c : Nat} (h : c < 4294967296) : bits .xor .u32 ((c : Int) / 2) 2197175160 = ((c / 2 ^^^ 2197175160 : Nat) : Int) := u32_xor_nat (c / 2) 2197175160 (by omega) (by decide)

set_option maxRecDepth 100000 in
set_option maxHeartbeats 1000000 in
theorem more_some (s : Nat) (hs : s < 4294967296) (b off cap : Nat) (l : List UInt8) (hl : l.length ≤ maxLen) (w : World)
    (hc : ∀ j (h : j < l.length), w.cell? ⟨b, off + j, none⟩ = some (bc l[j])) :
    Calls Tryz.prog 117 #[.int .u32 (s : Int), .slice (some ⟨b, off, none⟩) l.length cap] w fun e w' => e = .returned (.int .u32 (mor s l : Nat)) ∧ w' = w := by
  unfold maxLen at hl
  have x0 := x_not hs
  have HC : Hid (∀ j (h : j < l.length), w.cell? ⟨b, off + j, none⟩ = some (bc l[j])) := hc
  clear hc
  go_enter Tryz.func117, Tryz.ntmps117
  go_wp2_with fail
  go_loop [5, 13] (fun r i => ∃ k c : Nat, k ≤ l.length ∧ i = .int .i64 k ∧ c < 4294967296 ∧ r = .int .u32 (c : Int) ∧ Hid (c = reg (4294967295 - s) (l.take k))) (fun _ i => l.length - (intOf i).toNat)
  case atStart => exact ⟨0, _, Nat.zero_le _, rfl, by omega, rfl, rfl⟩
  case round =>
    obtain ⟨k, c, hk, rfl, hcl, rfl, HE⟩ := hrel
    by_cases hlt : k < l.length
    · have hcell := HC.out k hlt
      have hx := x_xor (c := c) (d := l[k].toNat) hcl (by have := l[k].toNat_lt; omega)
      have hxb : l[k].toNat < 256 := l[k].toNat_lt
      unfold bc at hcell
      go_wp2_with fail
      go_loop [5, 21] (fun r i => ∃ m d : Nat, m ≤ 8 ∧ i = .int .i64 m ∧ d < 4294967296 ∧ r = .int .u32 (d : Int) ∧ Hid (d = stpsV m (c ^^^ l[k].toNat))) (fun _ i => 8 - (intOf i).toNat)
      case atStart => exact ⟨0, _, by omega, rfl, xor_lt32 hcl (by have := l[k].toNat_lt; omega), rfl, rfl⟩
      case round =>
        obtain ⟨m, d, hm, rfl, hd, rfl, HD⟩ := hrel
        by_cases hm8 : m < 8
        · have y0 := x_and hd
          have y1 := x_turn hd
          rcases Nat.mod_two_eq_zero_or_one d with h2 | h2
          · rw [h2] at y0
            have hs2 : stpV d = d / 2 := by unfold stpV; rw [if_neg (by omega)]
            have HS : Hid (d / 2 = stpsV (m + 1) (c ^^^ l[k].toNat)) := by unfold Hid; rw [stps_snocV, ← HD.out, hs2]
            clear hs2 h2
            go_wp2_with fail
            go_round
            case rel => exact ⟨m + 1, d / 2, by omega, by go_num, by omega, by go_num, HS⟩
            case measure => simp [intOf]; omega
          · rw [h2] at y0
            have hs2 : stpV d = d / 2 ^^^ 2197175160 := by unfold stpV; rw [if_pos h2]
            have HS : Hid (d / 2 ^^^ 2197175160 = stpsV (m + 1) (c ^^^ l[k].toNat)) := by unfold Hid; rw [stps_snocV, ← HD.out, hs2]
            have hlt2 := xor_lt32 (a := d / 2) (b := 2197175160) (by omega) (by omega)
            clear hs2 h2
            go_wp2_with fail
            go_round
            case rel => exact ⟨m + 1, d / 2 ^^^ 2197175160, by omega, by go_num, hlt2, rfl, HS⟩
            case measure => simp [intOf]; omega
        · have HS : Hid (d = reg (4294967295 - s) (l.take (k + 1))) := by
            unfold Hid
            have e8 : m = 8 := by omega
            rw [List.take_succ_eq_append_getElem hlt, reg_snoc, ← HE.out, HD.out, e8]
            rfl
          go_wp2_with fail
          go_round
          case rel => exact ⟨k + 1, d, by omega, by go_num, hd, rfl, HS⟩
          case measure => simp [intOf]; omega
    · have hkl : k = l.length := by omega
      have x1 := x_not hcl
      have HS : Hid (4294967295 - c = mor s l) := by
        unfold Hid mor
        rw [HE.out, hkl, List.take_length]
      clear hkl
      go_wp2_with fail
      go_ret
      exact ⟨by rw [HS.out]; rfl, rfl⟩
theorem more_none (s : Nat) (hs : s < 4294967296) (a : Option Addr) (cap : Nat) (w : World) :
    Calls Tryz.prog 117 #[.int .u32 (s : Int), .slice a 0 cap] w fun e w' => e = .returned (.int .u32 (mor s [] : Nat)) ∧ w' = w := by
  have x0 := x_not hs
  have x1 := x_not (c := 4294967295 - s) (by omega)
  have HS : Hid (4294967295 - (4294967295 - s) = mor s []) := rfl
  go_enter Tryz.func117, Tryz.ntmps117
  go_wp2_with fail
  go_loop [5, 13] (fun r i => i = .int .i64 0 ∧ r = .int .u32 ((4294967295 - s : Nat) : Int)) (fun _ _ => 0)
  case atStart => exact ⟨rfl, rfl⟩
  case round =>
    obtain ⟨rfl, rfl⟩ := hrel
    go_wp2_with fail
    go_ret
    exact ⟨by rw [HS.out]; rfl, rfl⟩
theorem more_any (s : Nat) (hs : s < 4294967296) (v : Value) (l : List UInt8) (w : World) (h : Reads w v l) :
    Calls Tryz.prog 117 #[.int .u32 (s : Int), v] w fun e w' => e = .returned (.int .u32 (mor s l : Nat)) ∧ w' = w := by
  rcases h with ⟨rfl, a, cap, rfl, _⟩ | ⟨b, off, cap, rfl, h2, h3, h4, h5, h6⟩
  · exact more_none s hs a cap w
  · exact more_some s hs b off cap l (by omega) w h6
theorem sum_any (v : Value) (l : List UInt8) (w : World) (h : Reads w v l) :
    Calls Tryz.prog 93 #[v] w fun e w' => e = .returned (.int .u32 (mor 0 l : Nat)) ∧ w' = w := by
  obtain ⟨a, cap, rfl, _⟩ := h.form
  go_enter Tryz.func93, Tryz.ntmps93
  go_wp2_with fail
  refine (more_any 0 (by decide) _ l _ h).mono ?_
  rintro e w' ⟨rfl, hw⟩
  subst w'
  clear h
  go_wp2_with fail
  go_ret
  exact ⟨rfl, rfl⟩
end Go.Proofs.YtilbffgpniomcaaGreatDoor

/- The contracts of crc.number and crc.appendNumber. -/
namespace Go.Proofs.YtilbffgpniomcaaGreatDoor
open Go.RowKit

theorem vle_snoc (l : List UInt8) (x : UInt8) : vle (l ++ [x]) = vle l + x.toNat * 2 ^ (8 * l.length) := by
  induction l with
  | nil => simp [vle]
  | cons y l ih =>
    simp only [List.cons_append, vle, ih, List.length_cons]
    rw [show 8 * (l.length + 1) = 8 + 8 * l.length by omega, Nat.pow_add, Nat.mul_add, Nat.add_assoc]
    congr 1
    rw [← Nat.mul_assoc, ← Nat.mul_assoc, Nat.mul_comm (x.toNat) (2 ^ 8)]
theorem vle_lt (l : List UInt8) : vle l < 2 ^ (8 * l.length) := by
  induction l with
  | nil => simp [vle]
  | cons y l ih =>
    have := y.toNat_lt
    rw [vle, List.length_cons, show 8 * (l.length + 1) = 8 + 8 * l.length by omega, Nat.pow_add]
    omega
theorem x_or {l : List UInt8} {x : UInt8} (h : l.length < 4) : bits .or .u32 (vle l : Int) ((x.toNat * 2 ^ (8 * l.length) : Nat) : Int) = ((vle (l ++ [x]) : Nat) : Int) := by
  have hv := vle_lt l
  have hx := x.toNat_lt
  have hp : 2 ^ (8 * l.length) ≤ 2 ^ 24 := Nat.pow_le_pow_right (by decide) (by omega)
  have hm : x.toNat * 2 ^ (8 * l.length) ≤ 255 * 2 ^ 24 := Nat.mul_le_mul (by omega) hp
  rw [u32_or_nat _ _ (by omega) (by omega), vle_snoc, Nat.or_comm, Nat.mul_comm x.toNat, ← Nat.two_pow_add_eq_or_of_lt hv, Nat.add_comm]
set_option maxRecDepth 100000 in
set_option maxHeartbeats 1000000 in
theorem number_some (b off cap : Nat) (l : List UInt8) (hl : l.length ≤ 4) (w : World)
    (hc : ∀ j (h : j < l.length), w.cell? ⟨b, off + j, none⟩ = some (bc l[j])) :
    Calls Tryz.prog 92 #[.slice (some ⟨b, off, none⟩) l.length cap] w fun e w' => e = .returned (.int .u32 (vle l : Nat)) ∧ w' = w := by
  have HC : Hid (∀ j (h : j < l.length), w.cell? ⟨b, off + j, none⟩ = some (bc l[j])) := hc
  clear hc
  go_enter Tryz.func92, Tryz.ntmps92
  go_wp2_with fail
  go_loop [3, 8] (fun r i => ∃ k c : Nat, k ≤ l.length ∧ i = .int .i64 k ∧ r = .int .u32 (c : Int) ∧ Hid (c = vle (l.take k))) (fun _ i => l.length - (intOf i).toNat)
  case atStart => exact ⟨0, 0, Nat.zero_le _, rfl, rfl, rfl⟩
  case round =>
    obtain ⟨k, c, hk, rfl, rfl, HE⟩ := hrel
    by_cases hlt : k < l.length
    · have hcell := HC.out k hlt
      have hxb : l[k].toNat < 256 := l[k].toNat_lt
      have hkl : (l.take k).length = k := by simp; omega
      have hx := x_or (l := l.take k) (x := l[k]) (by omega)
      rw [← List.take_succ_eq_append_getElem hlt, ← HE.out, hkl] at hx
      unfold bc at hcell
      have h4 : (8 : Int) * (k : Int) ≤ 24 := by omega
      have HX : Hid (bits .or .u32 (c : Int) ((l[k].toNat : Int) * 2 ^ (8 * k) % 4294967296) = ((vle (l.take (k + 1)) : Nat) : Int)) := by
        have hp : 2 ^ (8 * k) ≤ 2 ^ 24 := Nat.pow_le_pow_right (by decide) (by omega)
        have hm : l[k].toNat * 2 ^ (8 * k) ≤ 255 * 2 ^ 24 := Nat.mul_le_mul (by omega) hp
        have e : ((l[k].toNat : Int) * 2 ^ (8 * k) % 4294967296) = ((l[k].toNat * 2 ^ (8 * k) : Nat) : Int) := by
          rw [show ((l[k].toNat : Int) * 2 ^ (8 * k)) = ((l[k].toNat * 2 ^ (8 * k) : Nat) : Int) by push_cast; rfl]
          generalize l[k].toNat * 2 ^ (8 * k) = q at *
          omega
        rw [Hid, e]; exact hx
      clear hkl hx
      go_wp2_with fail
      go_round
      case rel => exact ⟨k + 1, _, by omega, by go_num, by rw [HX.out], rfl⟩
      case measure => simp [intOf]; omega
    · have hkl : k = l.length := by omega
      have HS : Hid (c = vle l) := by
        unfold Hid
        rw [HE.out, hkl, List.take_length]
      clear hkl
      go_wp2_with fail
      go_ret
      exact ⟨by rw [HS.out]; rfl, rfl⟩
theorem number_none (a : Option Addr) (cap : Nat) (w : World) :
    Calls Tryz.prog 92 #[.slice a 0 cap] w fun e w' => e = .returned (.int .u32 (vle [] : Nat)) ∧ w' = w := by
  go_enter Tryz.func92, Tryz.ntmps92
  go_wp2_with fail
  go_loop [3, 8] (fun r i => i = .int .i64 0 ∧ r = .int .u32 0) (fun _ _ => 0)
  case atStart => exact ⟨rfl, rfl⟩
  case round =>
    obtain ⟨rfl, rfl⟩ := hrel
    go_wp2_with fail
    go_ret
    exact ⟨rfl, rfl⟩
theorem number_any (v : Value) (l : List UInt8) (hl : l.length ≤ 4) (w : World) (h : Reads w v l) :
    Calls Tryz.prog 92 #[v] w fun e w' => e = .returned (.int .u32 (vle l : Nat)) ∧ w' = w := by
  rcases h with ⟨rfl, a, cap, rfl, _⟩ | ⟨b, off, cap, rfl, h2, h3, h4, h5, h6⟩
  · exact number_none a cap w
  · exact number_some b off cap l hl w h6
/-- A number's bytes, so many, the least one first. -/
def frs (n : Nat) : Nat → List UInt8
  | 0 => []
  | k + 1 => frs n k ++ [UInt8.ofNat (n / 2 ^ (8 * k))]
theorem frs_len (n k : Nat) : (frs n k).length = k := by
  induction k with
  | zero => rfl
  | succ k ih => simp [frs, ih]
theorem frs_four (n : Nat) : frs n 4 = four n := by simp [frs, four]
set_option maxRecDepth 100000 in
set_option maxHeartbeats 1000000 in
theorem appendNumber_any (v : Value) (L : List UInt8) (n : Nat) (base : Nat) (w : World) (hown : Own w base v L) (hL : L.length ≤ 1000000) (hbase : base ≤ w.heap.size) :
    Calls Tryz.prog 94 #[v, .int .u32 (n : Int)] w fun e w' => ∃ v', e = .returned v' ∧ Own w' base v' (L ++ four n) ∧ Below base w w' := by
  go_enter Tryz.func94, Tryz.ntmps94
  go_wp2_with fail
  go_loopw [0, 6] (fun x i wr => ∃ (k : Nat) (M : List UInt8), k ≤ 4 ∧ i = .int .i64 (k : Int) ∧ Hid (M = L ++ frs n k) ∧ Own wr base x M ∧ Hid (Below base w wr)) (fun _ i _ => 4 - (intOf i).toNat)
  case atStart => exact ⟨0, L, by omega, rfl, by rw [frs, List.append_nil]; rfl, hown, Below.refl _ _⟩
  case round =>
    obtain ⟨k, M, hk, rfl, HM, HR, HB⟩ := hrel
    have hsz := HB.out.size
    have hml : M.length = L.length + k := by rw [HM.out, List.length_append, frs_len]
    by_cases hlt : k < 4
    · have h4 : (8 : Int) * (k : Int) ≤ 24 := by omega
      have HU : Hid (Value.int .u8 ((n : Int) / 2 ^ (8 * k) % 256) = bc (UInt8.ofNat (n / 2 ^ (8 * k)))) := by
        unfold Hid bc
        rw [UInt8.toNat_ofNat']
        push_cast; rfl
      have HN : Hid (M ++ [UInt8.ofNat (n / 2 ^ (8 * k))] = L ++ frs n (k + 1)) := by rw [HM.out, frs, List.append_assoc]; rfl
      generalize hM' : M ++ [UInt8.ofNat (n / 2 ^ (8 * k))] = M' at HN
      have HM' : Hid (M' = M ++ [UInt8.ofNat (n / 2 ^ (8 * k))]) := hM'.symm
      clear hM'
      go_wp2_with (at_builtin; refine wpList_app1 rfl _ _ rfl base _ M (UInt8.ofNat (n / 2 ^ (8 * k))) M' HM'.out HU.out rfl rfl HR (by omega) (by omega) ?_)
      intro v' w1 hown1 hb1
      have HB1 : Hid (Below base w w1) := HB.out.trans hb1.out
      clear hb1 HB HM'
      go_wp2_with fail
      go_roundw
      case rel => exact ⟨k + 1, M', by omega, by go_num, HN, hown1, HB1⟩
      case measure => simp [intOf]; omega
    · have HK : Hid (M = L ++ four n) := by
        have hk4 : k = 4 := by omega
        rw [HM.out, hk4, frs_four]; rfl
      clear hml
      go_wp2_with fail
      go_ret
      exact ⟨_, rfl, by rw [← HK.out]; exact HR, HB.out⟩
end Go.Proofs.YtilbffgpniomcaaGreatDoor

/- The contract of crc.Frame. -/
namespace Go.Proofs.YtilbffgpniomcaaGreatDoor
open Go.RowKit

/-- A frame. -/
def frm (l : List UInt8) : List UInt8 := (four l.length ++ l) ++ four (mor 0 (four l.length ++ l))
theorem four_len (n : Nat) : (four n).length = 4 := rfl
theorem frm_len (l : List UInt8) : (frm l).length = l.length + 8 := by unfold frm; simp [four_len]; omega
set_option maxRecDepth 100000 in
set_option maxHeartbeats 1000000 in
theorem frame_any (v : Value) (l : List UInt8) (hl : l.length ≤ 65535) (w : World) (hr : Reads w v l) :
    Calls Tryz.prog 71 #[v] w fun e w' => ∃ v', e = .returned (.tuple #[v', .int .i64 0]) ∧ Own w' w.heap.size v' (frm l) ∧ Below w.heap.size w w' := by
  obtain ⟨i0, hi, hz0, hz1, hz2⟩ := info_parts info5
  obtain ⟨w0, hrn, hown0, hg0⟩ := run_make_own (P := Tryz.prog) w w.heap.size 22 5 i0 (.int .u8 0) 1 Tryz.underlying22 hi hz0 hz1 .i64 .i64 (l.length + 8) (by rw [hz2]; omega) (by unfold maxLen; omega) (Nat.le_refl _)
  have e2 : ((l.length + 8 : Nat) : Int) = (l.length : Int) + 8 := by omega
  rw [e2] at hrn
  clear e2
  have HB0 : Hid (Below w.heap.size w w0) := (Below.refl _ _).grown hg0 (Nat.le_refl _) (fun k hk => by cases hk)
  have HO0 : Own w0 w.heap.size (.slice (some ⟨w.heap.size, 0, none⟩) 0 (l.length + 8)) [] := hown0
  clear hown0 hg0 hi hz0 hz1 hz2
  obtain ⟨a, cap, rfl, _⟩ := hr.form
  have hsz0 := HB0.out.size
  go_enter Tryz.func71, Tryz.ntmps71
  go_wp2_with fail
  refine (appendNumber_any _ [] l.length _ _ HO0 (by simp) hsz0).mono ?_
  rintro e w1 ⟨v1, rfl, HO1, hb1⟩
  have HB1 : Hid (Below w.heap.size w w1) := HB0.out.trans hb1
  have hr1 : Reads w1 (.slice a l.length cap) l := hr.below HB1.out
  have hsz1 := HB1.out.size
  clear hr hb1 hrn HO0
  obtain ⟨M, HM⟩ := hid_ex (([] ++ four l.length) ++ l)
  go_wp2_with (at_builtin; refine wpList_app rfl _ _ rfl w.heap.size _ _ ([] ++ four l.length) l M HM.out rfl rfl HO1 hr1 (by simp [four_len]; omega) hsz1 ?_)
  intro v2 w2 HO2 hb2
  have HB2 : Hid (Below w.heap.size w w2) := HB1.out.trans hb2.out
  have hsz2 := HB2.out.size
  have HML : Hid (M.length = l.length + 4) := by unfold Hid; rw [HM.out]; simp [four_len]; omega
  clear hb2 HO1 hr1
  go_wp2_with fail
  refine (sum_any _ M _ HO2.reads).mono ?_
  rintro e w3 ⟨rfl, hw⟩
  subst w3
  go_wp2_with fail
  refine (appendNumber_any _ M (mor 0 M) _ _ HO2 (by rw [HML.out]; omega) hsz2).mono ?_
  rintro e w4 ⟨v4, rfl, HO4, hb4⟩
  have HB4 : Hid (Below w.heap.size w w4) := HB2.out.trans hb4
  have HF : Hid (M ++ four (mor 0 M) = frm l) := by rw [HM.out]; rfl
  clear hb4 HO2
  go_wp2_with fail
  go_ret2
  exact ⟨_, rfl, by rw [← HF.out]; exact HO4, HB4.out⟩
theorem frame_long (v : Value) (l : List UInt8) (hl : 65535 < l.length) (w : World) (hr : Reads w v l) :
    Calls Tryz.prog 71 #[v] w fun e w' => e = .returned (.tuple #[.slice none 0 0, .int .i64 2]) ∧ w' = w := by
  obtain ⟨a, cap, rfl, _⟩ := hr.form
  clear hr
  have h1 : (65535 : Int) < (l.length : Int) := by omega
  go_enter Tryz.func71, Tryz.ntmps71
  go_wp2_with fail
  go_ret2
  exact ⟨rfl, rfl⟩
end Go.Proofs.YtilbffgpniomcaaGreatDoor
