/- A2 S2 CP0 F1, joined. -/
import Derived.Test.YtopemhlkjicjpaaTG1
import Derived.Test.YtopemhlkjicjpaaTG2
import Derived.Lib.Bytealg
import Derived.Laws.CopyOwn
import Derived.Laws.OwnMore
import Derived.Test.YtopemhlkjicjpaaRows
import Derived.RangeFuncLeaves
import Derived.RangeFuncOwn
import Derived.RangeFuncSeq
import Derived.RangeFuncIn
import Derived.RangeFuncRecord
import Derived.Below
/- The contracts of agg.Right and One. -/
namespace Go.Proofs.Ytopemhlkjicjpaa
open Go.RowKit

def rightB (a : Ag) : Bool := if a.c = 0 then (!a.o && (hi a.s == 0) && (lo a.s == 0) && (a.mn == 0) && (a.mx == 0)) else (decide (a.mn ≤ a.mx) && (!a.o || (a.c == 18446744073709551615)))

set_option maxRecDepth 100000 in
set_option maxHeartbeats 1000000 in
theorem right_zero (a : Ag) (h : a.c = 0) (w : World) :
    Calls Try.prog 44 #[.agg #[.int .u64 a.c, .bool a.o, .int .i64 (hi a.s), .int .u64 (lo a.s), .int .i64 a.mn, .int .i64 a.mx]] w fun e w' => e = .returned (.bool (rightB a)) ∧ Below w.heap.size w w' := by
  obtain ⟨c, o, s, mn, mx⟩ := a
  simp only at h
  subst h
  have hb : ((0 : Int) == 0) = true := rfl
  go_enter Try.func44, Try.ntmps44
  go_wp2_with fail
  all_goals
    go_ret
    refine ⟨?_, (Below.refl _ _).alloc (by simp) _⟩
    simp [rightB, *]
set_option maxRecDepth 100000 in
set_option maxHeartbeats 1000000 in
theorem right_some (a : Ag) (h : a.c ≠ 0) (w : World) :
    Calls Try.prog 44 #[.agg #[.int .u64 a.c, .bool a.o, .int .i64 (hi a.s), .int .u64 (lo a.s), .int .i64 a.mn, .int .i64 a.mx]] w fun e w' => e = .returned (.bool (rightB a)) ∧ Below w.heap.size w w' := by
  have e : rightB a = (decide (a.mn ≤ a.mx) && (!a.o || (a.c == 18446744073709551615))) := by unfold rightB; rw [if_neg h]
  have hb : (a.c == 0) = false := by simp [h]
  by_cases h1 : a.mn ≤ a.mx
  · have hd : decide (a.mn ≤ a.mx) = true := by simpa using h1
    cases ho : a.o
    · have HE : Hid (rightB a = true) := by unfold Hid; rw [e, hd, ho]; rfl
      clear e h h1 ho
      go_enter Try.func44, Try.ntmps44
      go_wp2_with fail
      go_ret
      exact ⟨by rw [HE.out]; rfl, (Below.refl _ _).alloc (by simp) _⟩
    · have HE : Hid (rightB a = (a.c == 18446744073709551615)) := by unfold Hid; rw [e, hd, ho]; simp
      clear e h h1 ho
      generalize hm : (a.c == 18446744073709551615) = mm at *
      cases mm
      · go_enter Try.func44, Try.ntmps44
        go_wp2_with fail
        go_ret
        exact ⟨by rw [HE.out]; rfl, (Below.refl _ _).alloc (by simp) _⟩
      · go_enter Try.func44, Try.ntmps44
        go_wp2_with fail
        go_ret
        exact ⟨by rw [HE.out]; rfl, (Below.refl _ _).alloc (by simp) _⟩
  · have hd : decide (a.mn ≤ a.mx) = false := by simpa using h1
    have HE : Hid (rightB a = false) := by unfold Hid; rw [e, hd]; rfl
    clear e h h1
    go_enter Try.func44, Try.ntmps44
    go_wp2_with fail
    go_ret
    exact ⟨by rw [HE.out]; rfl, (Below.refl _ _).alloc (by simp) _⟩
theorem right_any (a : Ag) (w : World) :
    Calls Try.prog 44 #[.agg #[.int .u64 a.c, .bool a.o, .int .i64 (hi a.s), .int .u64 (lo a.s), .int .i64 a.mn, .int .i64 a.mx]] w fun e w' => e = .returned (.bool (rightB a)) ∧ Below w.heap.size w w' := by
  by_cases h : a.c = 0
  · exact right_zero a h w
  · exact right_some a h w

end Go.Proofs.Ytopemhlkjicjpaa

/- The order of bytes, and lists of entries in that order. -/
namespace Go.Proofs.Ytopemhlkjicjpaa
open Go.Lib

abbrev Ks := List UInt8
/-- Bytes stand ahead of others. -/
def ltK (a b : Ks) : Prop := compareBytes a b = -1
instance (a b : Ks) : Decidable (ltK a b) := inferInstanceAs (Decidable (_ = _))
theorem cmp_three : ∀ a b : Ks, compareBytes a b = -1 ∨ compareBytes a b = 0 ∨ compareBytes a b = 1
  | [], [] => by simp [compareBytes]
  | [], _ :: _ => by simp [compareBytes]
  | _ :: _, [] => by simp [compareBytes]
  | a :: l1, b :: l2 => by
    unfold compareBytes
    split
    · simp
    · split
      · simp
      · exact cmp_three l1 l2
theorem u8_tri {a b : UInt8} (h1 : ¬ a < b) (h2 : ¬ b < a) : a = b := by
  apply UInt8.toNat.inj
  have h1' : ¬ a.toNat < b.toNat := h1
  have h2' : ¬ b.toNat < a.toNat := h2
  omega
theorem cmp_refl : ∀ a : Ks, compareBytes a a = 0
  | [] => rfl
  | a :: l1 => by
    unfold compareBytes
    have h : ¬ a < a := fun h => Nat.lt_irrefl _ (show a.toNat < a.toNat from h)
    rw [if_neg h, if_neg h]; exact cmp_refl l1
theorem cmp_zero : ∀ {a b : Ks}, compareBytes a b = 0 → a = b
  | [], [], _ => rfl
  | [], _ :: _, h => by simp [compareBytes] at h
  | _ :: _, [], h => by simp [compareBytes] at h
  | a :: l1, b :: l2, h => by
    unfold compareBytes at h
    by_cases h1 : a < b
    · rw [if_pos h1] at h; simp at h
    · rw [if_neg h1] at h
      by_cases h2 : b < a
      · rw [if_pos h2] at h; simp at h
      · rw [if_neg h2] at h
        rw [u8_tri h1 h2, cmp_zero h]
theorem cmp_swap : ∀ a b : Ks, compareBytes b a = - compareBytes a b
  | [], [] => rfl
  | [], _ :: _ => rfl
  | _ :: _, [] => rfl
  | a :: l1, b :: l2 => by
    unfold compareBytes
    by_cases h1 : a < b
    · have h2 : ¬ b < a := fun h => by have h1' : a.toNat < b.toNat := h1; have h' : b.toNat < a.toNat := h; omega
      rw [if_pos h1, if_neg h2, if_pos h1]; rfl
    · by_cases h2 : b < a
      · rw [if_pos h2, if_neg h1, if_pos h2]
      · rw [if_neg h1, if_neg h2, if_neg h2, if_neg h1]; exact cmp_swap l1 l2
theorem ltK_trans : ∀ {a b c : Ks}, ltK a b → ltK b c → ltK a c
  | [], [], _, h, _ => by simp [ltK, compareBytes] at h
  | [], _ :: _, [], _, h => by simp [ltK, compareBytes] at h
  | [], _ :: _, _ :: _, _, _ => by simp [ltK, compareBytes]
  | _ :: _, [], _, h, _ => by simp [ltK, compareBytes] at h
  | _ :: _, _ :: _, [], _, h => by simp [ltK, compareBytes] at h
  | a :: l1, b :: l2, c :: l3, h1, h2 => by
    unfold ltK compareBytes at h1 h2 ⊢
    by_cases p1 : a < b
    · by_cases q1 : b < c
      · have : a < c := by have p' : a.toNat < b.toNat := p1; have q' : b.toNat < c.toNat := q1; exact (show a.toNat < c.toNat by omega)
        rw [if_pos this]
      · rw [if_neg q1] at h2
        by_cases q2 : c < b
        · rw [if_pos q2] at h2; simp at h2
        · have : b = c := u8_tri q1 q2
          subst this
          rw [if_pos p1]
    · rw [if_neg p1] at h1
      by_cases p2 : b < a
      · rw [if_pos p2] at h1; simp at h1
      · have : a = b := u8_tri p1 p2
        subst this
        rw [if_neg p2] at h1
        by_cases q1 : a < c
        · rw [if_pos q1]
        · rw [if_neg q1] at h2 ⊢
          by_cases q2 : c < a
          · rw [if_pos q2] at h2; simp at h2
          · rw [if_neg q2] at h2 ⊢
            exact ltK_trans h1 h2
theorem ltK_irrefl (a : Ks) : ¬ ltK a a := by unfold ltK; rw [cmp_refl]; decide
theorem ltK_asymm {a b : Ks} (h : ltK a b) : ¬ ltK b a := fun h2 => ltK_irrefl _ (ltK_trans h h2)
theorem ltK_tri (a b : Ks) : ltK a b ∨ a = b ∨ ltK b a := by
  rcases cmp_three a b with h | h | h
  · exact .inl h
  · exact .inr (.inl (cmp_zero h))
  · right; right; unfold ltK; rw [cmp_swap a b, h]
theorem not_ltK {a b : Ks} : ¬ ltK a b ↔ a = b ∨ ltK b a := by
  constructor
  · intro h; rcases ltK_tri a b with h1 | h1 | h1
    · exact absurd h1 h
    · exact .inl h1
    · exact .inr h1
  · rintro (rfl | h)
    · exact ltK_irrefl _
    · exact ltK_asymm h
theorem cmp_ge {a b : Ks} : (0 ≤ compareBytes a b) ↔ ¬ ltK a b := by
  unfold ltK; rcases cmp_three a b with h | h | h <;> rw [h] <;> decide

/-- How many of a rising list's keys stand ahead of a key. -/
def plK (N : List Ks) (k : Ks) : Nat := (N.takeWhile fun x => decide (ltK x k)).length
theorem plK_le (N : List Ks) (k : Ks) : plK N k ≤ N.length := by
  unfold plK; exact (List.takeWhile_sublist _).length_le
theorem plK_lt {N : List Ks} {k : Ks} {i : Nat} (h : i < plK N k) (hi : i < N.length) : ltK N[i] k := by
  induction N generalizing i with
  | nil => simp at hi
  | cons x N ih =>
    by_cases hx : ltK x k
    · have e : plK (x :: N) k = plK N k + 1 := by unfold plK; rw [List.takeWhile_cons_of_pos (by simpa using hx)]; rfl
      cases i with
      | zero => exact hx
      | succ i => exact ih (by omega) (by simpa using hi)
    · have e : plK (x :: N) k = 0 := by unfold plK; rw [List.takeWhile_cons_of_neg (by simpa using hx)]; rfl
      omega
theorem plK_ge {N : List Ks} {k : Ks} (hs : N.Pairwise ltK) {i : Nat} (h : plK N k ≤ i) (hi : i < N.length) : ¬ ltK N[i] k := by
  induction N generalizing i with
  | nil => simp at hi
  | cons x N ih =>
    rw [List.pairwise_cons] at hs
    by_cases hx : ltK x k
    · have e : plK (x :: N) k = plK N k + 1 := by unfold plK; rw [List.takeWhile_cons_of_pos (by simpa using hx)]; rfl
      cases i with
      | zero => omega
      | succ i =>
        rw [List.getElem_cons_succ]
        exact ih hs.2 (by omega) (by simpa using hi)
    · cases i with
      | zero => exact hx
      | succ i =>
        rw [List.getElem_cons_succ]
        intro h2
        have hm : N[i]'(by simpa using hi) ∈ N := List.getElem_mem _
        exact hx (ltK_trans (hs.1 _ hm) h2)
end Go.Proofs.Ytopemhlkjicjpaa

/- Bytes that are copied into bytes of one's own; bytes just made. -/
namespace Go.Proofs.Ytopemhlkjicjpaa
open Go.RowKit

theorem copy_own {w : World} {base g n off : Nat} {L l : List UInt8} {v : Value} (ty : TypeId) (hO : Own w base (.slice (some ⟨g, 0, none⟩) n n) L) (hR : Reads w v l) (h0 : 0 < l.length) (hl : off + l.length = n) :
    ∃ w3, (Builtin.copy_ #[23, 23] ty #[.slice (some ⟨g, off, none⟩) (n - off) (n - off), v]).run Try.prog w = .ok (goInt l.length) w3 ∧ Own w3 base (.slice (some ⟨g, 0, none⟩) n n) (L.take off ++ l) ∧ Hid (Below base w w3) ∧ Hid (w.grownBy w3 (some g)) := by
  obtain ⟨i0, hi, hz0, hz1, hz2⟩ := info_parts info5
  have hLn : L.length = n := by
    obtain ⟨a, cap, hv, _⟩ := hO.form
    simp at hv; omega
  have hOw := hO
  obtain ⟨h1, h2⟩ := hO
  rcases h2 with ⟨h2, _⟩ | ⟨g', cap, cur, hv, hg, hw, hn, hm, hs, ht⟩
  · simp at h2
  · simp at hv
    obtain ⟨rfl, hv2, rfl⟩ := hv
    rcases hR with ⟨rfl, _⟩ | ⟨b, o, cp, rfl, r2, r3, r4, r5, r6⟩
    · simp at h0
    · have hcl : cur.toList = L.map bc := by
        rw [← ht, List.take_of_length_le (by simp; omega)]
      have hrun := run_copy_row (P := Try.prog) w 23 23 ty 5 g off (n - off) (n - off) ⟨b, o, none⟩ l.length cp cur 5 (l.map bc) Try.underlying23 (by rw [hi]; simp [hz1]) hw (by rw [List.length_map]; exact (Nat.min_eq_left (by omega)).symm) (newsR r6) (by simp; omega) one_bc
      rw [List.length_map] at hrun
      refine ⟨_, hrun, ?_, below_setRow (Below.refl _ _) hg _, ?_⟩
      · have hheap := setRow_heap w g cur (cur.toList.take off ++ l.map bc ++ cur.toList.drop (off + l.length)).toArray 5 (0, 0) hw
        have e1 : cur.toList.take off ++ l.map bc ++ cur.toList.drop (off + l.length) = (L.take off ++ l).map bc := by
          rw [hcl, hl, List.drop_of_length_le (by simp; omega), List.append_nil, List.map_append, List.map_take]
        rw [e1] at hheap ⊢
        have hlen : (L.take off ++ l).length = n := by simp; omega
        refine ⟨by simp, .inr ⟨g, n, _, by rw [hlen], hg, hheap, by omega, hm, by simp; omega, ?_⟩⟩
        rw [hlen, List.toList_toArray, Nat.mul_one]; exact List.take_of_length_le (by rw [List.length_map]; omega)
      · have hb := below_setRow (Below.refl 0 w) (Nat.zero_le g) (cur.toList.take off ++ l.map bc ++ cur.toList.drop (off + l.length)).toArray
        refine ⟨rfl, rfl, rfl, hb.size, fun k hk hne => ?_⟩
        show (w.heap.modify g _)[k]? = _
        rw [Array.getElem?_modify, if_neg (fun e => hne (by rw [e]))]
/-- The same, at one operation. -/
theorem wp_copy {w : World} {o : Oper} {a : Act} {K : Act → World → Prop} {Q : Exit → Act → World → Prop} (d s : Operand)
    (ho : o.op = .call { callee := .builtin .copy, args := #[d, s], argTypes := #[23, 23] }) (base g n off m : Nat) (L l : List UInt8) (v : Value) (hm : n - off = m)
    (hd : a.eval d = .slice (some ⟨g, off, none⟩) m m) (hs : a.eval s = v) (hO : Own w base (.slice (some ⟨g, 0, none⟩) n n) L) (hR : Reads w v l) (h0 : 0 < l.length) (hl : off + l.length = n)
    (h : ∀ w', Own w' base (.slice (some ⟨g, 0, none⟩) n n) (L.take off ++ l) → Hid (Below base w w') → Hid (w.grownBy w' (some g)) → K (a.put o.dst (goInt l.length)) w') : o.wp Try.prog a w K Q := by
  subst hm
  obtain ⟨w', hrun, h1, h2, h3⟩ := copy_own (w := w) (off := off) o.type hO hR h0 hl
  unfold Oper.wp
  simp [execOp, ho, resolve, invoke, builtin, hd, hs, hrun, Result.andThen]
  exact h w' h1 h2 h3
theorem own_zeros {w2 : World} {base g n cap : Nat} (h : w2.ownsRow base 5 1 (.slice (some ⟨g, 0, none⟩) n cap) n (madeCells (Value.int .u8 0).cells n).toList) : Own w2 base (.slice (some ⟨g, 0, none⟩) n cap) (List.replicate n 0) := by
  have e0 : (Value.int .u8 0).cells = #[.int .u8 0] := rfl
  rw [e0, toList_madeCells_one] at h
  unfold Own; simpa [bc] using h
end Go.Proofs.Ytopemhlkjicjpaa

/- A range over a function that tells something of what it hands over: a law of our own. -/
namespace Go.Proofs.Ytopemhlkjicjpaa
open Go.RowKit

/-- B has what A has in cells, and all that lies below n. -/
structure Kc (n : Nat) (A B : World) : Prop where
  b : Below n A B
  c : ∀ (k : Nat) (cs : Array Value) (t : TypeId) (fr : Nat × Nat), A.heap[k]? = some (Obj.cells cs t fr) → B.heap[k]? = some (Obj.cells cs t fr)
theorem Kc.of_below {n : Nat} {A B : World} (h : Below A.heap.size A B) (hn : n ≤ A.heap.size) : Kc n A B :=
  ⟨h.mono hn, fun k _ _ _ hk => (h.block k (Array.getElem?_eq_some_iff.1 hk).1).trans hk⟩
theorem Kc.put {n : Nat} {A : World} {l : Nat} {o : Obj} (o' : Obj) (h : A.heap[l]? = some o) (ho : o.isCells = false) (hn : n ≤ l) : Kc n A (A.putObj l o') := by
  refine ⟨(Below.refl n A).grown (grownBy_putObj' A l o') (by have := (Array.getElem?_eq_some_iff.1 h).1; omega) (fun k e => by cases e; exact hn), fun k cs t fr hk => ?_⟩
  by_cases e : k = l
  · subst e
    rw [h] at hk
    simp at hk
    subst hk
    simp [Obj.isCells] at ho
  · rw [World.putObj_heap_other e]; exact hk
variable {F : Fence} {n : Nat} {P : Program}
/-- What the function that is ranged over must do: it hands over what meets Pre, one behind the other, and in the end S. -/
def SeqP {α : Type} (F : Fence) (n : Nat) (P : Program) (g : Nat) (lb : Array Value) (encs : α → Array Value) (n₀ : Nat) (Pre : List α → α → World → Prop) (S : List α → Prop) (w : World) : Prop :=
  ∀ (l : Nat) (J : List α → World → Prop) (W : World), Kc n₀ w W → n₀ ≤ W.heap.size → (∀ pre A B, J pre A → Below A.heap.size A B → J pre B) →
    (∀ pre x W1, J pre W1 → Pre pre x W1 → n₀ ≤ W1.heap.size → YieldAt F (n - 1) P l (encs x) W1 fun e W' => e = .returned (.bool true) ∧ J (pre ++ [x]) W' ∧ Below n₀ W1 W') →
    J [] W → CallsIn F n P g (#[.func (.yield l) #[] #[]] ++ lb) W fun e W' => (∃ v, e = .returned v) ∧ ∃ xs, S xs ∧ J xs W'
/-- How a round that goes on ends. -/
def postP {α : Type} (n₀ : Nat) (I : List α → World → Prop) (xs : List α) (W : World) : Exit → Act → World → Prop
  | .normal, _, W' => KeepsOthers W W' ∧ Below n₀ W W' ∧ I xs W'
  | _, _, _ => False
theorem wpIn_range_pre {α : Type} {g : Operand} {ps : Array Tmp} {assign body : Code} {Q : Exit → Act → World → Prop} {a : Act} {w : World}
    (hro : F.round = none) (h1 : 1 ≤ n) {gf : Nat} {lb : Array Value} (hg : a.eval g = .func (.func gf) #[] lb) (hFg : F.fn gf) (eg : ∀ args w, (callFunc gf args).run P w = .ok (.enter gf args) w)
    {encs : α → Array Value} (hps : ∀ x, (encs x).size = ps.size) (I : List α → World → Prop) (Pre : List α → α → World → Prop) (S : List α → Prop)
    (n₀ : Nat) (hn₀ : n₀ ≤ w.heap.size) (hseq : SeqP F (n - 1) P gf lb encs n₀ Pre S w)
    (hI : ∀ pre A B, I pre A → Kc n₀ A B → I pre B) (hP : ∀ pre x A B, Pre pre x A → Kc n₀ A B → Pre pre x B) (h0 : I [] w) (a₁ : α → Act)
    (hassign : ∀ (l : Nat) (x : α) (W : World) (K : Act → World → Prop), K (a₁ x) W →
      assign.wpIn (F.inRound l) (n - 1 - 1) P (Exit.then K (fun _ _ _ => False)) { tmps := (ps.zip (encs x)).foldl (fun t (p, v) => t.setIfInBounds p v) a.tmps, defers := [] } W)
    (hbody : ∀ (l : Nat) (pre : List α) (x : α) (W : World), I pre W → Pre pre x W → n₀ ≤ W.heap.size → body.wpIn (F.inRound l) (n - 1 - 1) P (postP n₀ I (pre ++ [x]) W) (a₁ x) W)
    (hdone : ∀ (D : Nat) (xs : List α) (W : World), w.heap.size ≤ D → S xs → I xs W → W.heap[D]? = some (.deferred (some [])) → Q .normal { a with defers := { target := .collected D, args := #[] } :: a.defers } W) :
    (Code.rangeFunc g ps assign body).wpIn F n P Q a w := by
  refine wpIn_rangeFunc ?_
  intro fn hfn
  rw [hro]
  have hen := run_enterLoop_outer (P := P) (w := w) fn a.tmps ps assign body
  generalize hd : w.heap.size = d at *
  generalize hr0 : ({ state := .ready, pending := none, fn := fn, tmps := a.tmps, params := ps, assign := assign, body := body, defers := d } : Loop) = r0 at *
  have e1 : r0.fn = fn := by rw [← hr0]
  have e2 : r0.params = ps := by rw [← hr0]
  have e3 : r0.state = .ready := by rw [← hr0]
  have e4 : r0.tmps = a.tmps := by rw [← hr0]
  have e5 : r0.assign = assign := by rw [← hr0]
  have e6 : r0.body = body := by rw [← hr0]
  have e7 : r0.pending = none := by rw [← hr0]
  generalize hW : (w.alloc (.deferred (some []))).alloc (.loop r0) = W0 at *
  have hB : Below d w W0 := by
    rw [← hW]
    exact ((Below.refl d w).alloc (by omega) _).alloc (by simp; omega) _
  have hz : W0.heap.size = d + 2 := by rw [← hW]; simp; omega
  have hD0 : W0.heap[d]? = some (.deferred (some [])) := by
    rw [← hW, Below.heap_alloc _ _ _ (by simp; omega), ← hd]; exact World.alloc_heap_new w _
  have hL0 : W0.heap[d + 1]? = some (.loop r0) := by
    have := World.alloc_heap_new (w.alloc (.deferred (some []))) (.loop r0)
    rw [World.size_alloc, hd, hW] at this
    exact this
  refine ⟨d + 1, _, W0, { target := .fn (.func gf) lb, args := #[.func (.yield (d + 1)) #[] #[]] }, W0, gf, #[.func (.yield (d + 1)) #[] #[]] ++ lb, W0, hen, ?_, ?_, ?_, fun _ => h1, ?_⟩
  · simp only [resolve, hg]; simp [go_sem]
  · intro f' hf'; simp [Target.leads] at hf'; subst hf'; exact hFg
  · simp [invoke, go_sem, eg]
  · have hKw : Kc n₀ w W0 := ⟨hB.mono hn₀, fun k _ _ _ hk => (hB.block k (by have := (Array.getElem?_eq_some_iff.1 hk).1; omega)).trans hk⟩
    have hI0 : I [] W0 := hI [] w W0 h0 hKw
    refine (hseq (d + 1) (fun pre W => I pre W ∧ W.heap[d + 1]? = some (.loop r0) ∧ W.heap[d]? = some (.deferred (some [])) ∧ d ≤ W.heap.size) W0 hKw (by omega) ?_ ?_ ⟨hI0, hL0, hD0, by omega⟩).mono ?_
    · rintro pre A B ⟨q1, q2, q3, q4⟩ hb
      have hs := hb.size
      exact ⟨hI pre A B q1 (Kc.of_below hb (by omega)), (hb.block _ (Array.getElem?_eq_some_iff.1 q2).1).trans q2, (hb.block _ (Array.getElem?_eq_some_iff.1 q3).1).trans q3, by omega⟩
    · rintro pre x W ⟨q1, q2, q3, q4⟩ hpx hdw
      have hl := (Array.getElem?_eq_some_iff.1 q2).1
      have hy := run_yield (P := P) (args := encs x) q2 (by rw [e2]; exact hps x)
      rw [e1, e2, e4, e5, e6] at hy
      refine ⟨fn, _, assign, body, hy, roundIn_of_wpIn hfn (hassign _ x W _ ⟨_, run_beginRound q2 e3, ?_⟩)⟩
      have k1 := Kc.put (n := n₀) (.loop { r0 with state := .busy }) q2 rfl (by omega)
      have l1 : (W.putObj (d + 1) (.loop { r0 with state := .busy })).heap[d + 1]? = some (.loop { r0 with state := .busy }) := World.putObj_heap_same hl
      have d1 : (W.putObj (d + 1) (.loop { r0 with state := .busy })).heap[d]? = some (.deferred (some [])) := (World.putObj_heap_other (by omega)).trans q3
      refine wpIn_mono (hbody _ pre x _ (hI _ _ _ q1 k1) (hP _ _ _ _ hpx k1) (by simp; omega)) ?_
      intro e a3 W3 hp
      cases e with
      | normal =>
        obtain ⟨m1, m2, m3⟩ := hp
        have l3 := m1.same _ _ l1 rfl
        have d3 := m1.same _ _ d1 rfl
        have hend := run_endRound (P := P) none l3
        have hl3 := (Array.getElem?_eq_some_iff.1 l3).1
        have e9 : ({ ({ r0 with state := .busy } : Loop) with state := if (none : Option Code).isNone then .ready else .done, pending := none } : Loop) = r0 := by
          rw [← hr0]; rfl
        rw [e9] at hend
        have k3 := Kc.put (n := n₀) (.loop r0) l3 rfl (by omega)
        exact ⟨_, _, hend, rfl, ⟨hI _ _ _ m3 k3, World.putObj_heap_same hl3, (World.putObj_heap_other (by omega)).trans d3, by have := m1.size; simp at this ⊢; omega⟩, (k1.b.trans m2).trans k3.b⟩
      | ret => exact hp.elim
      | exit id => exact hp.elim
      | goto t => exact hp.elim
      | panic ch => exact hp.elim
      | outgrown => exact hp.elim
    · rintro e W2 ⟨⟨v, rfl⟩, xs, hS, q1, q2, q3, q4⟩
      have hend := run_endLoop (P := P) q2 (by rw [e3]; simp)
      rw [e7] at hend
      refine ⟨none, _, hend, ?_⟩
      exact hdone d xs _ (by omega) hS (hI _ _ _ q1 (Kc.put _ q2 rfl (by omega))) ((World.putObj_heap_other (by omega)).trans q3)
end Go.Proofs.Ytopemhlkjicjpaa
