/- K4 K3 K5 K7 K6, joined. -/
import Derived.Test.YtahigmjpeicemaaDoorWG4
import Derived.Deep.QuietTactic
import Derived.BigQuiet
import Derived.Laws.BitsAllLaws
/- The contracts of cmp.Compare, slices.Compare and cmp.Or, as key.Less calls them. -/
namespace Go.Proofs.YtahigmjpeicemaaDoor
open Go.RowKit

def cmpI (a b : Int) : Int := if a < b then -1 else if b < a then 1 else 0
def cmpS (s t : ByteArray) : Int := if Op.bytesLess s.toList t.toList = true then -1 else if s.toList = t.toList then 0 else 1
def cmpL : List ByteArray → List ByteArray → Int
  | [], [] => 0
  | [], _ :: _ => -1
  | _ :: _, [] => 1
  | x :: a, y :: b => if cmpS x y ≠ 0 then cmpS x y else cmpL a b
theorem nanS (x : ByteArray) (w : World) : Calls Tryd.prog 114 #[.string x] w fun e w' => e = .returned (.bool false) ∧ w' = w := by
  go_enter Tryd.func114, Tryd.ntmps114
  go_wp2_with fail
  go_ret
  exact ⟨by simp, rfl⟩
theorem ret_int {k : IntKind} {a b : Int} (h : a = b) : Ending.returned (.int k a) = .returned (.int k b) := by rw [h]
theorem cmpL_nil_left (b : List ByteArray) : cmpL [] b = if b.length = 0 then 0 else -1 := by cases b <;> simp [cmpL]
theorem cmpL_nil_right {a : List ByteArray} (h : 0 < a.length) : cmpL a [] = 1 := by cases a <;> simp [cmpL] at *
theorem cmpL_drop {a b : List ByteArray} {k : Nat} (ha : k < a.length) (hb : k < b.length) : cmpL (a.drop k) (b.drop k) = if cmpS a[k] b[k] ≠ 0 then cmpS a[k] b[k] else cmpL (a.drop (k + 1)) (b.drop (k + 1)) := by
  rw [List.drop_eq_getElem_cons ha, List.drop_eq_getElem_cons hb, cmpL]
/-- The first of three that is not 0. -/
def or3 (a b c : Int) : Int := if a ≠ 0 then a else if b ≠ 0 then b else c
end Go.Proofs.YtahigmjpeicemaaDoor

/- The contract of key.Write. -/
namespace Go.Proofs.YtahigmjpeicemaaDoor
open Go.RowKit

/-- A key's bytes. -/
def kb (L : List ByteArray) (f g : Int) : List UInt8 := (jn L ++ nb f) ++ [UInt8.ofNat g.toNat]
theorem kbox {w w' : World} {x y z : Value} {t : TypeId} (h : Below (w.heap.size + 1) (w.alloc (.cells #[x, y, z] t)) w') : w'.cell? ⟨w.heap.size, 0, none⟩ = some x ∧ w'.cell? ⟨w.heap.size, 1, none⟩ = some y ∧ w'.cell? ⟨w.heap.size, 2, none⟩ = some z := by
  refine ⟨(h.cell (p := ⟨w.heap.size, 0, none⟩) (by simp)).trans (by simp), (h.cell (p := ⟨w.heap.size, 1, none⟩) (by simp)).trans (by simp), (h.cell (p := ⟨w.heap.size, 2, none⟩) (by simp)).trans (by simp)⟩
theorem KLies.in {k : Ky} {w w' : World} {n : Nat} (h : KLies k w) (hn : w.heap.size ≤ n) (hb : Below n w w') : KLies k w' := h.below (hb.mono hn)
theorem box_below {w w' : World} {o : Obj} (h : Below (w.heap.size + 1) (w.alloc o) w') : Below w.heap.size w w' := ((Below.refl _ _).alloc (Nat.le_refl _) o).trans (h.mono (by omega))
end Go.Proofs.YtahigmjpeicemaaDoor

/- The contract of key.Less. -/
namespace Go.Proofs.YtahigmjpeicemaaDoor
open Go.RowKit

/-- Does a key stand ahead? -/
def lessK (a b : Ky) : Bool := decide (or3 (cmpL a.L b.L) (cmpI a.f b.f) (cmpI a.g b.g) < 0)
theorem kbox2 {w w' : World} {x y z x' y' z' : Value} {t t' : TypeId} (h : Below (w.heap.size + 2) ((w.alloc (.cells #[x, y, z] t)).alloc (.cells #[x', y', z'] t')) w') :
    (w'.cell? ⟨w.heap.size, 0, none⟩ = some x ∧ w'.cell? ⟨w.heap.size, 1, none⟩ = some y ∧ w'.cell? ⟨w.heap.size, 2, none⟩ = some z) ∧ (w'.cell? ⟨w.heap.size + 1, 0, none⟩ = some x' ∧ w'.cell? ⟨w.heap.size + 1, 1, none⟩ = some y' ∧ w'.cell? ⟨w.heap.size + 1, 2, none⟩ = some z') := by
  have h2 : Below (w.heap.size + 1) (w.alloc (.cells #[x, y, z] t)) w' := ((Below.refl _ _).alloc (by simp) _).trans (h.mono (by omega))
  have h3 := kbox (w := w.alloc (.cells #[x, y, z] t)) (w' := w') (x := x') (y := y') (z := z') (t := t') (by simpa using h)
  exact ⟨kbox h2, by simpa using h3⟩
theorem box2_below {w w' : World} {o o' : Obj} (h : Below (w.heap.size + 2) ((w.alloc o).alloc o') w') : Below w.heap.size w w' := (((Below.refl _ _).alloc (Nat.le_refl _) o).alloc (by simp) o').trans (h.mono (by omega))
end Go.Proofs.YtahigmjpeicemaaDoor

/- The contracts of the statements' own 'long', and of the reference's Order and Same. -/
namespace Go.Proofs.YtahigmjpeicemaaDoor
open Go.RowKit

/-- Are there too many dimensions, or too long ones? -/
def longB (L : List ByteArray) : Bool := !decide (L.length ≤ 80 ∧ ∀ s ∈ L, s.size ≤ 200)
theorem longB_no {L : List ByteArray} : longB L = false ↔ L.length ≤ 80 ∧ ∀ s ∈ L, s.size ≤ 200 := by unfold longB; simp
theorem longB_yes {L : List ByteArray} (h : ¬ (L.length ≤ 80 ∧ ∀ s ∈ L, s.size ≤ 200)) : longB L = true := by unfold longB; rw [decide_eq_false h]; rfl
set_option maxRecDepth 100000 in
set_option maxHeartbeats 1000000 in
theorem order_any (va vb : Value) (A B : List ByteArray) (w : World) (ha : SReads w va A) (hb : SReads w vb B) :
    Calls Tryd.prog 40 #[va, vb] w fun e w' => e = .returned (.int .i64 (cmpL A B)) ∧ Below w.heap.size w w' := by
  obtain ⟨aa, ca, rfl, hma⟩ := ha.form
  obtain ⟨ab, cb, rfl, hmb⟩ := hb.form
  unfold maxLen at hma hmb
  have HA : Hid (SReads w (.slice aa A.length ca) A) := ha
  have HB : Hid (SReads w (.slice ab B.length cb) B) := hb
  clear ha hb
  go_enter Tryd.func40, Tryd.ntmps40
  go_wp2_with fail
  go_loopw [5] (fun i wr => ∃ k : Nat, k ≤ A.length ∧ k ≤ B.length ∧ i = .int .i64 k ∧ Hid (cmpL A B = cmpL (A.drop k) (B.drop k)) ∧ Hid (Below w.heap.size w wr)) (fun i _ => A.length - (intOf i).toNat)
  case atStart => exact ⟨0, Nat.zero_le _, Nat.zero_le _, rfl, rfl, Below.refl _ _⟩
  case round =>
    obtain ⟨k, hk1, hk2, rfl, HK, HBW⟩ := hrel
    by_cases hlt : k < A.length ∧ k < B.length
    · obtain ⟨hl1, hl2⟩ := hlt
      obtain ⟨ba, oa, rfl, _, c1⟩ := (HA.out.below HBW.out).at k hl1
      obtain ⟨bb, ob, rfl, _, c2⟩ := (HB.out.below HBW.out).at k hl2
      have HS : Hid (cmpL A B = if cmpS A[k] B[k] ≠ 0 then cmpS A[k] B[k] else cmpL (A.drop (k + 1)) (B.drop (k + 1))) := HK.out.trans (cmpL_drop hl1 hl2)
      generalize A[k] = s at *
      generalize B[k] = t at *
      have HC : Hid (cmpS s t = if Op.bytesLess s.toList t.toList = true then -1 else if s.toList = t.toList then 0 else 1) := rfl
      clear HK
      cases h1 : Op.bytesLess s.toList t.toList with
      | true =>
        have HS2 : Hid (cmpL A B = -1) := by
          have e : cmpS s t = -1 := by rw [HC.out, if_pos h1]
          rw [HS.out, e]; rfl
        clear HS HC
        go_wp2_with fail
        go_quiet (fail)
        have HB1 : Hid (Below w.heap.size w (wr.drewN nq)) := below_drewN HBW.out nq
        clear h1 c1 c2
        go_wp2_with fail
        go_ret
        exact ⟨by rw [HS2.out]; rfl, HB1.out⟩
      | false =>
        by_cases h2 : s.toList = t.toList
        · have HS2 : Hid (cmpL A B = cmpL (A.drop (k + 1)) (B.drop (k + 1))) := by
            have e : cmpS s t = 0 := by rw [HC.out, if_neg (by rw [h1]; decide), if_pos h2]
            rw [HS.out, e]; rfl
          have h3 : (s.toList == t.toList) = true := by simpa using h2
          clear HS HC h2
          go_wp2_with fail
          go_quiet (fail)
          have HB1 : Hid (Below w.heap.size w (wr.drewN nq)) := below_drewN HBW.out nq
          go_wp2_with fail
          go_quiet (fail)
          clear c1 c2 h1 h3 HB1
          go_wp2_with fail
          go_roundw
          case rel => exact ⟨k + 1, by omega, by omega, by go_num, HS2, below_drewN HBW.out _⟩
          case measure => simp [intOf]; omega
        · have HS2 : Hid (cmpL A B = 1) := by
            have e : cmpS s t = 1 := by rw [HC.out, if_neg (by rw [h1]; decide), if_neg h2]
            rw [HS.out, e]; rfl
          have h3 : (s.toList == t.toList) = false := by simpa using h2
          clear HS HC h2
          go_wp2_with fail
          go_quiet (fail)
          have HB1 : Hid (Below w.heap.size w (wr.drewN nq)) := below_drewN HBW.out nq
          go_wp2_with fail
          go_quiet (fail)
          have HB2 : Hid (Below w.heap.size w _) := below_drewN HB1.out nq
          clear c1 c2 h1 h3
          go_wp2_with fail
          go_ret
          exact ⟨by rw [HS2.out]; rfl, HB2.out⟩
    · have HS : Hid (cmpL A B = if A.length < B.length then -1 else if B.length < A.length then 1 else 0) := by
        rw [HK.out]
        unfold Hid
        by_cases h1 : k < A.length
        · rw [List.drop_eq_nil_of_le (show B.length ≤ k by omega), cmpL_nil_right (by simp; omega), if_neg (by omega), if_pos (by omega)]
        · rw [List.drop_eq_nil_of_le (show A.length ≤ k by omega), cmpL_nil_left, List.length_drop]
          by_cases h2 : A.length < B.length
          · rw [if_neg (by omega), if_pos h2]
          · rw [if_pos (by omega), if_neg h2, if_neg (by omega)]
      by_cases h1 : (k : Int) < (A.length : Int)
      · have h2 : ¬ (k : Int) < (B.length : Int) := by omega
        have h3 : ¬ (A.length : Int) < (B.length : Int) := by omega
        have h4 : (B.length : Int) < (A.length : Int) := by omega
        have HS2 : Hid (cmpL A B = 1) := by rw [HS.out, if_neg (by omega), if_pos (by omega)]; rfl
        clear HS hlt HK
        go_wp2_with fail
        go_ret
        exact ⟨by rw [HS2.out]; rfl, HBW.out⟩
      · by_cases h3 : (A.length : Int) < (B.length : Int)
        · have HS2 : Hid (cmpL A B = -1) := by rw [HS.out, if_pos (by omega)]; rfl
          clear HS hlt HK
          go_wp2_with fail
          go_ret
          exact ⟨by rw [HS2.out]; rfl, HBW.out⟩
        · have h4 : ¬ (B.length : Int) < (A.length : Int) := by omega
          have HS2 : Hid (cmpL A B = 0) := by rw [HS.out, if_neg (by omega), if_neg (by omega)]; rfl
          clear HS hlt HK
          go_wp2_with fail
          go_ret
          exact ⟨by rw [HS2.out]; rfl, HBW.out⟩
def sameK (a b : Ky) : Bool := decide (cmpL a.L b.L = 0 ∧ a.f = b.f ∧ a.g = b.g)
end Go.Proofs.YtahigmjpeicemaaDoor

/- Texts of one's own; the contract of key.Part. -/
namespace Go.Proofs.YtahigmjpeicemaaDoor
open Go.RowKit

theorem infoS : (Tryd.prog.info? 9).map (fun i => (i.zero, i.size, i.bytes)) = some (some (.string ByteArray.empty), 1, 16) := by kernel_rfl
/-- Texts of one's own: their slice's array was made since base. -/
def SOwn (w : World) (base : Nat) (v : Value) (L : List ByteArray) : Prop := w.ownsRow base 9 1 v L.length (L.map Value.string) ∧ ∀ s ∈ L, s.size ≤ maxLen
theorem SOwn.nil (w : World) (base : Nat) : SOwn w base (.slice none 0 0) [] := ⟨World.ownsRow_nil _ _ _ _, by intro s hs; simp at hs⟩
theorem SOwn.mono {w : World} {base base' : Nat} {v : Value} {l : List ByteArray} (h : SOwn w base v l) (hb : base' ≤ base) : SOwn w base' v l := ⟨own_mono h.1 hb, h.2⟩
theorem SOwn.below {w w' : World} {base : Nat} {v : Value} {l : List ByteArray} (h : SOwn w base v l) (hb : Below w.heap.size w w') : SOwn w' base v l := by
  have hlt := World.ownsRow.lt h.1
  obtain ⟨⟨h1, h2⟩, h3⟩ := h
  refine ⟨⟨h1, ?_⟩, h3⟩
  rcases h2 with h2 | ⟨g, cap, cur, hv, hg, hw, r⟩
  · exact .inl h2
  · exact .inr ⟨g, cap, cur, hv, hg, (hb.block g (hlt g (by rw [hv]; rfl)).2).trans hw, r⟩
theorem SOwn.reads {w : World} {base : Nat} {v : Value} {L : List ByteArray} (h : SOwn w base v L) : SReads w v L := by
  obtain ⟨h, hs⟩ := h
  obtain ⟨h1, h2⟩ := h
  simp at h1
  rcases h2 with ⟨rfl, h0⟩ | ⟨g, cap, cur, rfl, hg, hw, hn, hm, hs1, ht⟩
  · left
    exact ⟨List.length_eq_zero_iff.1 (by omega), none, 0, rfl, fun _ => rfl⟩
  · rcases Nat.eq_zero_or_pos L.length with h0 | h0
    · left; exact ⟨List.length_eq_zero_iff.1 h0, _, cap, by rw [h0], fun h => by cases h⟩
    · right
      have hown : w.ownsRow base 9 1 (.slice (some ⟨g, 0, none⟩) L.length cap) L.length (L.map Value.string) := ⟨by simp, .inr ⟨g, cap, cur, rfl, hg, hw, hn, hm, hs1, ht⟩⟩
      refine ⟨g, 0, cap, rfl, h0, by omega, hm, (hown.lt g rfl).2, fun j hj => ?_, hs⟩
      have := hown.cells (g := g) rfl j (.string L[j]) (by simp [hj])
      have ea : (⟨g, 0, none⟩ : Addr).add j = ⟨g, 0 + j, none⟩ := by simp [Addr.add]; omega
      rw [ea] at this
      exact this
theorem wpList_sapp1 {w0 : World} {ops : Array Oper} {rest : List Oper} {o : Oper} {a : Act} {Q : Exit → Act → World → Prop} {t : TypeId} {y : ByteArray} (hgd : o.guard = none) (s x : Operand)
    (ho : o.op = .call { callee := .builtin .append, args := #[s, x], argTypes := #[25, 25] })
    (base : Nat) (v : Value) (L M : List ByteArray) (hM : M = L ++ [y]) (hy : y.size ≤ maxLen) (hs : a.eval s = v) (hx : a.eval x = .slice (some ⟨w0.heap.size, 0, none⟩) 1 1) (hown : SOwn w0 base v L)
    (hlen : L.length + 1 ≤ 8796093022208) (hbase : base ≤ w0.heap.size)
    (h : ∀ v' w', SOwn w' base v' M → Hid (Below base w0 w') → wpList Tryd.prog ops Q rest (a.put o.dst v') w') : wpList Tryd.prog ops Q (o :: rest) a (w0.alloc (.cells #[.string y] t)) := by
  subst hM
  obtain ⟨i0, hi, hz0, hz1, hz2⟩ := info_parts infoS
  refine wpList_append_own (w0.alloc (.cells #[.string y] t)) hgd s x 25 ho base 9 i0 (.string ByteArray.empty) 1 16 Tryd.underlying25 hi hz0 hz1 hz2 rfl (by decide) v L.length (L.map Value.string) hs (hown.1.alloc _) ⟨w0.heap.size, 0, none⟩ 1 1 [.string y] hx rfl news1 (by intro u hu; simp at hu; subst hu; rfl) (by simp [maxLen]; omega) (by omega) (by simp; omega) ?_
  intro v' w' hown' hgrow _
  refine h v' w' ⟨?_, ?_⟩ (((Below.refl _ _).alloc hbase _).grown hgrow (by simp; omega) (own_block hown.1))
  · rw [List.length_append, List.map_append]; exact hown'
  · intro u hu
    rcases List.mem_append.1 hu with hu | hu
    · exact hown.2 u hu
    · simp at hu; subst hu; exact hy
/-- A part of dimensions. -/
def pt : List ByteArray → Nat → List ByteArray
  | [], _ => []
  | s :: L, m => (if m % 2 = 1 then [s] else []) ++ pt L (m / 2)
theorem pt_snoc (L : List ByteArray) (s : ByteArray) : ∀ m, pt (L ++ [s]) m = pt L m ++ (if m / 2 ^ L.length % 2 = 1 then [s] else []) := by
  induction L with
  | nil => intro m; simp [pt]
  | cons x L ih =>
    intro m
    simp only [List.cons_append, pt, ih, List.length_cons, List.append_assoc]
    have e : m / 2 / 2 ^ L.length = m / 2 ^ (L.length + 1) := by rw [Nat.div_div_eq_div_mul, Nat.pow_succ, Nat.mul_comm 2]
    simp only [e]
theorem pt_len (L : List ByteArray) : ∀ m, (pt L m).length ≤ L.length := by
  induction L with
  | nil => intro m; simp [pt]
  | cons x L ih => intro m; have := ih (m / 2); simp only [pt, List.length_append, List.length_cons]; split <;> simp <;> omega
theorem i64_and_one (a : Nat) (h : a < 9223372036854775808) : bits .and .i64 (a : Int) 1 = ((a % 2 : Nat) : Int) := by
  show IntKind.i64.wrap ((BitVec.ofInt 64 (a : Int) &&& BitVec.ofInt 64 ((1 : Nat) : Int)).toNat : Int) = _
  rw [BitVec.toNat_and, ofInt_u64 a (by omega), ofInt_u64 1 (by omega), Nat.and_one_is_mod]
  simp [IntKind.wrap, IntKind.bits, IntKind.signed]
  omega
theorem shr_min (m k : Nat) (h : m < 9223372036854775808) : m / 2 ^ min k 64 = m / 2 ^ k := by
  rcases Nat.le_total k 64 with h1 | h1
  · rw [Nat.min_eq_left h1]
  · rw [Nat.min_eq_right h1, Nat.div_eq_of_lt (by omega), Nat.div_eq_of_lt (Nat.lt_of_lt_of_le (by omega : m < 2 ^ 64) (Nat.pow_le_pow_right (by decide) h1))]
theorem shr_and (m k : Nat) (h : m < 9223372036854775808) : bits .and .i64 ((m : Int) / 2 ^ min k 64) 1 = ((m / 2 ^ k % 2 : Nat) : Int) := by
  have := i64_and_one (m / 2 ^ min k 64) (Nat.lt_of_le_of_lt (Nat.div_le_self _ _) h)
  rw [shr_min m k h] at this
  rw [← this, ← shr_min m k h]
  push_cast; rfl
end Go.Proofs.YtahigmjpeicemaaDoor
