/- K4 K3 K5 K7 K9, joined. -/
import Derived.Test.YtegcomopcoapjaaGreatDoorTG4
import Derived.Deep.QuietTactic
import Derived.BigQuiet
/- The contracts of cmp.Compare, slices.Compare and cmp.Or, as key.Less calls them. -/
namespace Go.Proofs.YtegcomopcoapjaaGreatDoor
open Go.RowKit

def cmpI (a b : Int) : Int := if a < b then -1 else if b < a then 1 else 0
def cmpS (s t : ByteArray) : Int := if Op.bytesLess s.toList t.toList = true then -1 else if s.toList = t.toList then 0 else 1
def cmpL : List ByteArray → List ByteArray → Int
  | [], [] => 0
  | [], _ :: _ => -1
  | _ :: _, [] => 1
  | x :: a, y :: b => if cmpS x y ≠ 0 then cmpS x y else cmpL a b
theorem nanS (x : ByteArray) (w : World) : Calls Tryz.prog 100 #[.string x] w fun e w' => e = .returned (.bool false) ∧ w' = w := by
  go_enter Tryz.func100, Tryz.ntmps100
  go_wp2_with fail
  go_ret
  exact ⟨by simp, rfl⟩
theorem ret_int {k : IntKind} {a b : Int} (h : a = b) : Ending.returned (.int k a) = .returned (.int k b) := by rw [h]
theorem cmpL_nil_left (b : List ByteArray) : cmpL [] b = if b.length = 0 then 0 else -1 := by cases b <;> simp [cmpL]
theorem cmpL_nil_right {a : List ByteArray} (h : 0 < a.length) : cmpL a [] = 1 := by cases a <;> simp [cmpL] at *
theorem cmpL_drop {a b : List ByteArray} {k : Nat} (ha : k < a.length) (hb : k < b.length) : cmpL (a.drop k) (b.drop k) = if cmpS a[k] b[k] ≠ 0 then cmpS a[k] b[k] else cmpL (a.drop (k + 1)) (b.drop (k + 1)) := by
  rw [List.drop_eq_getElem_cons ha, List.drop_eq_getElem_cons hb, cmpL]
/-- The first of three that is not 0. -/
def or3 (a b c : Int) : Int := if a ≠ 0 then a else if b ≠ 0 then b else c
end Go.Proofs.YtegcomopcoapjaaGreatDoor

/- The contract of key.Write. -/
namespace Go.Proofs.YtegcomopcoapjaaGreatDoor
open Go.RowKit

/-- A key's bytes. -/
def kb (L : List ByteArray) (f g : Int) : List UInt8 := (jn L ++ nb f) ++ [UInt8.ofNat g.toNat]
theorem kbox {w w' : World} {x y z : Value} {t : TypeId} (h : Below (w.heap.size + 1) (w.alloc (.cells #[x, y, z] t)) w') : w'.cell? ⟨w.heap.size, 0, none⟩ = some x ∧ w'.cell? ⟨w.heap.size, 1, none⟩ = some y ∧ w'.cell? ⟨w.heap.size, 2, none⟩ = some z := by
  refine ⟨(h.cell (p := ⟨w.heap.size, 0, none⟩) (by simp)).trans (by simp), (h.cell (p := ⟨w.heap.size, 1, none⟩) (by simp)).trans (by simp), (h.cell (p := ⟨w.heap.size, 2, none⟩) (by simp)).trans (by simp)⟩
theorem KLies.in {k : Ky} {w w' : World} {n : Nat} (h : KLies k w) (hn : w.heap.size ≤ n) (hb : Below n w w') : KLies k w' := h.below (hb.mono hn)
theorem box_below {w w' : World} {o : Obj} (h : Below (w.heap.size + 1) (w.alloc o) w') : Below w.heap.size w w' := ((Below.refl _ _).alloc (Nat.le_refl _) o).trans (h.mono (by omega))
end Go.Proofs.YtegcomopcoapjaaGreatDoor

/- The contract of key.Less. -/
namespace Go.Proofs.YtegcomopcoapjaaGreatDoor
open Go.RowKit

/-- Does a key stand ahead? -/
def lessK (a b : Ky) : Bool := decide (or3 (cmpL a.L b.L) (cmpI a.f b.f) (cmpI a.g b.g) < 0)
theorem kbox2 {w w' : World} {x y z x' y' z' : Value} {t t' : TypeId} (h : Below (w.heap.size + 2) ((w.alloc (.cells #[x, y, z] t)).alloc (.cells #[x', y', z'] t')) w') :
    (w'.cell? ⟨w.heap.size, 0, none⟩ = some x ∧ w'.cell? ⟨w.heap.size, 1, none⟩ = some y ∧ w'.cell? ⟨w.heap.size, 2, none⟩ = some z) ∧ (w'.cell? ⟨w.heap.size + 1, 0, none⟩ = some x' ∧ w'.cell? ⟨w.heap.size + 1, 1, none⟩ = some y' ∧ w'.cell? ⟨w.heap.size + 1, 2, none⟩ = some z') := by
  have h2 : Below (w.heap.size + 1) (w.alloc (.cells #[x, y, z] t)) w' := ((Below.refl _ _).alloc (by simp) _).trans (h.mono (by omega))
  have h3 := kbox (w := w.alloc (.cells #[x, y, z] t)) (w' := w') (x := x') (y := y') (z := z') (t := t') (by simpa using h)
  exact ⟨kbox h2, by simpa using h3⟩
theorem box2_below {w w' : World} {o o' : Obj} (h : Below (w.heap.size + 2) ((w.alloc o).alloc o') w') : Below w.heap.size w w' := (((Below.refl _ _).alloc (Nat.le_refl _) o).alloc (by simp) o').trans (h.mono (by omega))
end Go.Proofs.YtegcomopcoapjaaGreatDoor

/- The contracts of the statements' own 'long', and of the reference's Order and Same. -/
namespace Go.Proofs.YtegcomopcoapjaaGreatDoor
open Go.RowKit

/-- Are there too many dimensions, or too long ones? -/
def longB (L : List ByteArray) : Bool := !decide (L.length ≤ 80 ∧ ∀ s ∈ L, s.size ≤ 200)
theorem longB_no {L : List ByteArray} : longB L = false ↔ L.length ≤ 80 ∧ ∀ s ∈ L, s.size ≤ 200 := by unfold longB; simp
theorem longB_yes {L : List ByteArray} (h : ¬ (L.length ≤ 80 ∧ ∀ s ∈ L, s.size ≤ 200)) : longB L = true := by unfold longB; rw [decide_eq_false h]; rfl
set_option maxRecDepth 100000 in
set_option maxHeartbeats 1000000 in
theorem order_any (va vb : Value) (A B : List ByteArray) (w : World) (ha : SReads w va A) (hb : SReads w vb B) :
    Calls Tryz.prog 52 #[va, vb] w fun e w' => e = .returned (.int .i64 (cmpL A B)) ∧ Below w.heap.size w w' := by
  obtain ⟨aa, ca, rfl, hma⟩ := ha.form
  obtain ⟨ab, cb, rfl, hmb⟩ := hb.form
  unfold maxLen at hma hmb
  have HA : Hid (SReads w (.slice aa A.length ca) A) := ha
  have HB : Hid (SReads w (.slice ab B.length cb) B) := hb
  clear ha hb
  go_enter Tryz.func52, Tryz.ntmps52
  go_wp2_with fail
  go_loopw [5] (fun i wr => ∃ k : Nat, k ≤ A.length ∧ k ≤ B.length ∧ i = .int .i64 k ∧ Hid (cmpL A B = cmpL (A.drop k) (B.drop k)) ∧ Hid (Below w.heap.size w wr)) (fun i _ => A.length - (intOf i).toNat)
  case atStart => exact ⟨0, Nat.zero_le _, Nat.zero_le _, rfl, rfl, Below.refl _ _⟩
  case round =>
    obtain ⟨k, hk1, hk2, rfl, HK, HBW⟩ := hrel
    by_cases hlt : k < A.length ∧ k < B.length
    · obtain ⟨hl1, hl2⟩ := hlt
      obtain ⟨ba, oa, rfl, _, c1⟩ := (HA.out.below HBW.out).at k hl1
      obtain ⟨bb, ob, rfl, _, c2⟩ := (HB.out.below HBW.out).at k hl2
      have HS : Hid (cmpL A B = if cmpS A[k] B[k] ≠ 0 then cmpS A[k] B[k] else cmpL (A.drop (k + 1)) (B.drop (k + 1))) := HK.out.trans (cmpL_drop hl1 hl2)
      generalize A[k] = s at *
      generalize B[k] = t at *
      have HC : Hid (cmpS s t = if Op.bytesLess s.toList t.toList = true then -1 else if s.toList = t.toList then 0 else 1) := rfl
      clear HK
      cases h1 : Op.bytesLess s.toList t.toList with
      | true =>
        have HS2 : Hid (cmpL A B = -1) := by
          have e : cmpS s t = -1 := by rw [HC.out, if_pos h1]
          rw [HS.out, e]; rfl
        clear HS HC
        go_wp2_with fail
        go_quiet (fail)
        have HB1 : Hid (Below w.heap.size w (wr.drewN nq)) := below_drewN HBW.out nq
        clear h1 c1 c2
        go_wp2_with fail
        go_ret
        exact ⟨by rw [HS2.out]; rfl, HB1.out⟩
      | false =>
        by_cases h2 : s.toList = t.toList
        · have HS2 : Hid (cmpL A B = cmpL (A.drop (k + 1)) (B.drop (k + 1))) := by
            have e : cmpS s t = 0 := by rw [HC.out, if_neg (by rw [h1]; decide), if_pos h2]
            rw [HS.out, e]; rfl
          have h3 : (s.toList == t.toList) = true := by simpa using h2
          clear HS HC h2
          go_wp2_with fail
          go_quiet (fail)
          have HB1 : Hid (Below w.heap.size w (wr.drewN nq)) := below_drewN HBW.out nq
          go_wp2_with fail
          go_quiet (fail)
          clear c1 c2 h1 h3 HB1
          go_wp2_with fail
          go_roundw
          case rel => exact ⟨k + 1, by omega, by omega, by go_num, HS2, below_drewN HBW.out _⟩
          case measure => simp [intOf]; omega
        · have HS2 : Hid (cmpL A B = 1) := by
            have e : cmpS s t = 1 := by rw [HC.out, if_neg (by rw [h1]; decide), if_neg h2]
            rw [HS.out, e]; rfl
          have h3 : (s.toList == t.toList) = false := by simpa using h2
          clear HS HC h2
          go_wp2_with fail
          go_quiet (fail)
          have HB1 : Hid (Below w.heap.size w (wr.drewN nq)) := below_drewN HBW.out nq
          go_wp2_with fail
          go_quiet (fail)
          have HB2 : Hid (Below w.heap.size w _) := below_drewN HB1.out nq
          clear c1 c2 h1 h3
          go_wp2_with fail
          go_ret
          exact ⟨by rw [HS2.out]; rfl, HB2.out⟩
    · have HS : Hid (cmpL A B = if A.length < B.length then -1 else if B.length < A.length then 1 else 0) := by
        rw [HK.out]
        unfold Hid
        by_cases h1 : k < A.length
        · rw [List.drop_eq_nil_of_le (show B.length ≤ k by omega), cmpL_nil_right (by simp; omega), if_neg (by omega), if_pos (by omega)]
        · rw [List.drop_eq_nil_of_le (show A.length ≤ k by omega), cmpL_nil_left, List.length_drop]
          by_cases h2 : A.length < B.length
          · rw [if_neg (by omega), if_pos h2]
          · rw [if_pos (by omega), if_neg h2, if_neg (by omega)]
      by_cases h1 : (k : Int) < (A.length : Int)
      · have h2 : ¬ (k : Int) < (B.length : Int) := by omega
        have h3 : ¬ (A.length : Int) < (B.length : Int) := by omega
        have h4 : (B.length : Int) < (A.length : Int) := by omega
        have HS2 : Hid (cmpL A B = 1) := by rw [HS.out, if_neg (by omega), if_pos (by omega)]; rfl
        clear HS hlt HK
        go_wp2_with fail
        go_ret
        exact ⟨by rw [HS2.out]; rfl, HBW.out⟩
      · by_cases h3 : (A.length : Int) < (B.length : Int)
        · have HS2 : Hid (cmpL A B = -1) := by rw [HS.out, if_pos (by omega)]; rfl
          clear HS hlt HK
          go_wp2_with fail
          go_ret
          exact ⟨by rw [HS2.out]; rfl, HBW.out⟩
        · have h4 : ¬ (B.length : Int) < (A.length : Int) := by omega
          have HS2 : Hid (cmpL A B = 0) := by rw [HS.out, if_neg (by omega), if_neg (by omega)]; rfl
          clear HS hlt HK
          go_wp2_with fail
          go_ret
          exact ⟨by rw [HS2.out]; rfl, HBW.out⟩
def sameK (a b : Ky) : Bool := decide (cmpL a.L b.L = 0 ∧ a.f = b.f ∧ a.g = b.g)
end Go.Proofs.YtegcomopcoapjaaGreatDoor

/- Keys' bytes stand as the keys do: no program in sight. -/
namespace Go.Proofs.YtegcomopcoapjaaGreatDoor

theorem less_irr (l : List UInt8) : Op.bytesLess l l = false := by
  induction l with
  | nil => rfl
  | cons x l ih => rw [less_same]; exact ih
theorem less_asym (l : List UInt8) : ∀ m, Op.bytesLess l m = true → Op.bytesLess m l = false := by
  induction l with
  | nil => intro m _; cases m <;> rfl
  | cons x l ih =>
    intro m h
    cases m with
    | nil => simp [Op.bytesLess] at h
    | cons y m =>
      rcases Nat.lt_trichotomy x.toNat y.toNat with h1 | h1 | h1
      · exact less_gt _ _ h1
      · obtain rfl := u8_eq h1
        rw [less_same] at h ⊢; exact ih m h
      · rw [less_gt _ _ h1] at h; simp at h
theorem less_tot (l : List UInt8) : ∀ m, l ≠ m → Op.bytesLess l m = false → Op.bytesLess m l = true := by
  induction l with
  | nil => intro m h1 h2; cases m with
    | nil => exact absurd rfl h1
    | cons y m => simp [Op.bytesLess] at h2
  | cons x l ih =>
    intro m h1 h2
    cases m with
    | nil => rfl
    | cons y m =>
      rcases Nat.lt_trichotomy x.toNat y.toNat with h3 | h3 | h3
      · rw [less_lt _ _ h3] at h2; simp at h2
      · obtain rfl := u8_eq h3
        rw [less_same] at h2 ⊢; exact ih m (fun e => h1 (by rw [e])) h2
      · exact less_lt _ _ h3
theorem ba_eq {s t : ByteArray} : s.data.toList = t.data.toList ↔ s = t := by
  constructor
  · intro h
    cases s; cases t
    simp at h
    rw [h]
  · intro h; rw [h]
theorem cmpS_zero {s t : ByteArray} : cmpS s t = 0 ↔ s = t := by
  unfold cmpS
  rw [ByteArray.toList_eq, ByteArray.toList_eq]
  constructor
  · intro h
    by_cases h1 : Op.bytesLess s.data.toList t.data.toList = true
    · rw [if_pos h1] at h; simp at h
    · rw [if_neg h1] at h
      by_cases h2 : s.data.toList = t.data.toList
      · exact ba_eq.1 h2
      · rw [if_neg h2] at h; simp at h
  · rintro rfl
    rw [if_neg (by rw [less_irr]; decide), if_pos rfl]
theorem cmpS_neg {s t : ByteArray} : cmpS s t < 0 ↔ Op.bytesLess s.data.toList t.data.toList = true := by
  unfold cmpS
  rw [ByteArray.toList_eq, ByteArray.toList_eq]
  by_cases h1 : Op.bytesLess s.data.toList t.data.toList = true
  · rw [if_pos h1]; simp [h1]
  · rw [if_neg h1]; split <;> simp [h1]
theorem cmpL_zero (L : List ByteArray) : ∀ M, cmpL L M = 0 ↔ L = M := by
  induction L with
  | nil => intro M; cases M <;> simp [cmpL]
  | cons x L ih =>
    intro M
    cases M with
    | nil => simp [cmpL]
    | cons y M =>
      rw [cmpL]
      by_cases h : cmpS x y = 0
      · rw [if_neg (by simpa using h), ih]
        have := cmpS_zero.1 h
        subst this; simp
      · rw [if_pos h]
        constructor
        · intro h'; exact absurd h' h
        · intro h'; simp at h'; exact absurd (cmpS_zero.2 h'.1) h
theorem jb_less (L : List ByteArray) : ∀ M A B, Op.bytesLess (jb L ++ 0 :: A) (jb M ++ 0 :: B) = if cmpL L M = 0 then Op.bytesLess A B else decide (cmpL L M < 0) := by
  induction L with
  | nil =>
    intro M A B
    cases M with
    | nil => show Op.bytesLess (0 :: A) (0 :: B) = _; rw [less_same]; rfl
    | cons y M => rw [jb_cons]; show Op.bytesLess (0 :: A) (1 :: _) = _; rw [less_lt _ _ (by decide)]; rfl
  | cons x L ih =>
    intro M A B
    cases M with
    | nil => rw [jb_cons]; show Op.bytesLess (1 :: _) (0 :: B) = _; rw [less_gt _ _ (by decide)]; rfl
    | cons y M =>
      rw [jb_cons, jb_cons, List.cons_append, List.cons_append, less_same]
      unfold tx
      simp only [List.append_assoc, List.cons_append, List.nil_append]
      rw [tx_less, ih, cmpL]
      by_cases h : x = y
      · subst h
        rw [if_pos rfl, cmpS_zero.2 rfl]; simp
      · have h0 : ¬ cmpS x y = 0 := fun e => h (cmpS_zero.1 e)
        rw [if_neg (fun e => h (ba_eq.1 e)), if_pos h0, if_neg h0]
        rw [Bool.eq_iff_iff, decide_eq_true_iff, cmpS_neg]
theorem jb_inj (L : List ByteArray) : ∀ M A B, jb L ++ 0 :: A = jb M ++ 0 :: B → L = M ∧ A = B := by
  induction L with
  | nil =>
    intro M A B h
    cases M with
    | nil => have h' : (0 : UInt8) :: A = 0 :: B := h; simp at h'; exact ⟨rfl, h'⟩
    | cons y M => rw [jb_cons] at h; have h' : (0 : UInt8) :: A = 1 :: _ := h; simp at h'
  | cons x L ih =>
    intro M A B h
    cases M with
    | nil => rw [jb_cons] at h; have h' : (1 : UInt8) :: _ = 0 :: B := h; simp at h'
    | cons y M =>
      rw [jb_cons, jb_cons, List.cons_append, List.cons_append] at h
      simp only [List.cons.injEq, true_and] at h
      unfold tx at h
      simp only [List.append_assoc, List.cons_append, List.nil_append] at h
      obtain ⟨h1, h2⟩ := tx_inj _ _ _ _ h
      obtain ⟨h3, h4⟩ := ih _ _ _ h2
      exact ⟨by rw [ba_eq.1 h1, h3], h4⟩
theorem bv_snoc (l : List UInt8) (x : UInt8) : bv (l ++ [x]) = bv l * 256 + x.toNat := by
  induction l with
  | nil => simp [bv]
  | cons y l ih =>
    simp only [List.cons_append, bv, ih, List.length_append, List.length_cons, List.length_nil, Nat.pow_succ, Nat.add_mul]
    rw [← Nat.mul_assoc, Nat.add_assoc]
theorem tail_less (f g f' g' : Int) (h : 0 ≤ f ∧ f ≤ 1099511627776 ∧ 0 ≤ g ∧ g ≤ 3) (h' : 0 ≤ f' ∧ f' ≤ 1099511627776 ∧ 0 ≤ g' ∧ g' ≤ 3) :
    Op.bytesLess (nb f ++ [UInt8.ofNat g.toNat]) (nb f' ++ [UInt8.ofNat g'.toNat]) = decide (f < f' ∨ f = f' ∧ g < g') := by
  rw [less_bv _ _ (by simp [nb_len]), bv_snoc, bv_snoc]
  have e1 := bv_nb f (by omega) (by omega)
  have e2 := bv_nb f' (by omega) (by omega)
  have e3 : (UInt8.ofNat g.toNat).toNat = g.toNat := by rw [UInt8.toNat_ofNat']; omega
  have e4 : (UInt8.ofNat g'.toNat).toNat = g'.toNat := by rw [UInt8.toNat_ofNat']; omega
  rw [e3, e4]
  apply decide_eq_decide.2
  omega
theorem right_facts {L : List ByteArray} {f g : Int} (h : rightB L f g = true) : mayB L = true ∧ 0 ≤ f ∧ f ≤ 1099511627776 ∧ 0 ≤ g ∧ g ≤ 3 := by
  unfold rightB at h
  obtain ⟨h1, h2⟩ := Bool.and_eq_true_iff.1 h
  exact ⟨h1, of_decide_eq_true h2⟩
theorem kb_form (L : List ByteArray) (f g : Int) : kb L f g = jb L ++ 0 :: (nb f ++ [UInt8.ofNat g.toNat]) := by
  unfold kb jn; simp
theorem or3_neg (c f g f' g' : Int) : (or3 c (cmpI f f') (cmpI g g') < 0) ↔ (c < 0 ∨ c = 0 ∧ (f < f' ∨ f = f' ∧ g < g')) := by
  unfold or3 cmpI
  repeat' split
  all_goals omega
/-- IN ORDER. -/
theorem kb_less (a b : Ky) (ha : rightB a.L a.f a.g = true) (hb : rightB b.L b.f b.g = true) : Op.bytesLess (kb a.L a.f a.g) (kb b.L b.f b.g) = lessK a b := by
  rw [kb_form, kb_form, jb_less, tail_less _ _ _ _ (right_facts ha).2 (right_facts hb).2]
  unfold lessK
  by_cases h : cmpL a.L b.L = 0
  · rw [if_pos h]
    apply decide_eq_decide.2
    rw [or3_neg]; omega
  · rw [if_neg h]
    apply decide_eq_decide.2
    rw [or3_neg]; omega
theorem kb_len (L : List ByteArray) (f g : Int) : (kb L f g).length = (jn L).length + 9 := by unfold kb; simp [nb_len]
/-- No one's are another one's front. -/
theorem kb_front (a b : Ky) (h : (kb b.L b.f b.g).take (kb a.L a.f a.g).length = kb a.L a.f a.g) : (kb b.L b.f b.g).length ≤ (kb a.L a.f a.g).length := by
  have h2 : kb a.L a.f a.g ++ (kb b.L b.f b.g).drop (kb a.L a.f a.g).length = kb b.L b.f b.g := by
    conv => lhs; lhs; rw [← h]
    rw [List.take_append_drop]
  generalize hC : (kb b.L b.f b.g).drop (kb a.L a.f a.g).length = C at h2
  rw [kb_form, kb_form, List.append_assoc, List.cons_append] at h2
  obtain ⟨h3, h4⟩ := jb_inj _ _ _ _ h2
  have := congrArg List.length h4
  simp [nb_len] at this
  have h5 := congrArg List.length hC
  rw [List.length_drop] at h5
  omega
end Go.Proofs.YtegcomopcoapjaaGreatDoor
