/- A file system: how many bytes all files have. -/
import Derived.Test.YtijablmejjepaaaSF6
namespace Go.Proofs.Ytijablmejjepaaa
open Go.RowKit Go.Maps

theorem keyS_inv {key : Value} {kl : Lit} (h : keyOf Try.prog 9 key = some kl) : ∃ s : List UInt8, key = .string ⟨s.toArray⟩ ∧ kl = .string s ∧ s.length ≤ maxLen := by
  rw [keyOf_string Try.underlying9] at h
  cases key <;> simp [mapKey, Try.underlying9] at h
  obtain ⟨h1, rfl⟩ := h
  rename_i b
  obtain ⟨d⟩ := b
  exact ⟨d.toList, by rw [Array.toArray_toList], rfl, by simpa [ByteArray.size] using h1⟩
theorem SfMap.apart {w : World} {m : Nat} {bl : Nat → Nat} {l : List (List UInt8 × Nat)} (h : SfMap w m bl l) : l.Pairwise (fun p q => bytesBefore p.1 q.1 = true) := by
  obtain ⟨es, he, hp, _⟩ := World.ownsMap.canon h keyedS
  unfold sfD at he
  cases he
  exact (List.pairwise_map.1 hp)
theorem bb_irrefl (a : List UInt8) : bytesBefore a a = false := by
  have := WideShapes.before_irrefl (Lit.string a)
  exact this
theorem sorted_ne {l : List (List UInt8 × Nat)} (h : l.Pairwise (fun p q => bytesBefore p.1 q.1 = true)) : l.Pairwise (fun p q => p.1 ≠ q.1) := h.imp fun {a b} hab e => by rw [e, bb_irrefl] at hab; cases hab
theorem look_mem {s : List UInt8} {i : Nat} : ∀ {l : List (List UInt8 × Nat)}, sfLook s l = some i → (s, i) ∈ l
  | y :: r, h => by
    unfold sfLook at h
    rw [List.find?_cons] at h
    by_cases e : y.1 == s
    · rw [e] at h
      simp at h e
      subst h e
      simp
    · rw [Bool.not_eq_true] at e
      rw [e] at h
      exact List.mem_cons_of_mem _ (look_mem h)
theorem mem_look {l : List (List UInt8 × Nat)} (hp : l.Pairwise (fun p q => p.1 ≠ q.1)) {p : List UInt8 × Nat} (h : p ∈ l) : sfLook p.1 l = some p.2 := by
  induction l with
  | nil => cases h
  | cons y r ih =>
    obtain ⟨h1, h2⟩ := List.pairwise_cons.1 hp
    unfold sfLook
    rw [List.find?_cons]
    rcases List.mem_cons.1 h with rfl | hm
    · simp
    · have : (y.1 == p.1) = false := by simpa using h1 p hm
      rw [this]
      exact ih h2 hm
/-- The step of a range over a directory. -/
theorem wpList_next_sf {w : World} {ops : Array Oper} {rest : List Oper} {o : Oper} {a : Act} {Q : Exit → Act → World → Prop} (hg : o.guard = none) (it : Operand) (hop : o.op = Op.next it false) (m r n : Nat) (bl : Nat → Nat) (l : List (List UInt8 × Nat)) (left : Lit → Bool) (cnt : Nat)
    (hit : a.eval it = .pointer (some ⟨r, 0, none⟩)) (h : w.ranges Try.prog 9 ptrE m r n (sfD bl l) left cnt)
    (hDone : (∀ kl, left kl = false) → wpList Try.prog ops Q rest (a.put o.dst (.tuple #[.bool false])) w)
    (hMore : ∀ (s : List UInt8) (i : Nat) (w' : World) (cnt' : Nat), s.length ≤ maxLen → sfLook s l = some i → left (.string s) = true → w'.ranges Try.prog 9 ptrE m r n (sfD bl l) (fun z => left z && !z.sameKey (.string s)) cnt' → cnt' < cnt →
      w.grownBy w' (some r) → w'.heap.size = w.heap.size → (Instr.entry (.pointer (some ⟨r, 0, none⟩))).run Try.prog w' = .ok (.tuple #[.string ⟨s.toArray⟩, .pointer (some ⟨bl i, 0, none⟩)]) w' → wpList Try.prog ops Q rest (a.put o.dst (.tuple #[.bool true, .string ⟨s.toArray⟩, .pointer (some ⟨bl i, 0, none⟩)])) w') :
    wpList Try.prog ops Q (o :: rest) a w := by
  refine wpList_plain hg fun K' hK' => ?_
  unfold Oper.wp
  rcases h.next keyedS o.type with ⟨h0, hl, hrun⟩ | ⟨key, v, kl, y, w', cnt', hkey, hlk, hv, hat, hrun, hrg, hlt, hgr, hsz, hen⟩
  · simp [execOp, hop, hit, hrun, Result.andThen]
    exact hK' _ _ (hDone hl)
  · obtain ⟨s, rfl, rfl, hs⟩ := keyS_inv hkey
    have h1 := hat .nil
    have h2 := hat (.lit (.bool true))
    rw [sfD_at] at h1 h2
    cases hk : sfLook s l with
    | none => rw [hk] at h1 h2; rw [← h1] at h2; cases h2
    | some i =>
      rw [hk] at h1
      have hpv : v = .pointer (some ⟨bl i, 0, none⟩) := by
        refine ptrE_pv (bl := bl) (o := some i) (ps := y.2) ?_
        rw [hv]
        exact congrArg some (Prod.ext h1.symm rfl)
      subst hpv
      simp [execOp, hop, hit, hrun, Result.andThen]
      exact hK' _ _ (hMore s i w' cnt' hs hk hlk hrg hlt hgr hsz hen)
def sumL (F : Nat → Nat) (left : Lit → Bool) (l : List (List UInt8 × Nat)) : Nat := (l.map fun p => if left (.string p.1) = true then 0 else F p.2).sum
theorem sumL_congr {F : Nat → Nat} {left left' : Lit → Bool} {l : List (List UInt8 × Nat)} (h : ∀ p ∈ l, left (.string p.1) = left' (.string p.1)) : sumL F left l = sumL F left' l := by
  unfold sumL
  rw [List.map_congr_left fun p hp => by rw [h p hp]]
theorem sumL_step {F : Nat → Nat} {left : Lit → Bool} {s : List UInt8} {i : Nat} : ∀ {l : List (List UInt8 × Nat)}, l.Pairwise (fun p q => p.1 ≠ q.1) → sfLook s l = some i → left (.string s) = true → sumL F (fun z => left z && !z.sameKey (.string s)) l = sumL F left l + F i
  | y :: r, hp, hl, hleft => by
    obtain ⟨h1, h2⟩ := List.pairwise_cons.1 hp
    have hsk : ∀ a : List UInt8, (Lit.string a).sameKey (.string s) = (a == s) := fun _ => rfl
    unfold sfLook at hl
    rw [List.find?_cons] at hl
    by_cases e : y.1 == s
    · rw [e] at hl
      simp at hl e
      subst hl e
      have hr : sumL F (fun z => left z && !z.sameKey (.string y.1)) r = sumL F left r := sumL_congr fun p hp' => by
        have : (p.1 == y.1) = false := by simpa using Ne.symm (h1 p hp')
        show (left _ && !(p.1 == y.1)) = _
        rw [this]; simp
      have c1 : sumL F (fun z => left z && !z.sameKey (.string y.1)) (y :: r) = F y.2 + sumL F (fun z => left z && !z.sameKey (.string y.1)) r := by
        simp [sumL, hsk]
      have c2 : sumL F left (y :: r) = 0 + sumL F left r := by simp [sumL, hleft]
      rw [c1, c2, hr]; omega
    · rw [Bool.not_eq_true] at e
      rw [e] at hl
      have ih := sumL_step (F := F) h2 hl hleft
      have c1 : sumL F (fun z => left z && !z.sameKey (.string s)) (y :: r) = (if left (.string y.1) = true then 0 else F y.2) + sumL F (fun z => left z && !z.sameKey (.string s)) r := by
        simp only [sumL, List.map_cons, List.sum_cons, hsk, e, Bool.not_false, Bool.and_true]
      have c2 : sumL F left (y :: r) = (if left (.string y.1) = true then 0 else F y.2) + sumL F left r := by simp [sumL]
      rw [c1, c2, ih]; omega
theorem sumL_le {F : Nat → Nat} {B : Nat} (left : Lit → Bool) : ∀ {l : List (List UInt8 × Nat)}, (∀ p ∈ l, F p.2 ≤ B) → sumL F left l ≤ l.length * B
  | [], _ => by simp [sumL]
  | y :: r, h => by
    have ih := sumL_le left (l := r) fun p hp => h p (by simp [hp])
    have c2 : sumL F left (y :: r) = (if left (.string y.1) = true then 0 else F y.2) + sumL F left r := by simp [sumL]
    have h0 := h y (by simp)
    rw [c2, List.length_cons, Nat.succ_mul]
    split <;> omega
theorem sumL_start {F : Nat → Nat} (bl : Nat → Nat) {l : List (List UInt8 × Nat)} (hp : l.Pairwise (fun p q => p.1 ≠ q.1)) : sumL F (Maps.has (sfD bl l)) l = 0 := by
  have : sumL F (Maps.has (sfD bl l)) l = sumL F (fun _ => true) l := sumL_congr fun p hp' => by rw [sfD_has, mem_look hp hp']; rfl
  rw [this]
  unfold sumL
  clear this hp
  induction l with
  | nil => rfl
  | cons y r ih => simpa using ih
theorem sumL_end {F : Nat → Nat} {left : Lit → Bool} (h : ∀ kl, left kl = false) (l : List (List UInt8 × Nat)) : sumL F left l = (l.map fun p => F p.2).sum := by
  unfold sumL
  rw [List.map_congr_left fun p _ => by rw [h, if_neg (by simp)]]
theorem SfWf.fl32 {s : SfS} (h : SfWf s) (i : Nat) : (s.fl i).1.length ≤ 1048576 ∧ (s.fl i).2 ≤ (s.fl i).1.length := by
  unfold SfS.fl
  rw [List.getD_eq_getElem?_getD]
  cases hf : s.fls[i]? with
  | none => simp
  | some f => have := h.sy i f hf; exact ⟨this.2, this.1⟩
theorem FsAt.file {w : World} {O : Nat → Prop} {g m1 m2 : Nat} {pv : Value} {bl : Nat → Nat} {vs : Nat → Value} {s : SfS} (h : FsAt w O g m1 m2 pv bl vs s) {i : Nat} (hi : i < s.fls.length) :
    w.heap[bl i]? = some (.cells #[vs i, .int .i64 ((s.fl i).2 : Int)] 69) ∧ BOwn w (vs i) (s.fl i).1 := by
  have e : s.fls[i]? = some (s.fl i) := by unfold SfS.fl; rw [List.getD_eq_getElem?_getD, List.getElem?_eq_getElem hi]; rfl
  exact ⟨h.fl.hf i _ e, h.fl.hb i _ e⟩
theorem used_any {w : World} {O : Nat → Prop} {g m1 m2 : Nat} {pv : Value} {bl : Nat → Nat} {vs : Nat → Value} {s : SfS} (h : FsAt w O g m1 m2 pv bl vs s) (hw : SfWf s) :
    Calls Try.prog 30 #[.pointer (some ⟨g, 0, none⟩)] w fun e w' => e = .returned (.int .i64 (sfUsed s : Int)) ∧ Below w.heap.size w w' := by
  have c0 := h.c0
  have c1 := h.c1
  have hm := h.h1
  have h1 := hw.r1
  have HAP : Hid (s.dir.Pairwise (fun p q => p.1 ≠ q.1)) := sorted_ne h.h1.apart
  have HF : Hid (FsAt w O g m1 m2 pv bl vs s) := h
  have HW : Hid (SfWf s) := hw
  have HU : Hid (∀ left, sumL (fun i => (s.fl i).1.length) left s.dir ≤ 268435456) := fun left => by
    have := sumL_le (F := fun i => (s.fl i).1.length) (B := 1048576) left (l := s.dir) fun p _ => (hw.fl32 p.2).1
    have := hw.dl
    omega
  clear h hw
  go_enter Try.func30, Try.ntmps30
  go_wp2_with (first
    | (go_at_call 33; refine (made_cell _ c0 h1).mono ?_; rintro e w' ⟨rfl, hw'⟩; subst w')
    | (at_range; refine wpList_range_own _ rfl _ 40 rfl 9 66 keyedS Try.underlying40 ptrE m1 s.dir.length (sfD bl s.dir) rfl hm ?_; intro w0 hrg0 hg0 hs0))
  go_frame
  have HB0 : Hid (Below w.heap.size w w0) := (Below.refl _ _).grown hg0 (Nat.le_refl _) (fun k hk => by cases hk)
  have HR0 : Hid (w0.ranges Try.prog 9 ptrE m1 w.heap.size s.dir.length (sfD bl s.dir) (Maps.has (sfD bl s.dir)) (Maps.size (sfD bl s.dir))) := hrg0
  clear hrg0 hg0 hs0 c0 c1 hm
  go_loopw [3] (fun v wr => ∃ left cnt, Hid (wr.ranges Try.prog 9 ptrE m1 w.heap.size s.dir.length (sfD bl s.dir) left cnt) ∧ v = .int .i64 ((sumL (fun i => (s.fl i).1.length) left s.dir : Nat) : Int) ∧ Hid (Below w.heap.size w wr)) (fun _ wr => wr.rangeLeft m1 w.heap.size)
  case atStart => exact ⟨_, _, HR0, by rw [sumL_start bl HAP.out]; rfl, HB0⟩
  case round =>
    obtain ⟨left, cnt, HR, rfl, HB⟩ := hrel
    have hu := HU.out left
    go_wp2_with (at_next; refine wpList_next_sf rfl _ rfl m1 w.heap.size s.dir.length bl s.dir left cnt rfl HR.out ?_ ?_)
    · intro hl0
      have HE : Hid (((sumL (fun i => (s.fl i).1.length) left s.dir : Nat) : Int) = (sfUsed s : Int)) := by
        show ((_ : Nat) : Int) = _
        rw [sumL_end hl0]; rfl
      clear hl0 HR
      go_wp2_with fail
      go_ret
      exact ⟨by rw [← HE.out]; rfl, HB.out⟩
    · intro nm i w1 cnt1 hnl hlook hleft hrg1 hlt hg1 hs1 hen
      have hi : i < s.fls.length := (HW.out.di _ (look_mem hlook)).1
      have HB1 : Hid (Below w.heap.size w w1) := HB.out.grown hg1 (HB.out.size) (fun k hk => by cases hk; exact Nat.le_refl _)
      obtain ⟨hf, hb⟩ := HF.out.file hi
      obtain ⟨va, vc, hv, -⟩ := hb.form
      have x0 : w1.cell? ⟨bl i, 0, none⟩ = some (.slice va (s.fl i).1.length vc) := by
        have h0 := HB1.out.block _ (Array.getElem?_eq_some_iff.1 hf).1
        rw [← hv]
        exact cell_of (h0.trans hf) 0 _ rfl
      have HST : Hid (sumL (fun i => (s.fl i).1.length) (fun z => left z && !z.sameKey (.string nm)) s.dir = sumL (fun i => (s.fl i).1.length) left s.dir + (s.fl i).1.length) := sumL_step HAP.out hlook hleft
      have hu1 := HU.out (fun z => left z && !z.sameKey (.string nm))
      rw [HST.out] at hu1
      have HR1 : Hid (w1.ranges Try.prog 9 ptrE m1 w.heap.size s.dir.length (sfD bl s.dir) (fun z => left z && !z.sameKey (.string nm)) cnt1) := hrg1
      have HLT : Hid (cnt1 < cnt) := hlt
      clear hrg1 hlt hg1 hs1 hlook hleft hf hb hv hnl
      generalize hq : sumL (fun i => (s.fl i).1.length) left s.dir = U at *
      have HQ : Hid (sumL (fun i => (s.fl i).1.length) left s.dir = U) := hq
      clear hq
      generalize hq : (s.fl i).1.length = L at *
      clear hq
      go_wp2_with fail
      go_roundw
      case rel => exact ⟨_, _, HR1, by rw [HST.out]; congr 1, HB1⟩
      case measure => rw [HR1.out.left_eq, HR.out.left_eq]; exact HLT.out
end Go.Proofs.Ytijablmejjepaaa
