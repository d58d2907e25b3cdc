/- SF7 CP0 SF8 SF9 MFw, joined. -/
import Derived.Test.YtilbffgpniomcaaGreatDoorQQ1
import Derived.Test.YtilbffgpniomcaaGreatDoorQQ4
import Derived.Test.YtilbffgpniomcaaGreatDoorQQ5
import Derived.Laws.CopyOwn
import Derived.Laws.OwnMore
/- A file system: how many bytes all files have. -/
namespace Go.Proofs.YtilbffgpniomcaaGreatDoor
open Go.RowKit Go.Maps

theorem keyS_inv {key : Value} {kl : Lit} (h : keyOf Tryz.prog 9 key = some kl) : ∃ s : List UInt8, key = .string ⟨s.toArray⟩ ∧ kl = .string s ∧ s.length ≤ maxLen := by
  rw [keyOf_string Tryz.underlying9] at h
  cases key <;> simp [mapKey, Tryz.underlying9] at h
  obtain ⟨h1, rfl⟩ := h
  rename_i b
  obtain ⟨d⟩ := b
  exact ⟨d.toList, by rw [Array.toArray_toList], rfl, by simpa [ByteArray.size] using h1⟩
theorem SfMap.apart {w : World} {m : Nat} {bl : Nat → Nat} {l : List (List UInt8 × Nat)} (h : SfMap w m bl l) : l.Pairwise (fun p q => bytesBefore p.1 q.1 = true) := by
  obtain ⟨es, he, hp, _⟩ := World.ownsMap.canon h keyedS
  unfold sfD at he
  cases he
  exact (List.pairwise_map.1 hp)
theorem bb_irrefl (a : List UInt8) : bytesBefore a a = false := by
  have := WideShapes.before_irrefl (Lit.string a)
  exact this
theorem sorted_ne {l : List (List UInt8 × Nat)} (h : l.Pairwise (fun p q => bytesBefore p.1 q.1 = true)) : l.Pairwise (fun p q => p.1 ≠ q.1) := h.imp fun {a b} hab e => by rw [e, bb_irrefl] at hab; cases hab
theorem look_mem {s : List UInt8} {i : Nat} : ∀ {l : List (List UInt8 × Nat)}, sfLook s l = some i → (s, i) ∈ l
  | y :: r, h => by
    unfold sfLook at h
    rw [List.find?_cons] at h
    by_cases e : y.1 == s
    · rw [e] at h
      simp at h e
      subst h e
      simp
    · rw [Bool.not_eq_true] at e
      rw [e] at h
      exact List.mem_cons_of_mem _ (look_mem h)
theorem mem_look {l : List (List UInt8 × Nat)} (hp : l.Pairwise (fun p q => p.1 ≠ q.1)) {p : List UInt8 × Nat} (h : p ∈ l) : sfLook p.1 l = some p.2 := by
  induction l with
  | nil => cases h
  | cons y r ih =>
    obtain ⟨h1, h2⟩ := List.pairwise_cons.1 hp
    unfold sfLook
    rw [List.find?_cons]
    rcases List.mem_cons.1 h with rfl | hm
    · simp
    · have : (y.1 == p.1) = false := by simpa using h1 p hm
      rw [this]
      exact ih h2 hm
/-- The step of a range over a directory. -/
theorem wpList_next_sf {w : World} {ops : Array Oper} {rest : List Oper} {o : Oper} {a : Act} {Q : Exit → Act → World → Prop} (hg : o.guard = none) (it : Operand) (hop : o.op = Op.next it false) (m r n : Nat) (bl : Nat → Nat) (l : List (List UInt8 × Nat)) (left : Lit → Bool) (cnt : Nat)
    (hit : a.eval it = .pointer (some ⟨r, 0, none⟩)) (h : w.ranges Tryz.prog 9 ptrE m r n (sfD bl l) left cnt)
    (hDone : (∀ kl, left kl = false) → wpList Tryz.prog ops Q rest (a.put o.dst (.tuple #[.bool false])) w)
    (hMore : ∀ (s : List UInt8) (i : Nat) (w' : World) (cnt' : Nat), s.length ≤ maxLen → sfLook s l = some i → left (.string s) = true → w'.ranges Tryz.prog 9 ptrE m r n (sfD bl l) (fun z => left z && !z.sameKey (.string s)) cnt' → cnt' < cnt →
      w.grownBy w' (some r) → w'.heap.size = w.heap.size → (Instr.entry (.pointer (some ⟨r, 0, none⟩))).run Tryz.prog w' = .ok (.tuple #[.string ⟨s.toArray⟩, .pointer (some ⟨bl i, 0, none⟩)]) w' → wpList Tryz.prog ops Q rest (a.put o.dst (.tuple #[.bool true, .string ⟨s.toArray⟩, .pointer (some ⟨bl i, 0, none⟩)])) w') :
    wpList Tryz.prog ops Q (o :: rest) a w := by
  refine wpList_plain hg fun K' hK' => ?_
  unfold Oper.wp
  rcases h.next keyedS o.type with ⟨h0, hl, hrun⟩ | ⟨key, v, kl, y, w', cnt', hkey, hlk, hv, hat, hrun, hrg, hlt, hgr, hsz, hen⟩
  · simp [execOp, hop, hit, hrun, Result.andThen]
    exact hK' _ _ (hDone hl)
  · obtain ⟨s, rfl, rfl, hs⟩ := keyS_inv hkey
    have h1 := hat .nil
    have h2 := hat (.lit (.bool true))
    rw [sfD_at] at h1 h2
    cases hk : sfLook s l with
    | none => rw [hk] at h1 h2; rw [← h1] at h2; cases h2
    | some i =>
      rw [hk] at h1
      have hpv : v = .pointer (some ⟨bl i, 0, none⟩) := by
        refine ptrE_pv (bl := bl) (o := some i) (ps := y.2) ?_
        rw [hv]
        exact congrArg some (Prod.ext h1.symm rfl)
      subst hpv
      simp [execOp, hop, hit, hrun, Result.andThen]
      exact hK' _ _ (hMore s i w' cnt' hs hk hlk hrg hlt hgr hsz hen)
def sumL (F : Nat → Nat) (left : Lit → Bool) (l : List (List UInt8 × Nat)) : Nat := (l.map fun p => if left (.string p.1) = true then 0 else F p.2).sum
theorem sumL_congr {F : Nat → Nat} {left left' : Lit → Bool} {l : List (List UInt8 × Nat)} (h : ∀ p ∈ l, left (.string p.1) = left' (.string p.1)) : sumL F left l = sumL F left' l := by
  unfold sumL
  rw [List.map_congr_left fun p hp => by rw [h p hp]]
theorem sumL_step {F : Nat → Nat} {left : Lit → Bool} {s : List UInt8} {i : Nat} : ∀ {l : List (List UInt8 × Nat)}, l.Pairwise (fun p q => p.1 ≠ q.1) → sfLook s l = some i → left (.string s) = true → sumL F (fun z => left z && !z.sameKey (.string s)) l = sumL F left l + F i
  | y :: r, hp, hl, hleft => by
    obtain ⟨h1, h2⟩ := List.pairwise_cons.1 hp
    have hsk : ∀ a : List UInt8, (Lit.string a).sameKey (.string s) = (a == s) := fun _ => rfl
    unfold sfLook at hl
    rw [List.find?_cons] at hl
    by_cases e : y.1 == s
    · rw [e] at hl
      simp at hl e
      subst hl e
      have hr : sumL F (fun z => left z && !z.sameKey (.string y.1)) r = sumL F left r := sumL_congr fun p hp' => by
        have : (p.1 == y.1) = false := by simpa using Ne.symm (h1 p hp')
        show (left _ && !(p.1 == y.1)) = _
        rw [this]; simp
      have c1 : sumL F (fun z => left z && !z.sameKey (.string y.1)) (y :: r) = F y.2 + sumL F (fun z => left z && !z.sameKey (.string y.1)) r := by
        simp [sumL, hsk]
      have c2 : sumL F left (y :: r) = 0 + sumL F left r := by simp [sumL, hleft]
      rw [c1, c2, hr]; omega
    · rw [Bool.not_eq_true] at e
      rw [e] at hl
      have ih := sumL_step (F := F) h2 hl hleft
      have c1 : sumL F (fun z => left z && !z.sameKey (.string s)) (y :: r) = (if left (.string y.1) = true then 0 else F y.2) + sumL F (fun z => left z && !z.sameKey (.string s)) r := by
        simp only [sumL, List.map_cons, List.sum_cons, hsk, e, Bool.not_false, Bool.and_true]
      have c2 : sumL F left (y :: r) = (if left (.string y.1) = true then 0 else F y.2) + sumL F left r := by simp [sumL]
      rw [c1, c2, ih]; omega
theorem sumL_le {F : Nat → Nat} {B : Nat} (left : Lit → Bool) : ∀ {l : List (List UInt8 × Nat)}, (∀ p ∈ l, F p.2 ≤ B) → sumL F left l ≤ l.length * B
  | [], _ => by simp [sumL]
  | y :: r, h => by
    have ih := sumL_le left (l := r) fun p hp => h p (by simp [hp])
    have c2 : sumL F left (y :: r) = (if left (.string y.1) = true then 0 else F y.2) + sumL F left r := by simp [sumL]
    have h0 := h y (by simp)
    rw [c2, List.length_cons, Nat.succ_mul]
    split <;> omega
theorem sumL_start {F : Nat → Nat} (bl : Nat → Nat) {l : List (List UInt8 × Nat)} (hp : l.Pairwise (fun p q => p.1 ≠ q.1)) : sumL F (Maps.has (sfD bl l)) l = 0 := by
  have : sumL F (Maps.has (sfD bl l)) l = sumL F (fun _ => true) l := sumL_congr fun p hp' => by rw [sfD_has, mem_look hp hp']; rfl
  rw [this]
  unfold sumL
  clear this hp
  induction l with
  | nil => rfl
  | cons y r ih => simpa using ih
theorem sumL_end {F : Nat → Nat} {left : Lit → Bool} (h : ∀ kl, left kl = false) (l : List (List UInt8 × Nat)) : sumL F left l = (l.map fun p => F p.2).sum := by
  unfold sumL
  rw [List.map_congr_left fun p _ => by rw [h, if_neg (by simp)]]
theorem SfWf.fl32 {s : SfS} (h : SfWf s) (i : Nat) : (s.fl i).1.length ≤ 1048576 ∧ (s.fl i).2 ≤ (s.fl i).1.length := by
  unfold SfS.fl
  rw [List.getD_eq_getElem?_getD]
  cases hf : s.fls[i]? with
  | none => simp
  | some f => have := h.sy i f hf; exact ⟨this.2, this.1⟩
theorem FsAt.file {w : World} {O : Nat → Prop} {g m1 m2 : Nat} {pv : Value} {bl : Nat → Nat} {vs : Nat → Value} {s : SfS} (h : FsAt w O g m1 m2 pv bl vs s) {i : Nat} (hi : i < s.fls.length) :
    w.heap[bl i]? = some (.cells #[vs i, .int .i64 ((s.fl i).2 : Int)] 81) ∧ BOwn w (vs i) (s.fl i).1 := by
  have e : s.fls[i]? = some (s.fl i) := by unfold SfS.fl; rw [List.getD_eq_getElem?_getD, List.getElem?_eq_getElem hi]; rfl
  exact ⟨h.fl.hf i _ e, h.fl.hb i _ e⟩
theorem used_any {w : World} {O : Nat → Prop} {g m1 m2 : Nat} {pv : Value} {bl : Nat → Nat} {vs : Nat → Value} {s : SfS} (h : FsAt w O g m1 m2 pv bl vs s) (hw : SfWf s) :
    Calls Tryz.prog 34 #[.pointer (some ⟨g, 0, none⟩)] w fun e w' => e = .returned (.int .i64 (sfUsed s : Int)) ∧ Below w.heap.size w w' := by
  have c0 := h.c0
  have c1 := h.c1
  have hm := h.h1
  have h1 := hw.r1
  have HAP : Hid (s.dir.Pairwise (fun p q => p.1 ≠ q.1)) := sorted_ne h.h1.apart
  have HF : Hid (FsAt w O g m1 m2 pv bl vs s) := h
  have HW : Hid (SfWf s) := hw
  have HU : Hid (∀ left, sumL (fun i => (s.fl i).1.length) left s.dir ≤ 268435456) := fun left => by
    have := sumL_le (F := fun i => (s.fl i).1.length) (B := 1048576) left (l := s.dir) fun p _ => (hw.fl32 p.2).1
    have := hw.dl
    omega
  clear h hw
  go_enter Tryz.func34, Tryz.ntmps34
  go_wp2_with (first
    | (go_at_call 30; refine (made_cell _ c0 h1).mono ?_; rintro e w' ⟨rfl, hw'⟩; subst w')
    | (at_range; refine wpList_range_own _ rfl _ 73 rfl 9 78 keyedS Tryz.underlying73 ptrE m1 s.dir.length (sfD bl s.dir) rfl hm ?_; intro w0 hrg0 hg0 hs0))
  go_frame
  have HB0 : Hid (Below w.heap.size w w0) := (Below.refl _ _).grown hg0 (Nat.le_refl _) (fun k hk => by cases hk)
  have HR0 : Hid (w0.ranges Tryz.prog 9 ptrE m1 w.heap.size s.dir.length (sfD bl s.dir) (Maps.has (sfD bl s.dir)) (Maps.size (sfD bl s.dir))) := hrg0
  clear hrg0 hg0 hs0 c0 c1 hm
  go_loopw [3] (fun v wr => ∃ left cnt, Hid (wr.ranges Tryz.prog 9 ptrE m1 w.heap.size s.dir.length (sfD bl s.dir) left cnt) ∧ v = .int .i64 ((sumL (fun i => (s.fl i).1.length) left s.dir : Nat) : Int) ∧ Hid (Below w.heap.size w wr)) (fun _ wr => wr.rangeLeft m1 w.heap.size)
  case atStart => exact ⟨_, _, HR0, by rw [sumL_start bl HAP.out]; rfl, HB0⟩
  case round =>
    obtain ⟨left, cnt, HR, rfl, HB⟩ := hrel
    have hu := HU.out left
    go_wp2_with (at_next; refine wpList_next_sf rfl _ rfl m1 w.heap.size s.dir.length bl s.dir left cnt rfl HR.out ?_ ?_)
    · intro hl0
      have HE : Hid (((sumL (fun i => (s.fl i).1.length) left s.dir : Nat) : Int) = (sfUsed s : Int)) := by
        show ((_ : Nat) : Int) = _
        rw [sumL_end hl0]; rfl
      clear hl0 HR
      go_wp2_with fail
      go_ret
      exact ⟨by rw [← HE.out]; rfl, HB.out⟩
    · intro nm i w1 cnt1 hnl hlook hleft hrg1 hlt hg1 hs1 hen
      have hi : i < s.fls.length := (HW.out.di _ (look_mem hlook)).1
      have HB1 : Hid (Below w.heap.size w w1) := HB.out.grown hg1 (HB.out.size) (fun k hk => by cases hk; exact Nat.le_refl _)
      obtain ⟨hf, hb⟩ := HF.out.file hi
      obtain ⟨va, vc, hv, -⟩ := hb.form
      have x0 : w1.cell? ⟨bl i, 0, none⟩ = some (.slice va (s.fl i).1.length vc) := by
        have h0 := HB1.out.block _ (Array.getElem?_eq_some_iff.1 hf).1
        rw [← hv]
        exact cell_of (h0.trans hf) 0 _ rfl
      have HST : Hid (sumL (fun i => (s.fl i).1.length) (fun z => left z && !z.sameKey (.string nm)) s.dir = sumL (fun i => (s.fl i).1.length) left s.dir + (s.fl i).1.length) := sumL_step HAP.out hlook hleft
      have hu1 := HU.out (fun z => left z && !z.sameKey (.string nm))
      rw [HST.out] at hu1
      have HR1 : Hid (w1.ranges Tryz.prog 9 ptrE m1 w.heap.size s.dir.length (sfD bl s.dir) (fun z => left z && !z.sameKey (.string nm)) cnt1) := hrg1
      have HLT : Hid (cnt1 < cnt) := hlt
      clear hrg1 hlt hg1 hs1 hlook hleft hf hb hv hnl
      generalize hq : sumL (fun i => (s.fl i).1.length) left s.dir = U at *
      have HQ : Hid (sumL (fun i => (s.fl i).1.length) left s.dir = U) := hq
      clear hq
      generalize hq : (s.fl i).1.length = L at *
      clear hq
      go_wp2_with fail
      go_roundw
      case rel => exact ⟨_, _, HR1, by rw [HST.out]; congr 1, HB1⟩
      case measure => rw [HR1.out.left_eq, HR.out.left_eq]; exact HLT.out
end Go.Proofs.YtilbffgpniomcaaGreatDoor

/- Bytes that are copied into bytes of one's own; bytes just made. -/
namespace Go.Proofs.YtilbffgpniomcaaGreatDoor
open Go.RowKit

theorem copy_own {w : World} {base g n off : Nat} {L l : List UInt8} {v : Value} (ty : TypeId) (hO : Own w base (.slice (some ⟨g, 0, none⟩) n n) L) (hR : Reads w v l) (h0 : 0 < l.length) (hl : off + l.length = n) :
    ∃ w3, (Builtin.copy_ #[22, 22] ty #[.slice (some ⟨g, off, none⟩) (n - off) (n - off), v]).run Tryz.prog w = .ok (goInt l.length) w3 ∧ Own w3 base (.slice (some ⟨g, 0, none⟩) n n) (L.take off ++ l) ∧ Hid (Below base w w3) ∧ Hid (w.grownBy w3 (some g)) := by
  obtain ⟨i0, hi, hz0, hz1, hz2⟩ := info_parts info5
  have hLn : L.length = n := by
    obtain ⟨a, cap, hv, _⟩ := hO.form
    simp at hv; omega
  have hOw := hO
  obtain ⟨h1, h2⟩ := hO
  rcases h2 with ⟨h2, _⟩ | ⟨g', cap, cur, hv, hg, hw, hn, hm, hs, ht⟩
  · simp at h2
  · simp at hv
    obtain ⟨rfl, hv2, rfl⟩ := hv
    rcases hR with ⟨rfl, _⟩ | ⟨b, o, cp, rfl, r2, r3, r4, r5, r6⟩
    · simp at h0
    · have hcl : cur.toList = L.map bc := by
        rw [← ht, List.take_of_length_le (by simp; omega)]
      have hrun := run_copy_row (P := Tryz.prog) w 22 22 ty 5 g off (n - off) (n - off) ⟨b, o, none⟩ l.length cp cur 5 (l.map bc) Tryz.underlying22 (by rw [hi]; simp [hz1]) hw (by rw [List.length_map]; exact (Nat.min_eq_left (by omega)).symm) (newsR r6) (by simp; omega) one_bc
      rw [List.length_map] at hrun
      refine ⟨_, hrun, ?_, below_setRow (Below.refl _ _) hg _, ?_⟩
      · have hheap := setRow_heap w g cur (cur.toList.take off ++ l.map bc ++ cur.toList.drop (off + l.length)).toArray 5 (0, 0) hw
        have e1 : cur.toList.take off ++ l.map bc ++ cur.toList.drop (off + l.length) = (L.take off ++ l).map bc := by
          rw [hcl, hl, List.drop_of_length_le (by simp; omega), List.append_nil, List.map_append, List.map_take]
        rw [e1] at hheap ⊢
        have hlen : (L.take off ++ l).length = n := by simp; omega
        refine ⟨by simp, .inr ⟨g, n, _, by rw [hlen], hg, hheap, by omega, hm, by simp; omega, ?_⟩⟩
        rw [hlen, List.toList_toArray, Nat.mul_one]; exact List.take_of_length_le (by rw [List.length_map]; omega)
      · have hb := below_setRow (Below.refl 0 w) (Nat.zero_le g) (cur.toList.take off ++ l.map bc ++ cur.toList.drop (off + l.length)).toArray
        refine ⟨rfl, rfl, rfl, hb.size, fun k hk hne => ?_⟩
        show (w.heap.modify g _)[k]? = _
        rw [Array.getElem?_modify, if_neg (fun e => hne (by rw [e]))]
/-- The same, at one operation. -/
theorem wp_copy {w : World} {o : Oper} {a : Act} {K : Act → World → Prop} {Q : Exit → Act → World → Prop} (d s : Operand)
    (ho : o.op = .call { callee := .builtin .copy, args := #[d, s], argTypes := #[22, 22] }) (base g n off m : Nat) (L l : List UInt8) (v : Value) (hm : n - off = m)
    (hd : a.eval d = .slice (some ⟨g, off, none⟩) m m) (hs : a.eval s = v) (hO : Own w base (.slice (some ⟨g, 0, none⟩) n n) L) (hR : Reads w v l) (h0 : 0 < l.length) (hl : off + l.length = n)
    (h : ∀ w', Own w' base (.slice (some ⟨g, 0, none⟩) n n) (L.take off ++ l) → Hid (Below base w w') → Hid (w.grownBy w' (some g)) → K (a.put o.dst (goInt l.length)) w') : o.wp Tryz.prog a w K Q := by
  subst hm
  obtain ⟨w', hrun, h1, h2, h3⟩ := copy_own (w := w) (off := off) o.type hO hR h0 hl
  unfold Oper.wp
  simp [execOp, ho, resolve, invoke, builtin, hd, hs, hrun, Result.andThen]
  exact h w' h1 h2 h3
theorem own_zeros {w2 : World} {base g n cap : Nat} (h : w2.ownsRow base 5 1 (.slice (some ⟨g, 0, none⟩) n cap) n (madeCells (Value.int .u8 0).cells n).toList) : Own w2 base (.slice (some ⟨g, 0, none⟩) n cap) (List.replicate n 0) := by
  have e0 : (Value.int .u8 0).cells = #[.int .u8 0] := rfl
  rw [e0, toList_madeCells_one] at h
  unfold Own; simpa [bc] using h
end Go.Proofs.YtilbffgpniomcaaGreatDoor

/- A file system: its calls in memory. -/
namespace Go.Proofs.YtilbffgpniomcaaGreatDoor
open Go.RowKit Go.Maps

/-- What a call leaves: it is this file system, and nothing else has turned. -/
def FsTo (w : World) (O : Nat → Prop) (g m1 m2 : Nat) (s : SfS) (w' : World) : Prop := (∃ pv bl vs, FsAt w' (Grw O w w') g m1 m2 pv bl vs s) ∧ Onl O w w'
theorem FsAt.to {w w' : World} {O : Nat → Prop} {g m1 m2 : Nat} {pv : Value} {bl : Nat → Nat} {vs : Nat → Value} {s : SfS} (h : FsAt w' O g m1 m2 pv bl vs s) (h0 : ∀ k, O k → k < w.heap.size) (ho : Onl O w w') : FsTo w O g m1 m2 s w' :=
  ⟨⟨pv, bl, vs, h.wider (fun _ q => .inl q) (Grw.lt h0 ho.size)⟩, ho⟩
theorem FsAt.newF {w : World} {O : Nat → Prop} {g m1 m2 : Nat} {pv : Value} {bl : Nat → Nat} {vs : Nat → Value} {s : SfS} (h : FsAt w O g m1 m2 pv bl vs s) (hw : SfWf s) :
    FsAt (w.alloc (.cells #[.slice none 0 0, .int .i64 0] 81)) (Grw O w (w.alloc (.cells #[.slice none 0 0, .int .i64 0] 81))) g m1 m2 pv (updF bl s.fls.length w.heap.size) (updF vs s.fls.length (.slice none 0 0)) (sfNew s) := by
  have hk : ∀ k, O k → (w.alloc (.cells #[.slice none 0 0, .int .i64 0] 81)).heap[k]? = w.heap[k]? := fun k q => Below.heap_alloc _ _ _ (h.lt k q)
  have hu : ∀ i, i < s.fls.length → updF bl s.fls.length w.heap.size i = bl i := fun i hi => updF_ne _ _ (by omega)
  have hpe : s.pend.flatMap (sfAv bl) = s.pend.flatMap (sfAv (updF bl s.fls.length w.heap.size)) := by
    simp only [List.flatMap_def]
    congr 1
    refine List.map_congr_left fun a ha => ?_
    unfold sfAv
    cases hf : a.file with
    | none => rfl
    | some i => rw [sfPv, sfPv, hu i ((hw.pi a ha).1 i hf)]
  refine ⟨Grw.lt h.lt (by simp), .inl h.og, .inl h.o1, .inl h.o2, h.ne, (hk _ h.og).trans h.hg, (h.h1.keep (hk _ h.o1)).congr fun p hp => (hu _ (hw.di p hp).1).symm, (h.h2.keep (hk _ h.o2)).congr fun p hp => (hu _ (hw.oi p hp).1).symm, ?_, fun k q => .inl (h.op k q), ?_⟩
  · have := h.hp.keep (w' := w.alloc (.cells #[.slice none 0 0, .int .i64 0] 81)) (fun k q => hk k (h.op k q))
    rw [hpe] at this
    exact this
  · have hl : (sfNew s).fls.length = s.fls.length + 1 := by simp [sfNew]
    have hcase : ∀ i, i < (sfNew s).fls.length → i < s.fls.length ∨ i = s.fls.length := fun i hi => by omega
    have hold : ∀ i f, i < s.fls.length → (sfNew s).fls[i]? = some f → s.fls[i]? = some f := fun i f hi hf => by
      rw [sfNew, List.getElem?_append_left hi] at hf; exact hf
    refine ⟨fun i hi => ?_, fun i j hi hj e => ?_, fun i f hf => ?_, fun i f hf => ?_, fun i hi k q => ?_, fun i j hi hj k q1 q2 => ?_⟩
    · rcases hcase i hi with q | rfl
      · rw [hu i q]; exact .inl (h.fl.ob i q)
      · rw [updF_same]; exact .inr ⟨Nat.le_refl _, by simp⟩
    · rcases hcase i hi with q | rfl
      · rcases hcase j hj with r | rfl
        · rw [hu i q, hu j r] at e; exact h.fl.nd i j q r e
        · rw [hu i q, updF_same] at e; have := h.lt _ (h.fl.ob i q); omega
      · rcases hcase j hj with r | rfl
        · rw [hu j r, updF_same] at e; have := h.lt _ (h.fl.ob j r); omega
        · rfl
    · have hi := (List.getElem?_eq_some_iff.1 hf).1
      rcases hcase i hi with q | rfl
      · rw [hu i q, updF_ne _ _ (by omega)]
        exact (hk _ (h.fl.ob i q)).trans (h.fl.hf i f (hold i f q hf))
      · have : f = ([], 0) := by simp [sfNew] at hf; exact hf.symm
        subst this
        rw [updF_same, updF_same]
        exact heap_alloc_new _ _
    · have hi := (List.getElem?_eq_some_iff.1 hf).1
      rcases hcase i hi with q | rfl
      · rw [updF_ne _ _ (by omega)]
        exact (h.fl.hb i f (hold i f q hf)).keep fun k r => hk k (h.fl.ov i q k r)
      · have : f = ([], 0) := by simp [sfNew] at hf; exact hf.symm
        subst this
        rw [updF_same]
        exact GOwn.nil _ _ _
    · rcases hcase i hi with r | rfl
      · rw [updF_ne _ _ (by omega)] at q; exact .inl (h.fl.ov i r k q)
      · rw [updF_same] at q; simp [Value.ownBlock] at q
    · rcases hcase i hi with r | rfl
      · rcases hcase j hj with t | rfl
        · rw [updF_ne _ _ (by omega)] at q1 q2; exact h.fl.nv i j r t k q1 q2
        · rw [updF_same] at q2; simp [Value.ownBlock] at q2
      · rw [updF_same] at q1; simp [Value.ownBlock] at q1
theorem SfWf.new {s : SfS} (h : SfWf s) : SfWf (sfNew s) := by
  refine ⟨h.r1, h.r2, h.l1, h.l2, fun p hp => ⟨?_, (h.di p hp).2⟩, fun p hp => ⟨?_, (h.oi p hp).2⟩, fun a ha => ⟨fun i hi => ?_, (h.pi a ha).2⟩, h.ap, h.ln, fun i f hf => ?_⟩
  · have := (h.di p hp).1; simp [sfNew]; omega
  · have := (h.oi p hp).1; simp [sfNew]; omega
  · have := (h.pi a ha).1 i hi; simp [sfNew]; omega
  · rw [sfNew] at hf
    rcases Nat.lt_or_ge i s.fls.length with q | q
    · rw [List.getElem?_append_left q] at hf; exact h.sy i f hf
    · rw [List.getElem?_append_right q] at hf
      rcases Nat.eq_zero_or_pos (i - s.fls.length) with z | z
      · rw [z] at hf; simp at hf; subst hf; simp
      · rw [List.getElem?_eq_none (by simp; omega)] at hf; cases hf
set_option maxRecDepth 100000 in
theorem create_any {w : World} {O : Nat → Prop} {g m1 m2 : Nat} {pv : Value} {bl : Nat → Nat} {vs : Nat → Value} {s : SfS} (h : FsAt w O g m1 m2 pv bl vs s) (hw : SfWf s) (n : List UInt8) (hn : n.length ≤ maxLen) (hpn : s.pend.length < 1099511627776) :
    Calls Tryz.prog 9 #[.pointer (some ⟨g, 0, none⟩), .string ⟨n.toArray⟩] w fun e w' => e = .returned (.int .i64 (sfCreate s n).1) ∧ FsTo w O g m1 m2 (sfCreate s n).2 w' := by
  have HF : Hid (FsAt w O g m1 m2 pv bl vs s) := h
  have HW : Hid (SfWf s) := hw
  have HEnd : Hid (FsTo w O g m1 m2 s w) := h.to h.lt (Onl.refl _ _)
  have h1 := hw.r1
  have c0 := h.c0
  have c1 := h.c1
  have hlk := h.h1.look n hn
  have hln : ∀ ty, (Builtin.len_ #[73] ty #[.map (some m1)]).run Tryz.prog w = .ok (.int .i64 (s.dir.length : Int)) w := h.h1.len
  clear h hw
  unfold sfCreate
  cases hN : sfName n with
  | false =>
    rw [if_pos rfl]
    go_enter Tryz.func9, Tryz.ntmps9
    go_wp2_with (first
      | (go_at_call 30; refine (made_cell _ c0 h1).mono ?_; rintro e w' ⟨rfl, hw'⟩; subst w')
      | (go_at_call 31; refine (isName_any n _).mono ?_; rw [hN]; rintro e w' ⟨rfl, hw'⟩; subst w'))
    go_ret
    exact ⟨rfl, HEnd.out⟩
  | true =>
    rw [if_neg (by simp)]
    cases hL : sfLook n s.dir with
    | some i =>
      rw [if_pos (show (some i).isSome = true from rfl)]
      rw [hL] at hlk
      simp only [sfPv] at hlk
      go_enter Tryz.func9, Tryz.ntmps9
      go_wp2_with (first
        | (go_at_call 30; refine (made_cell _ c0 h1).mono ?_; rintro e w' ⟨rfl, hw'⟩; subst w')
        | (go_at_call 31; refine (isName_any n _).mono ?_; rw [hN]; rintro e w' ⟨rfl, hw'⟩; subst w'))
      go_ret
      exact ⟨rfl, HEnd.out⟩
    | none =>
      rw [if_neg (by simp)]
      rw [hL] at hlk
      simp only [sfPv] at hlk
      by_cases h256 : 256 ≤ s.dir.length
      · rw [if_pos h256]
        have h256' : (256 : Int) ≤ (s.dir.length : Int) := by omega
        go_enter Tryz.func9, Tryz.ntmps9
        go_wp2_with (first
          | (go_at_call 30; refine (made_cell _ c0 h1).mono ?_; rintro e w' ⟨rfl, hw'⟩; subst w')
          | (go_at_call 31; refine (isName_any n _).mono ?_; rw [hN]; rintro e w' ⟨rfl, hw'⟩; subst w'))
        go_ret
        exact ⟨rfl, HEnd.out⟩
      · rw [if_neg h256]
        have h256' : ¬ (256 : Int) ≤ (s.dir.length : Int) := by omega
        have HC : Hid (Calls Tryz.prog 32 #[.pointer (some ⟨g, 0, none⟩), .agg #[.string ⟨#[]⟩, .string ⟨n.toArray⟩, .pointer (some ⟨w.heap.size, 0, none⟩)]] (w.alloc (.cells #[.slice none 0 0, .int .i64 0] 81)) fun e w' => e = .returned (.int .i64 (sfChange (sfNew s) ⟨[], n, some s.fls.length⟩).1) ∧ FsTo w O g m1 m2 (sfChange (sfNew s) ⟨[], n, some s.fls.length⟩).2 w') := by
          have := change_any (HF.out.newF HW.out) HW.out.new ⟨[], n, some s.fls.length⟩ (by simp) hn hpn
          have e : sfPv (updF bl s.fls.length w.heap.size) (some s.fls.length) = .pointer (some ⟨w.heap.size, 0, none⟩) := by rw [sfPv, updF_same]
          rw [e] at this
          refine this.mono ?_
          rintro e w' ⟨he, ⟨pv', hf⟩, ho⟩
          refine ⟨he, ⟨pv', _, _, hf.wider (Grw.trans (by simp) ho.size) (Grw.lt HF.out.lt ?_)⟩, (Onl.alloc _).trans ho⟩
          have := ho.size; simp at this; omega
        go_enter Tryz.func9, Tryz.ntmps9
        go_wp2_with (first
          | (go_at_call 30; refine (made_cell _ c0 h1).mono ?_; rintro e w' ⟨rfl, hw'⟩; subst w')
          | (go_at_call 31; refine (isName_any n _).mono ?_; rw [hN]; rintro e w' ⟨rfl, hw'⟩; subst w')
          | (go_at_call 32; refine HC.out.mono ?_; rintro e w2 ⟨rfl, hto⟩))
        go_ret
        exact ⟨rfl, hto⟩
theorem rename_any {w : World} {O : Nat → Prop} {g m1 m2 : Nat} {pv : Value} {bl : Nat → Nat} {vs : Nat → Value} {s : SfS} (h : FsAt w O g m1 m2 pv bl vs s) (hw : SfWf s) (n m : List UInt8) (hn : n.length ≤ maxLen) (hm : m.length ≤ maxLen) (hpn : s.pend.length < 1099511627776) :
    Calls Tryz.prog 48 #[.pointer (some ⟨g, 0, none⟩), .string ⟨n.toArray⟩, .string ⟨m.toArray⟩] w fun e w' => e = .returned (.int .i64 (sfRename s n m).1) ∧ FsTo w O g m1 m2 (sfRename s n m).2 w' := by
  have HF : Hid (FsAt w O g m1 m2 pv bl vs s) := h
  have HW : Hid (SfWf s) := hw
  have HEnd : Hid (FsTo w O g m1 m2 s w) := h.to h.lt (Onl.refl _ _)
  have h1 := hw.r1
  have c0 := h.c0
  have hfd := find_any h hw n hn
  clear h hw
  unfold sfRename
  cases hN : sfName m with
  | false =>
    rw [if_pos rfl]
    go_enter Tryz.func48, Tryz.ntmps48
    go_wp2_with (first
      | (go_at_call 30; refine (made_cell _ c0 h1).mono ?_; rintro e w' ⟨rfl, hw'⟩; subst w')
      | (go_at_call 31; refine (isName_any m _).mono ?_; rw [hN]; rintro e w' ⟨rfl, hw'⟩; subst w'))
    go_ret
    exact ⟨rfl, HEnd.out⟩
  | true =>
    rw [if_neg (by simp)]
    cases hL : sfLook n s.dir with
    | none =>
      rw [hL] at hfd
      simp only [sfPv, sfFe] at hfd
      go_enter Tryz.func48, Tryz.ntmps48
      go_wp2_with (first
        | (go_at_call 30; refine (made_cell _ c0 h1).mono ?_; rintro e w' ⟨rfl, hw'⟩; subst w')
        | (go_at_call 31; refine (isName_any m _).mono ?_; rw [hN]; rintro e w' ⟨rfl, hw'⟩; subst w')
        | (go_at_call 33; refine hfd.mono ?_; rintro e w' ⟨rfl, hw'⟩; subst w'))
      go_ret
      exact ⟨rfl, HEnd.out⟩
    | some i =>
      rw [hL] at hfd
      simp only [sfPv, sfFe] at hfd
      have HC : Hid (Calls Tryz.prog 32 #[.pointer (some ⟨g, 0, none⟩), .agg #[.string ⟨n.toArray⟩, .string ⟨m.toArray⟩, .pointer (some ⟨bl i, 0, none⟩)]] w fun e w' => e = .returned (.int .i64 (sfChange s ⟨n, m, some i⟩).1) ∧ FsTo w O g m1 m2 (sfChange s ⟨n, m, some i⟩).2 w') := by
        refine (change_any HF.out HW.out ⟨n, m, some i⟩ hn hm hpn).mono ?_
        rintro e w' ⟨he, ⟨pv', hf⟩, ho⟩
        exact ⟨he, ⟨pv', _, _, hf⟩, ho⟩
      go_enter Tryz.func48, Tryz.ntmps48
      go_wp2_with (first
        | (go_at_call 30; refine (made_cell _ c0 h1).mono ?_; rintro e w' ⟨rfl, hw'⟩; subst w')
        | (go_at_call 31; refine (isName_any m _).mono ?_; rw [hN]; rintro e w' ⟨rfl, hw'⟩; subst w')
        | (go_at_call 33; refine hfd.mono ?_; rintro e w' ⟨rfl, hw'⟩; subst w')
        | (go_at_call 32; refine HC.out.mono ?_; rintro e w2 ⟨rfl, hto⟩))
      go_ret
      exact ⟨rfl, hto⟩
theorem remove_any {w : World} {O : Nat → Prop} {g m1 m2 : Nat} {pv : Value} {bl : Nat → Nat} {vs : Nat → Value} {s : SfS} (h : FsAt w O g m1 m2 pv bl vs s) (hw : SfWf s) (n : List UInt8) (hn : n.length ≤ maxLen) (hpn : s.pend.length < 1099511627776) :
    Calls Tryz.prog 46 #[.pointer (some ⟨g, 0, none⟩), .string ⟨n.toArray⟩] w fun e w' => e = .returned (.int .i64 (sfRemove s n).1) ∧ FsTo w O g m1 m2 (sfRemove s n).2 w' := by
  have HF : Hid (FsAt w O g m1 m2 pv bl vs s) := h
  have HW : Hid (SfWf s) := hw
  have HEnd : Hid (FsTo w O g m1 m2 s w) := h.to h.lt (Onl.refl _ _)
  have hfd := find_any h hw n hn
  clear h hw
  unfold sfRemove
  cases hL : sfLook n s.dir with
  | none =>
    rw [hL] at hfd
    simp only [sfPv, sfFe] at hfd
    go_enter Tryz.func46, Tryz.ntmps46
    go_wp2_with (go_at_call 33; refine hfd.mono ?_; rintro e w' ⟨rfl, hw'⟩; subst w')
    go_ret
    exact ⟨rfl, HEnd.out⟩
  | some i =>
    rw [hL] at hfd
    simp only [sfPv, sfFe] at hfd
    have HC : Hid (Calls Tryz.prog 32 #[.pointer (some ⟨g, 0, none⟩), .agg #[.string ⟨n.toArray⟩, .string ⟨#[]⟩, .pointer none]] w fun e w' => e = .returned (.int .i64 (sfChange s ⟨n, [], none⟩).1) ∧ FsTo w O g m1 m2 (sfChange s ⟨n, [], none⟩).2 w') := by
      refine (change_any HF.out HW.out ⟨n, [], none⟩ hn (by simp) hpn).mono ?_
      rintro e w' ⟨he, ⟨pv', hf⟩, ho⟩
      exact ⟨he, ⟨pv', _, _, hf⟩, ho⟩
    go_enter Tryz.func46, Tryz.ntmps46
    go_wp2_with (first
      | (go_at_call 33; refine hfd.mono ?_; rintro e w' ⟨rfl, hw'⟩; subst w')
      | (go_at_call 32; refine HC.out.mono ?_; rintro e w2 ⟨rfl, hto⟩))
    go_ret
    exact ⟨rfl, hto⟩
theorem fail_any {w : World} {O : Nat → Prop} {g m1 m2 : Nat} {pv : Value} {bl : Nat → Nat} {vs : Nat → Value} {s : SfS} (h : FsAt w O g m1 m2 pv bl vs s) (hw : SfWf s) (n e : Int) :
    Calls Tryz.prog 26 #[.pointer (some ⟨g, 0, none⟩), .int .i64 n, .int .i64 e] w fun e' w' => e' = .returned (.int .i64 (sfFail s n e).1) ∧ FsTo w O g m1 m2 (sfFail s n e).2 w' := by
  have HF : Hid (FsAt w O g m1 m2 pv bl vs s) := h
  have HEnd : Hid (FsTo w O g m1 m2 s w) := h.to h.lt (Onl.refl _ _)
  have h1 := hw.r1
  have c0 := h.c0
  have c4 := h.c4
  have c5 := h.c5
  have f4 := h.fz 4
  have f5 := h.fz 5
  clear h hw
  have HP : Hid (∀ w' : World, (∀ k, k ≠ g → w'.heap[k]? = w.heap[k]?) → GOwn w' 83 3 pv s.pend.length (s.pend.flatMap (sfAv bl))) := fun w' hk => HF.out.hp.keep fun k hk' => by
    obtain ⟨cur, hc⟩ := HF.out.pvT hk'
    exact hk k (ty_ne hc HF.out.hg (by decide))
  unfold sfFail
  by_cases he : e ≠ 81 ∧ e ≠ 82
  · rw [if_pos he]
    have e1 : (e != 81) = true := by simpa using he.1
    have e2 : (e != 82) = true := by simpa using he.2
    clear he
    go_enter Tryz.func26, Tryz.ntmps26
    go_wp2_with (go_at_call 30; refine (made_cell _ c0 h1).mono ?_; rintro e w' ⟨rfl, hw'⟩; subst w')
    go_ret
    exact ⟨rfl, HEnd.out⟩
  · rw [if_neg he]
    have he' : e = 81 ∨ e = 82 := by omega
    clear he
    by_cases hn : n < 0
    · rw [if_pos hn]
      have HT : Hid (FsTo w O g m1 m2 { s with fault := 0 } (w.setCell ⟨g, 5, none⟩ (.int .i64 0))) := by
        refine FsAt.to (pv := pv) (bl := bl) (vs := vs) ?_ HF.out.lt (Onl.set (a := ⟨g, 5, none⟩) HF.out.og _)
        refine HF.out.setG (fun _ q => q) (fun k q => by have := HF.out.lt k q; simp [World.setCell]; exact this) (fun k _ hk _ => Below.heap_setCell _ _ _ _ hk) ?_ (HP.out _ fun k hk => Below.heap_setCell _ _ _ _ hk) HF.out.op
        have := cells_set HF.out.hg 5 (.int .i64 0); simpa using this
      rcases he' with rfl | rfl
      · go_enter Tryz.func26, Tryz.ntmps26
        go_wp2_with (go_at_call 30; refine (made_cell _ c0 h1).mono ?_; rintro e w' ⟨rfl, hw'⟩; subst w')
        go_ret
        exact ⟨rfl, HT.out⟩
      · go_enter Tryz.func26, Tryz.ntmps26
        go_wp2_with (go_at_call 30; refine (made_cell _ c0 h1).mono ?_; rintro e w' ⟨rfl, hw'⟩; subst w')
        go_ret
        exact ⟨rfl, HT.out⟩
    · rw [if_neg hn]
      have HT : Hid (FsTo w O g m1 m2 { s with left := n, fault := e } ((w.setCell ⟨g, 4, none⟩ (.int .i64 n)).setCell ⟨g, 5, none⟩ (.int .i64 e))) := by
        refine FsAt.to (pv := pv) (bl := bl) (vs := vs) ?_ HF.out.lt ((Onl.set (a := ⟨g, 4, none⟩) HF.out.og _).then (Onl.set (a := ⟨g, 5, none⟩) HF.out.og _))
        have hk2 : ∀ k, k ≠ g → ((w.setCell ⟨g, 4, none⟩ (.int .i64 n)).setCell ⟨g, 5, none⟩ (.int .i64 e)).heap[k]? = w.heap[k]? := fun k hk => by rw [Below.heap_setCell _ _ _ _ hk, Below.heap_setCell _ _ _ _ hk]
        refine HF.out.setG (fun _ q => q) (fun k q => by have := HF.out.lt k q; simp [World.setCell]; exact this) (fun k _ hk _ => hk2 k hk) ?_ (HP.out _ hk2) HF.out.op
        have g1 := cells_set HF.out.hg 4 (.int .i64 n)
        have := cells_set g1 5 (.int .i64 e); simpa using this
      rcases he' with rfl | rfl
      · go_enter Tryz.func26, Tryz.ntmps26
        go_wp2_with (go_at_call 30; refine (made_cell _ c0 h1).mono ?_; rintro e w' ⟨rfl, hw'⟩; subst w')
        go_ret
        exact ⟨rfl, HT.out⟩
      · go_enter Tryz.func26, Tryz.ntmps26
        go_wp2_with (go_at_call 30; refine (made_cell _ c0 h1).mono ?_; rintro e w' ⟨rfl, hw'⟩; subst w')
        go_ret
        exact ⟨rfl, HT.out⟩
theorem FsAt.plan_to {w w' : World} {O : Nat → Prop} {g m1 m2 : Nat} {pv : Value} {bl : Nat → Nat} {vs : Nat → Value} {s s' : SfS} (h : FsAt w' O g m1 m2 pv bl vs s') (h0 : FsAt w O g m1 m2 pv bl vs s) (ho : Onl O w w') : FsTo w O g m1 m2 s' w' := h.to h0.lt ho
theorem sync_any {w : World} {O : Nat → Prop} {g m1 m2 : Nat} {pv : Value} {bl : Nat → Nat} {vs : Nat → Value} {s : SfS} (h : FsAt w O g m1 m2 pv bl vs s) (hw : SfWf s) (n : List UInt8) (hn : n.length ≤ maxLen) :
    Calls Tryz.prog 83 #[.pointer (some ⟨g, 0, none⟩), .string ⟨n.toArray⟩] w fun e w' => e = .returned (.int .i64 (sfSync s n).1) ∧ FsTo w O g m1 m2 (sfSync s n).2 w' := by
  have HF : Hid (FsAt w O g m1 m2 pv bl vs s) := h
  have HEnd : Hid (FsTo w O g m1 m2 s w) := h.to h.lt (Onl.refl _ _)
  have hfd := find_any h hw n hn
  have hpl := planned_any h hw
  have hdi := hw.di
  clear h hw
  unfold sfSync
  cases hL : sfLook n s.dir with
  | none =>
    rw [hL] at hfd
    simp only [sfPv, sfFe] at hfd
    go_enter Tryz.func83, Tryz.ntmps83
    go_wp2_with (go_at_call 33; refine hfd.mono ?_; rintro e w' ⟨rfl, hw'⟩; subst w')
    go_ret
    exact ⟨rfl, HEnd.out⟩
  | some i =>
    rw [hL] at hfd
    simp only [sfPv, sfFe] at hfd
    have hi : i < s.fls.length := (hdi _ (look_mem hL)).1
    simp only []
    by_cases hE : (sfPlan s).1 = 0
    · rw [if_pos hE]
      rw [hE] at hpl
      obtain ⟨S, HS⟩ := hid_ex (sfPlan s).2
      rw [← HS.out] at hpl ⊢
      have HFL : Hid (S.fls = s.fls) := by show S.fls = _; rw [HS.out]; exact sfPlan_fls s
      have HFI : Hid (S.fl i = s.fl i) := by show S.fl i = _; unfold SfS.fl; rw [HFL.out]
      rw [← HFI.out]
      have hi' : i < S.fls.length := by rw [HFL.out]; exact hi
      clear hE hL hi hdi
      go_enter Tryz.func83, Tryz.ntmps83
      go_wp2_with (go_at_call 33; refine hfd.mono ?_; rintro e w' ⟨rfl, hw'⟩; subst w')
      refine hpl.mono ?_
      rintro e w2 ⟨rfl, hf2, ho2, hs2⟩
      have HF2 : Hid (FsAt w2 O g m1 m2 pv bl vs S) := hf2
      have HO2 : Hid (Onl O w w2) := ho2
      clear hf2 ho2 hs2
      obtain ⟨hf, hb⟩ := HF2.out.file hi'
      obtain ⟨va, vc, hv, -⟩ := hb.form
      rw [hv] at hf
      have x0 := cell_of hf 0 _ rfl
      have x1 := cell_of hf 1 _ rfl
      have z1 : w2.frozen? ⟨bl i, 1, none⟩ = false := by simp [World.frozen?, hf]
      have HFF := (show Hid (w2.heap[bl i]? = some (.cells #[.slice va (S.fl i).1.length vc, .int .i64 ((S.fl i).2 : Int)] 81)) from hf)
      have HBB := (show Hid (BOwn w2 (vs i) (S.fl i).1) from hb)
      have HVV := (show Hid (vs i = .slice va (S.fl i).1.length vc) from hv)
      clear hf hb hv hfd hpl
      go_wp2_with fail
      go_ret
      refine ⟨rfl, FsAt.to (pv := pv) (bl := bl) (vs := updF vs i (vs i)) ?_ HF.out.lt (HO2.out.then (Onl.set (a := ⟨bl i, 1, none⟩) (HF2.out.fl.ob i hi') _))⟩
      refine HF2.out.setI (fun _ q => q) (fun k q => by have := HF2.out.lt k q; simp [World.setCell]; exact this) hi' (fun k _ hk _ => Below.heap_setCell _ _ _ _ hk) (v := vs i) ?_ (HBB.out.keep fun k hk => ?_) (fun k hk => .inl hk)
      · have := cells_set HFF.out 1 (.int .i64 ((S.fl i).1.length : Int))
        rw [HVV.out]
        simpa using this
      · obtain ⟨cur, hc⟩ := HBB.out.block hk
        exact Below.heap_setCell _ _ _ _ (ty_ne hc HFF.out (by decide))
    · rw [if_neg hE]
      have hE' : ((sfPlan s).1 == 0) = false := by simpa using hE
      go_enter Tryz.func83, Tryz.ntmps83
      go_wp2_with (first
        | (go_at_call 33; refine hfd.mono ?_; rintro e w' ⟨rfl, hw'⟩; subst w')
        | (go_at_call 35; refine hpl.mono ?_; rintro e w2 ⟨rfl, hf2, ho2, hs2⟩))
      go_ret
      exact ⟨rfl, hf2.to HF.out.lt ho2⟩
theorem syncDir_any {w : World} {O : Nat → Prop} {g m1 m2 : Nat} {pv : Value} {bl : Nat → Nat} {vs : Nat → Value} {s : SfS} (h : FsAt w O g m1 m2 pv bl vs s) (hw : SfWf s) :
    Calls Tryz.prog 45 #[.pointer (some ⟨g, 0, none⟩)] w fun e w' => e = .returned (.int .i64 (sfSyncDir s).1) ∧ FsTo w O g m1 m2 (sfSyncDir s).2 w' := by
  have HF : Hid (FsAt w O g m1 m2 pv bl vs s) := h
  have hpl := planned_any h hw
  have HW : Hid (SfWf s) := hw
  have h1 := hw.r1
  have c0 := h.c0
  clear h hw
  unfold sfSyncDir
  by_cases hE : (sfPlan s).1 = 0
  · rw [if_pos hE]
    rw [hE] at hpl
    obtain ⟨S, HS⟩ := hid_ex (sfPlan s).2
    rw [← HS.out] at hpl ⊢
    have HPE : Hid (S.pend = s.pend) := by show S.pend = _; rw [HS.out]; exact sfPlan_pend s
    have HWS : Hid (SfWf S) := by
      show SfWf S
      rw [HS.out]
      unfold sfPlan
      have q := HW.out
      split
      · exact q
      · split
        · exact ⟨q.r1, q.r2, by show _ ≤ s.left - 1; omega, by show s.left - 1 < _; have := q.l2; omega, q.di, q.oi, q.pi, q.ap, q.ln, q.sy⟩
        · exact ⟨q.r1, q.r2, q.l1, q.l2, q.di, q.oi, q.pi, q.ap, q.ln, q.sy⟩
    rw [← HPE.out]
    clear hE
    go_enter Tryz.func45, Tryz.ntmps45
    go_wp2_with (go_at_call 30; refine (made_cell _ c0 h1).mono ?_; rintro e w' ⟨rfl, hw'⟩; subst w')
    refine hpl.mono ?_
    rintro e w2 ⟨rfl, hf2, ho2, hs2⟩
    have HF2 : Hid (FsAt w2 O g m1 m2 pv bl vs S) := hf2
    have HO2 : Hid (Onl O w w2) := ho2
    clear hf2 ho2 hs2 hpl
    obtain ⟨pa, pc, hpv, -⟩ := HF2.out.hp.form
    have c3 := HF2.out.c3
    rw [hpv] at c3
    have hst := settle_any HF2.out HWS.out S.pend.length (Nat.le_refl _)
    clear hpv
    go_wp2_with (go_at_call 59; refine hst.mono ?_; rintro e w3 ⟨rfl, hf3, ho3⟩)
    go_ret
    exact ⟨rfl, hf3.to HF.out.lt (HO2.out.then ho3)⟩
  · rw [if_neg hE]
    have hE' : ((sfPlan s).1 == 0) = false := by simpa using hE
    go_enter Tryz.func45, Tryz.ntmps45
    go_wp2_with (first
      | (go_at_call 30; refine (made_cell _ c0 h1).mono ?_; rintro e w' ⟨rfl, hw'⟩; subst w')
      | (go_at_call 35; refine hpl.mono ?_; rintro e w2 ⟨rfl, hf2, ho2, hs2⟩))
    go_ret
    exact ⟨rfl, hf2.to HF.out.lt ho2⟩
end Go.Proofs.YtilbffgpniomcaaGreatDoor

/- A file system: Append, Read. -/
namespace Go.Proofs.YtilbffgpniomcaaGreatDoor
open Go.RowKit Go.Maps

theorem SfWf.plan {s : SfS} (q : SfWf s) : SfWf (sfPlan s).2 := by
  unfold sfPlan
  split
  · exact q
  · split
    · exact ⟨q.r1, q.r2, by show _ ≤ s.left - 1; omega, by show s.left - 1 < _; have := q.l2; omega, q.di, q.oi, q.pi, q.ap, q.ln, q.sy⟩
    · exact ⟨q.r1, q.r2, q.l1, q.l2, q.di, q.oi, q.pi, q.ap, q.ln, q.sy⟩
theorem Reads.keepB {w w' : World} {v : Value} {l : List UInt8} (h : Reads w v l) (hk : ∀ k, v.ownBlock = some k → k < w.heap.size → w'.heap[k]? = w.heap[k]?) (hs : w.heap.size ≤ w'.heap.size) : Reads w' v l := by
  rcases h with h | ⟨b, off, cap, rfl, h2, h3, h4, h5, h6⟩
  · exact .inl h
  · exact .inr ⟨b, off, cap, rfl, h2, h3, h4, by omega, fun j hj => (World.cell?_of_block (hk b rfl h5)).trans (h6 j hj)⟩
theorem wpList_app_runG {w w' : World} {ops : Array Oper} {rest : List Oper} {o : Oper} {a : Act} {Q : Exit → Act → World → Prop} (hgd : o.guard = none) (s x : Operand) (t ty : TypeId) (ho : o.op = .call { callee := .builtin .append, args := #[s, x], argTypes := #[t, t] }) (hty : o.type = ty) (v vx v' : Value) (hs : a.eval s = v) (hx : a.eval x = vx)
    (hrun : (Builtin.append_ #[t, t] ty #[v, vx]).run Tryz.prog w = .ok v' w') (h : wpList Tryz.prog ops Q rest (a.put o.dst v') w') : wpList Tryz.prog ops Q (o :: rest) a w :=
  wpList_plain hgd fun _ hK => wp_app_runG s x t ty ho hty v vx v' hs hx hrun (hK _ _ h)
set_option maxRecDepth 100000 in
set_option maxHeartbeats 8000000 in
theorem append_any {w : World} {O : Nat → Prop} {g m1 m2 : Nat} {pv : Value} {bl : Nat → Nat} {vs : Nat → Value} {s : SfS} (h : FsAt w O g m1 m2 pv bl vs s) (hw : SfWf s) (n : List UInt8) (hn : n.length ≤ maxLen) (bv : Value) (b : List UInt8) (hR : ∀ w', Onl O w w' → Reads w' bv b) :
    Calls Tryz.prog 10 #[.pointer (some ⟨g, 0, none⟩), .string ⟨n.toArray⟩, bv] w fun e w' => e = .returned (.int .i64 (sfAppend s n b).1) ∧ FsTo w O g m1 m2 (sfAppend s n b).2 w' := by
  have HF : Hid (FsAt w O g m1 m2 pv bl vs s) := h
  have HW : Hid (SfWf s) := hw
  have HEnd : Hid (FsTo w O g m1 m2 s w) := h.to h.lt (Onl.refl _ _)
  have HRD : Hid (∀ w', Onl O w w' → Reads w' bv b) := hR
  obtain ⟨ba, bc', rfl, hbl⟩ := (hR w (Onl.refl _ _)).form
  have hbl' : (b.length : Int) ≤ 9223372036854775807 := by simp only [maxLen] at hbl; omega
  have hfd := find_any h hw n hn
  have hpl := planned_any h hw
  have hdi := hw.di
  clear h hw hR
  unfold sfAppend
  cases hL : sfLook n s.dir with
  | none =>
    rw [hL] at hfd
    simp only [sfPv, sfFe] at hfd
    go_enter Tryz.func10, Tryz.ntmps10
    go_wp2_with (go_at_call 33; refine hfd.mono ?_; rintro e w' ⟨rfl, hw'⟩; subst w')
    go_ret
    exact ⟨rfl, HEnd.out⟩
  | some i =>
    rw [hL] at hfd
    simp only [sfPv, sfFe] at hfd
    have hi : i < s.fls.length := (hdi _ (look_mem hL)).1
    simp only []
    obtain ⟨hf, hb⟩ := HF.out.file hi
    obtain ⟨va, vc, hv, -⟩ := hb.form
    rw [hv] at hf
    have x0 := cell_of hf 0 _ rfl
    have hL32 := (HW.out.fl32 i).1
    obtain ⟨L, HLL⟩ := hid_ex ((s.fl i).1.length)
    rw [← HLL.out] at x0 hL32 ⊢
    clear hf hb hv hdi hL
    by_cases h1 : 1048576 < L + b.length
    · rw [if_pos h1]
      have h1' : (1048576 : Int) - (L : Int) < (b.length : Int) := by omega
      go_enter Tryz.func10, Tryz.ntmps10
      go_wp2_with (go_at_call 33; refine hfd.mono ?_; rintro e w' ⟨rfl, hw'⟩; subst w')
      go_ret
      exact ⟨rfl, HEnd.out⟩
    · rw [if_neg h1]
      have h1' : ¬ (1048576 : Int) - (L : Int) < (b.length : Int) := by omega
      have c0 := HF.out.c0
      have r1 := HW.out.r1
      have r2 := HW.out.r2
      have hus : Calls Tryz.prog 34 #[.pointer (some ⟨g, 0, none⟩)] w.drew fun e w' => e = .returned (.int .i64 (sfUsed s : Int)) ∧ Below w.heap.size w w' := (used_any (w := w.drew) (HF.out.keep (fun _ _ => rfl) (Nat.le_refl _)) HW.out).mono (fun e w' h => ⟨h.1, (Below.refl w.heap.size w).drew.trans h.2⟩)
      have hu0 : (sfUsed s : Int) ≤ 268435456 := by
        have := sumL_le (F := fun i => (s.fl i).1.length) (B := 1048576) (fun _ => false) (l := s.dir) fun p _ => (HW.out.fl32 p.2).1
        rw [sumL_end (fun _ => rfl)] at this
        have e : sfUsed s = (s.dir.map fun p => (s.fl p.2).1.length).sum := rfl
        have := HW.out.dl
        omega
      obtain ⟨U, HU⟩ := hid_ex (sfUsed s)
      rw [← HU.out] at hus hu0 ⊢
      obtain ⟨R, HRm⟩ := hid_ex s.room
      rw [← HRm.out] at c0 r1 r2 ⊢
      by_cases h2 : R < ((U + b.length : Nat) : Int)
      · rw [if_pos h2]
        have h2' : R - (U : Int) < (b.length : Int) := by omega
        go_enter Tryz.func10, Tryz.ntmps10
        go_wp2_with (go_at_call 33; refine hfd.mono ?_; rintro e w' ⟨rfl, hw'⟩; subst w')
        refine wp_region_noPanic ?_
        refine wp_region_held_drew (S := (fun w' => w'.cell? ⟨g, 0, none⟩ = some (.int .i64 R))) (by kernel_rfl) ?_ (fun hHeld => ?_)
        · exact c0
        refine wpAnyH_take (i := 0) (v := .slice ba b.length bc') rfl (by kernel_rfl) (by kernel_rfl) (by kernel_rfl) (fun _ _ _ h => h) (Or.inl ⟨by rfl, ?_⟩) (by assumption) ?_
        · (intro w1 hSw; (try dsimp only at hSw); go_simp)
        simp only [List.getElem_toArray, List.getElem_cons_zero, Act.put, List.setIfInBounds_toArray, List.set_cons_zero, List.set_cons_succ]
        refine wpAnyH_take (i := 1) (v := .int .i64 (b.length : Int)) rfl (by kernel_rfl) (by kernel_rfl) (by kernel_rfl) (fun _ _ _ h => h) (Or.inl ⟨by rfl, ?_⟩) (by assumption) ?_
        · (intro w1 hSw; (try dsimp only at hSw); go_simp)
        simp only [List.getElem_toArray, List.getElem_cons_succ, List.getElem_cons_zero, Act.put, List.setIfInBounds_toArray, List.set_cons_zero, List.set_cons_succ]
        refine wpAnyH_take (i := 2) (v := .pointer (some ⟨g, 0, none⟩)) rfl (by kernel_rfl) (by kernel_rfl) (by kernel_rfl) (fun _ _ _ h => h) (Or.inl ⟨by rfl, ?_⟩) (by assumption) ?_
        · (intro w1 hSw; (try dsimp only at hSw); go_simp)
        simp only [List.getElem_toArray, List.getElem_cons_succ, List.getElem_cons_zero, Act.put, List.setIfInBounds_toArray, List.set_cons_zero, List.set_cons_succ]
        refine wpAnyH_take (i := 3) (v := .pointer (some ⟨g, 0, none⟩)) rfl (by kernel_rfl) (by kernel_rfl) (by kernel_rfl) (fun _ _ _ h => h) (Or.inl ⟨by rfl, ?_⟩) (by assumption) ?_
        · (intro w1 hSw; (try dsimp only at hSw); go_simp)
        simp only [List.getElem_toArray, List.getElem_cons_succ, List.getElem_cons_zero, Act.put, List.setIfInBounds_toArray, List.set_cons_zero, List.set_cons_succ]
        refine wpAnyH_take (i := 4) (v := .pointer (some ⟨g, 0, none⟩)) rfl (by kernel_rfl) (by kernel_rfl) (by kernel_rfl) (fun _ _ _ h => h) (Or.inl ⟨by rfl, ?_⟩) (by assumption) ?_
        · (intro w1 hSw; (try dsimp only at hSw); go_simp)
        simp only [List.getElem_toArray, List.getElem_cons_succ, List.getElem_cons_zero, Act.put, List.setIfInBounds_toArray, List.set_cons_zero, List.set_cons_succ]
        refine wpAnyH_take (i := 5) (v := .int .i64 R) rfl (by kernel_rfl) (by kernel_rfl) (by kernel_rfl) (fun _ _ _ h => h) (Or.inl ⟨by rfl, ?_⟩) (by assumption) ?_
        · (intro w1 hSw; (try dsimp only at hSw); go_simp)
        simp only [List.getElem_toArray, List.getElem_cons_succ, List.getElem_cons_zero, Act.put, List.setIfInBounds_toArray, List.set_cons_zero, List.set_cons_succ]
        refine wpAnyH_take (i := 6) (v := .pointer (some ⟨g, 0, none⟩)) rfl (by kernel_rfl) (by kernel_rfl) (by kernel_rfl) (fun _ _ _ h => h) (Or.inl ⟨by rfl, ?_⟩) (by assumption) ?_
        · (intro w1 hSw; (try dsimp only at hSw); go_simp)
        simp only [List.getElem_toArray, List.getElem_cons_succ, List.getElem_cons_zero, Act.put, List.setIfInBounds_toArray, List.set_cons_zero, List.set_cons_succ]
        refine wpAnyH_ready (rs := [7]) (by kernel_rfl) (by simp) ?_
        refine AllReadyH.cons (o := _) rfl (fun K hK => ?_) AllReadyH.nil
        go_simp
        refine hus.mono ?_
        rintro e w2 ⟨rfl, hb2⟩
        have HB2 : Hid (Below w.heap.size w w2) := hb2
        clear hb2 hus
        go_simp
        refine hK.out _ _ ?_ (fun hHeld => ?_)
        · exact (HB2.out.cell (p := ⟨g, 0, none⟩) (HF.out.lt g HF.out.og)).trans c0
        clear hK K
        refine wpAnyH_take (i := 8) (v := .int .i64 (R - (U : Int))) rfl (by kernel_rfl) (by kernel_rfl) (by kernel_rfl) (fun _ _ _ h => h) (Or.inl ⟨by rfl, ?_⟩) (by assumption) ?_
        · (intro w1 hSw; (try dsimp only at hSw); go_simp; rw [IntWalk.i64_left, IntWalk.wrap64_in _ (by omega)])
        simp only [List.getElem_toArray, List.getElem_cons_succ, List.getElem_cons_zero, Act.put, List.setIfInBounds_toArray, List.set_cons_zero, List.set_cons_succ]
        refine wpAnyH_take (i := 9) (v := .bool true) rfl (by kernel_rfl) (by kernel_rfl) (by kernel_rfl) (fun _ _ _ h => h) (Or.inl ⟨by rfl, ?_⟩) (by assumption) ?_
        · (intro w1 hSw; (try dsimp only at hSw); go_simp)
        simp only [List.getElem_toArray, List.getElem_cons_succ, List.getElem_cons_zero, Act.put, List.setIfInBounds_toArray, List.set_cons_zero, List.set_cons_succ]
        refine wpAnyH_ready (rs := [10]) (by kernel_rfl) (by simp) ?_
        refine AllReadyH.cons (o := _) rfl (fun K hK => ?_) AllReadyH.nil
        go_simp
        refine hK.out _ _ ?_ (fun hHeld => ?_)
        · exact (HB2.out.cell (p := ⟨g, 0, none⟩) (HF.out.lt g HF.out.og)).trans c0
        clear hK K
        refine wpAnyH_done (by kernel_rfl) ?_ _
        refine NoPanic.normal ?_
        go_wp2_with fail
        go_ret
        exact ⟨rfl, FsAt.to (HF.out.keep (fun k hk => HB2.out.block k (HF.out.lt k hk)) HB2.out.size) HF.out.lt (onl_of_below HB2.out)⟩
      · rw [if_neg h2]
        have h2' : ¬ R - (U : Int) < (b.length : Int) := by omega
        have hbs : L + b.length ≤ 1048576 := by omega
        have hpl2 : ∀ w2, Below w.heap.size w w2 → Calls Tryz.prog 35 #[.pointer (some ⟨g, 0, none⟩)] w2 fun e w' => e = .returned (.int .i64 (sfPlan s).1) ∧ FsAt w' O g m1 m2 pv bl vs (sfPlan s).2 ∧ Onl O w w' ∧ w.heap.size ≤ w'.heap.size ∧ Below w.heap.size w w2 := fun w2 hb2 =>
          (planned_any (HF.out.keep (fun k hk => hb2.block k (HF.out.lt k hk)) hb2.size) HW.out).mono (fun e w' h => ⟨h.1, h.2.1, (onl_of_below hb2).then h.2.2.1, by have := h.2.2.2; have := hb2.size; omega, hb2⟩)
        have HPL := (show Hid (∀ w2, Below w.heap.size w w2 → Calls Tryz.prog 35 #[.pointer (some ⟨g, 0, none⟩)] w2 fun e w' => e = .returned (.int .i64 (sfPlan s).1) ∧ FsAt w' O g m1 m2 pv bl vs (sfPlan s).2 ∧ Onl O w w' ∧ w.heap.size ≤ w'.heap.size ∧ Below w.heap.size w w2) from hpl2)
        clear hpl hpl2
        by_cases hE : (sfPlan s).1 = 0
        · rw [if_pos hE]
          rw [hE] at HPL
          obtain ⟨S, HS⟩ := hid_ex (sfPlan s).2
          rw [← HS.out] at HPL ⊢
          have HFL : Hid (S.fls = s.fls) := by show S.fls = _; rw [HS.out]; exact sfPlan_fls s
          have HFI : Hid (S.fl i = s.fl i) := by show S.fl i = _; unfold SfS.fl; rw [HFL.out]
          rw [← HFI.out]
          have hi' : i < S.fls.length := by rw [HFL.out]; exact hi
          clear hE hi
          go_enter Tryz.func10, Tryz.ntmps10
          go_wp2_with (go_at_call 33; refine hfd.mono ?_; rintro e w' ⟨rfl, hw'⟩; subst w')
          refine wp_region_noPanic ?_
          refine wp_region_held_drew (S := (fun w' => w'.cell? ⟨g, 0, none⟩ = some (.int .i64 R))) (by kernel_rfl) ?_ (fun hHeld => ?_)
          · exact c0
          refine wpAnyH_take (i := 0) (v := .slice ba b.length bc') rfl (by kernel_rfl) (by kernel_rfl) (by kernel_rfl) (fun _ _ _ h => h) (Or.inl ⟨by rfl, ?_⟩) (by assumption) ?_
          · (intro w1 hSw; (try dsimp only at hSw); go_simp)
          simp only [List.getElem_toArray, List.getElem_cons_zero, Act.put, List.setIfInBounds_toArray, List.set_cons_zero, List.set_cons_succ]
          refine wpAnyH_take (i := 1) (v := .int .i64 (b.length : Int)) rfl (by kernel_rfl) (by kernel_rfl) (by kernel_rfl) (fun _ _ _ h => h) (Or.inl ⟨by rfl, ?_⟩) (by assumption) ?_
          · (intro w1 hSw; (try dsimp only at hSw); go_simp)
          simp only [List.getElem_toArray, List.getElem_cons_succ, List.getElem_cons_zero, Act.put, List.setIfInBounds_toArray, List.set_cons_zero, List.set_cons_succ]
          refine wpAnyH_take (i := 2) (v := .pointer (some ⟨g, 0, none⟩)) rfl (by kernel_rfl) (by kernel_rfl) (by kernel_rfl) (fun _ _ _ h => h) (Or.inl ⟨by rfl, ?_⟩) (by assumption) ?_
          · (intro w1 hSw; (try dsimp only at hSw); go_simp)
          simp only [List.getElem_toArray, List.getElem_cons_succ, List.getElem_cons_zero, Act.put, List.setIfInBounds_toArray, List.set_cons_zero, List.set_cons_succ]
          refine wpAnyH_take (i := 3) (v := .pointer (some ⟨g, 0, none⟩)) rfl (by kernel_rfl) (by kernel_rfl) (by kernel_rfl) (fun _ _ _ h => h) (Or.inl ⟨by rfl, ?_⟩) (by assumption) ?_
          · (intro w1 hSw; (try dsimp only at hSw); go_simp)
          simp only [List.getElem_toArray, List.getElem_cons_succ, List.getElem_cons_zero, Act.put, List.setIfInBounds_toArray, List.set_cons_zero, List.set_cons_succ]
          refine wpAnyH_take (i := 4) (v := .pointer (some ⟨g, 0, none⟩)) rfl (by kernel_rfl) (by kernel_rfl) (by kernel_rfl) (fun _ _ _ h => h) (Or.inl ⟨by rfl, ?_⟩) (by assumption) ?_
          · (intro w1 hSw; (try dsimp only at hSw); go_simp)
          simp only [List.getElem_toArray, List.getElem_cons_succ, List.getElem_cons_zero, Act.put, List.setIfInBounds_toArray, List.set_cons_zero, List.set_cons_succ]
          refine wpAnyH_take (i := 5) (v := .int .i64 R) rfl (by kernel_rfl) (by kernel_rfl) (by kernel_rfl) (fun _ _ _ h => h) (Or.inl ⟨by rfl, ?_⟩) (by assumption) ?_
          · (intro w1 hSw; (try dsimp only at hSw); go_simp)
          simp only [List.getElem_toArray, List.getElem_cons_succ, List.getElem_cons_zero, Act.put, List.setIfInBounds_toArray, List.set_cons_zero, List.set_cons_succ]
          refine wpAnyH_take (i := 6) (v := .pointer (some ⟨g, 0, none⟩)) rfl (by kernel_rfl) (by kernel_rfl) (by kernel_rfl) (fun _ _ _ h => h) (Or.inl ⟨by rfl, ?_⟩) (by assumption) ?_
          · (intro w1 hSw; (try dsimp only at hSw); go_simp)
          simp only [List.getElem_toArray, List.getElem_cons_succ, List.getElem_cons_zero, Act.put, List.setIfInBounds_toArray, List.set_cons_zero, List.set_cons_succ]
          refine wpAnyH_ready (rs := [7]) (by kernel_rfl) (by simp) ?_
          refine AllReadyH.cons (o := _) rfl (fun K hK => ?_) AllReadyH.nil
          go_simp
          refine hus.mono ?_
          rintro e w2 ⟨rfl, hb2⟩
          have HB2 : Hid (Below w.heap.size w w2) := hb2
          clear hb2 hus
          go_simp
          refine hK.out _ _ ?_ (fun hHeld => ?_)
          · exact (HB2.out.cell (p := ⟨g, 0, none⟩) (HF.out.lt g HF.out.og)).trans c0
          clear hK K
          refine wpAnyH_take (i := 8) (v := .int .i64 (R - (U : Int))) rfl (by kernel_rfl) (by kernel_rfl) (by kernel_rfl) (fun _ _ _ h => h) (Or.inl ⟨by rfl, ?_⟩) (by assumption) ?_
          · (intro w1 hSw; (try dsimp only at hSw); go_simp; rw [IntWalk.i64_left, IntWalk.wrap64_in _ (by omega)])
          simp only [List.getElem_toArray, List.getElem_cons_succ, List.getElem_cons_zero, Act.put, List.setIfInBounds_toArray, List.set_cons_zero, List.set_cons_succ]
          refine wpAnyH_take (i := 9) (v := .bool false) rfl (by kernel_rfl) (by kernel_rfl) (by kernel_rfl) (fun _ _ _ h => h) (Or.inl ⟨by rfl, ?_⟩) (by assumption) ?_
          · (intro w1 hSw; (try dsimp only at hSw); go_simp)
          simp only [List.getElem_toArray, List.getElem_cons_succ, List.getElem_cons_zero, Act.put, List.setIfInBounds_toArray, List.set_cons_zero, List.set_cons_succ]
          refine wpAnyH_ready (rs := [10]) (by kernel_rfl) (by simp) ?_
          refine AllReadyH.cons (o := _) rfl (fun K hK => ?_) AllReadyH.nil
          go_simp
          refine hK.out _ _ ?_ (fun hHeld => ?_)
          · exact (HB2.out.cell (p := ⟨g, 0, none⟩) (HF.out.lt g HF.out.og)).trans c0
          clear hK K
          refine wpAnyH_done (by kernel_rfl) ?_ _
          refine NoPanic.normal ?_
          clear c0
          go_wp2_with fail
          refine (HPL.out w2 HB2.out).mono ?_
          rintro e w3 ⟨rfl, hf3, ho3, -, -⟩
          have HF3 : Hid (FsAt w3 O g m1 m2 pv bl vs S) := hf3
          have HO3 : Hid (Onl O w w3) := ho3
          clear hf3 ho3
          obtain ⟨hf, hb⟩ := HF3.out.file hi'
          obtain ⟨va', vc', hv, -⟩ := hb.form
          have HFF := (show Hid (w3.heap[bl i]? = some (.cells #[vs i, .int .i64 ((S.fl i).2 : Int)] 81)) from hf)
          have HBB := (show Hid (BOwn w3 (vs i) (S.fl i).1) from hb)
          obtain ⟨v', w4, hrun, hb4, hgr, hloc⟩ := run_bapp 22 (vs i) _ (S.fl i).1 b hb (HRD.out w3 HO3.out) (by have h1 := HLL.out; have h2 := HFI.out; rw [h2, ← h1]; omega)
          obtain ⟨va4, vc4, hv4, -⟩ := hb4.form
          obtain ⟨M, HM⟩ := hid_ex (((S.fl i).1 ++ b).length)
          rw [← HM.out] at hv4
          subst hv4
          have HV4 : Hid (BOwn w4 (.slice va4 M vc4) ((S.fl i).1 ++ b)) := hb4
          have HGR : Hid (w3.grownBy w4 (vs i).ownBlock) := hgr
          have HLC : Hid (∀ k, (Value.slice va4 M vc4).ownBlock = some k → (vs i).ownBlock = some k ∨ (w3.heap.size ≤ k ∧ k < w4.heap.size)) := hloc
          have HG4 : Hid (w4.heap[bl i]? = some (.cells #[vs i, .int .i64 ((S.fl i).2 : Int)] 81)) := by
            show w4.heap[bl i]? = _
            rw [hgr.block _ (Array.getElem?_eq_some_iff.1 hf).1 (fun e => ?_)]
            · exact hf
            · obtain ⟨cur, hc⟩ := hb.block e.symm
              exact ty_ne hc hf (by decide) rfl
          clear hb4 hgr hloc hf hb
          have x3 := cell_of HFF.out 0 _ rfl
          have x4 := cell_of HG4.out 0 _ rfl
          have z4 : w4.frozen? ⟨bl i, 0, none⟩ = false := by simp [World.frozen?, HG4.out]
          have HVS : Hid (vs i = .slice va' (S.fl i).1.length vc') := hv
          rw [hv] at x3 x4 hrun
          clear hv x0
          generalize hq : (S.fl i).1.length = L3 at *
          have HQ3 : Hid ((S.fl i).1.length = L3) := hq
          clear hq
          go_wp2_with (at_builtin; refine wpList_app_runG rfl _ _ 22 22 rfl rfl _ _ _ rfl rfl hrun ?_)
          go_ret
          have hsz4 : w3.heap.size ≤ w4.heap.size := HGR.out.size
          refine ⟨rfl, ⟨pv, bl, updF vs i (.slice va4 M vc4), ?_⟩, ?_⟩
          · refine HF3.out.setI (fun _ q => .inl q) (fun k q => ?_) hi' (fun k ho hk hp => ?_) (v := .slice va4 M vc4) ?_ (HV4.out.keep fun k hk => ?_) (fun k hk => ?_)
            · have : k < w4.heap.size := by
                rcases q with q | q
                · have := HF3.out.lt k q; omega
                · simpa [World.setCell] using q.2
              simpa [World.setCell] using this
            · rw [Below.heap_setCell _ _ _ _ hk, HGR.out.block k (HF3.out.lt k ho) hp]
            · have := cells_set HG4.out 0 (.slice va4 M vc4); simpa using this
            · obtain ⟨cur, hc⟩ := HV4.out.block hk
              exact Below.heap_setCell _ _ _ _ (ty_ne hc HG4.out (by decide))
            · rcases HLC.out k hk with q | q
              · exact .inl q
              · exact .inr ⟨q.1, .inr ⟨by have := HO3.out.size; omega, by simpa [World.setCell] using q.2⟩⟩
          · refine HO3.out.then ⟨HGR.out.os, HGR.out.tape, HGR.out.output, by simpa [World.setCell] using hsz4, fun k hk ho => ?_⟩
            have hne : k ≠ bl i := fun e => ho (e ▸ HF3.out.fl.ob i hi')
            rw [Below.heap_setCell _ _ _ _ hne, HGR.out.block k hk (fun e => ho (HF3.out.fl.ov i hi' k e.symm))]
        · rw [if_neg hE]
          have hE' : ((sfPlan s).1 == 0) = false := by simpa using hE
          go_enter Tryz.func10, Tryz.ntmps10
          go_wp2_with (go_at_call 33; refine hfd.mono ?_; rintro e w' ⟨rfl, hw'⟩; subst w')
          refine wp_region_noPanic ?_
          refine wp_region_held_drew (S := (fun w' => w'.cell? ⟨g, 0, none⟩ = some (.int .i64 R))) (by kernel_rfl) ?_ (fun hHeld => ?_)
          · exact c0
          refine wpAnyH_take (i := 0) (v := .slice ba b.length bc') rfl (by kernel_rfl) (by kernel_rfl) (by kernel_rfl) (fun _ _ _ h => h) (Or.inl ⟨by rfl, ?_⟩) (by assumption) ?_
          · (intro w1 hSw; (try dsimp only at hSw); go_simp)
          simp only [List.getElem_toArray, List.getElem_cons_zero, Act.put, List.setIfInBounds_toArray, List.set_cons_zero, List.set_cons_succ]
          refine wpAnyH_take (i := 1) (v := .int .i64 (b.length : Int)) rfl (by kernel_rfl) (by kernel_rfl) (by kernel_rfl) (fun _ _ _ h => h) (Or.inl ⟨by rfl, ?_⟩) (by assumption) ?_
          · (intro w1 hSw; (try dsimp only at hSw); go_simp)
          simp only [List.getElem_toArray, List.getElem_cons_succ, List.getElem_cons_zero, Act.put, List.setIfInBounds_toArray, List.set_cons_zero, List.set_cons_succ]
          refine wpAnyH_take (i := 2) (v := .pointer (some ⟨g, 0, none⟩)) rfl (by kernel_rfl) (by kernel_rfl) (by kernel_rfl) (fun _ _ _ h => h) (Or.inl ⟨by rfl, ?_⟩) (by assumption) ?_
          · (intro w1 hSw; (try dsimp only at hSw); go_simp)
          simp only [List.getElem_toArray, List.getElem_cons_succ, List.getElem_cons_zero, Act.put, List.setIfInBounds_toArray, List.set_cons_zero, List.set_cons_succ]
          refine wpAnyH_take (i := 3) (v := .pointer (some ⟨g, 0, none⟩)) rfl (by kernel_rfl) (by kernel_rfl) (by kernel_rfl) (fun _ _ _ h => h) (Or.inl ⟨by rfl, ?_⟩) (by assumption) ?_
          · (intro w1 hSw; (try dsimp only at hSw); go_simp)
          simp only [List.getElem_toArray, List.getElem_cons_succ, List.getElem_cons_zero, Act.put, List.setIfInBounds_toArray, List.set_cons_zero, List.set_cons_succ]
          refine wpAnyH_take (i := 4) (v := .pointer (some ⟨g, 0, none⟩)) rfl (by kernel_rfl) (by kernel_rfl) (by kernel_rfl) (fun _ _ _ h => h) (Or.inl ⟨by rfl, ?_⟩) (by assumption) ?_
          · (intro w1 hSw; (try dsimp only at hSw); go_simp)
          simp only [List.getElem_toArray, List.getElem_cons_succ, List.getElem_cons_zero, Act.put, List.setIfInBounds_toArray, List.set_cons_zero, List.set_cons_succ]
          refine wpAnyH_take (i := 5) (v := .int .i64 R) rfl (by kernel_rfl) (by kernel_rfl) (by kernel_rfl) (fun _ _ _ h => h) (Or.inl ⟨by rfl, ?_⟩) (by assumption) ?_
          · (intro w1 hSw; (try dsimp only at hSw); go_simp)
          simp only [List.getElem_toArray, List.getElem_cons_succ, List.getElem_cons_zero, Act.put, List.setIfInBounds_toArray, List.set_cons_zero, List.set_cons_succ]
          refine wpAnyH_take (i := 6) (v := .pointer (some ⟨g, 0, none⟩)) rfl (by kernel_rfl) (by kernel_rfl) (by kernel_rfl) (fun _ _ _ h => h) (Or.inl ⟨by rfl, ?_⟩) (by assumption) ?_
          · (intro w1 hSw; (try dsimp only at hSw); go_simp)
          simp only [List.getElem_toArray, List.getElem_cons_succ, List.getElem_cons_zero, Act.put, List.setIfInBounds_toArray, List.set_cons_zero, List.set_cons_succ]
          refine wpAnyH_ready (rs := [7]) (by kernel_rfl) (by simp) ?_
          refine AllReadyH.cons (o := _) rfl (fun K hK => ?_) AllReadyH.nil
          go_simp
          refine hus.mono ?_
          rintro e w2 ⟨rfl, hb2⟩
          have HB2 : Hid (Below w.heap.size w w2) := hb2
          clear hb2 hus
          go_simp
          refine hK.out _ _ ?_ (fun hHeld => ?_)
          · exact (HB2.out.cell (p := ⟨g, 0, none⟩) (HF.out.lt g HF.out.og)).trans c0
          clear hK K
          refine wpAnyH_take (i := 8) (v := .int .i64 (R - (U : Int))) rfl (by kernel_rfl) (by kernel_rfl) (by kernel_rfl) (fun _ _ _ h => h) (Or.inl ⟨by rfl, ?_⟩) (by assumption) ?_
          · (intro w1 hSw; (try dsimp only at hSw); go_simp; rw [IntWalk.i64_left, IntWalk.wrap64_in _ (by omega)])
          simp only [List.getElem_toArray, List.getElem_cons_succ, List.getElem_cons_zero, Act.put, List.setIfInBounds_toArray, List.set_cons_zero, List.set_cons_succ]
          refine wpAnyH_take (i := 9) (v := .bool false) rfl (by kernel_rfl) (by kernel_rfl) (by kernel_rfl) (fun _ _ _ h => h) (Or.inl ⟨by rfl, ?_⟩) (by assumption) ?_
          · (intro w1 hSw; (try dsimp only at hSw); go_simp)
          simp only [List.getElem_toArray, List.getElem_cons_succ, List.getElem_cons_zero, Act.put, List.setIfInBounds_toArray, List.set_cons_zero, List.set_cons_succ]
          refine wpAnyH_ready (rs := [10]) (by kernel_rfl) (by simp) ?_
          refine AllReadyH.cons (o := _) rfl (fun K hK => ?_) AllReadyH.nil
          go_simp
          refine hK.out _ _ ?_ (fun hHeld => ?_)
          · exact (HB2.out.cell (p := ⟨g, 0, none⟩) (HF.out.lt g HF.out.og)).trans c0
          clear hK K
          refine wpAnyH_done (by kernel_rfl) ?_ _
          refine NoPanic.normal ?_
          clear c0
          go_wp2_with fail
          refine (HPL.out w2 HB2.out).mono ?_
          rintro e w3 ⟨rfl, hf3, ho3, -, -⟩
          go_wp2_with fail
          go_ret
          exact ⟨rfl, hf3.to HF.out.lt ho3⟩
end Go.Proofs.YtilbffgpniomcaaGreatDoor

/- manifest: a box of a run; what a struct's store leaves. -/
namespace Go.Proofs.YtilbffgpniomcaaGreatDoor
open Go.RowKit

theorem stW_nw {w W : World} {b0 : Array Value} {T : TypeId} {vs : List Value} (h : StW (w.alloc (.cells b0 T)) W w.heap.size 0 b0 T vs) (hb : b0.size = vs.length) : Below w.heap.size w W ∧ W.heap[w.heap.size]? = some (.cells vs.toArray T) ∧ w.heap.size < W.heap.size := by
  have hbl : Below w.heap.size w W := ((Below.refl _ _).alloc (Nat.le_refl _) _).trans (h.b _ (Nat.le_refl _))
  obtain ⟨cur, h1, h2, _, h4⟩ := h.c
  have e : cur = vs.toArray := by
    apply Array.ext (by simp; omega)
    intro i hi hj
    have := h4 i (by simpa using hj)
    rw [Nat.zero_add, Array.getElem?_eq_getElem hi] at this
    simpa using this
  rw [e] at h1
  exact ⟨hbl, h1, (Array.getElem?_eq_some_iff.1 h1).1⟩
/-- A run's three cells. -/
def r3L (r : Ru) : List Value := [.int .i64 r.f, .int .i64 r.l, .int .i64 r.c]
theorem r3L_len (r : Ru) : (r3L r).length = 3 := rfl
theorem three {w : World} {b : Nat} {T : TypeId} {r : Ru} (h : w.heap[b]? = some (.cells (r3L r).toArray T)) : w.cell? ⟨b, 0, none⟩ = some (.int .i64 r.f) ∧ w.cell? ⟨b, 1, none⟩ = some (.int .i64 r.l) ∧ w.cell? ⟨b, 2, none⟩ = some (.int .i64 r.c) := by
  refine ⟨?_, ?_, ?_⟩ <;> simp [World.cell?, h, r3L]
theorem len3 : ∀ l : List Ru, (l.flatMap Ru.n).length = 3 * l.length
  | [] => rfl
  | a :: l => by rw [List.flatMap_cons, List.length_append, len3 l, List.length_cons]; show 3 + _ = _; omega
end Go.Proofs.YtilbffgpniomcaaGreatDoor
