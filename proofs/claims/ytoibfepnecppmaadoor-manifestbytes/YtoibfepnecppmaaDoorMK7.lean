/- SF6 SF7 CP0 SF8, joined. -/
import Derived.Test.YtoibfepnecppmaaDoorMK1
import Derived.Test.YtoibfepnecppmaaDoorMK6
import Derived.Laws.CopyOwn
import Derived.Laws.OwnMore
/- A file system: the directory is changed. -/
namespace Go.Proofs.YtoibfepnecppmaaDoor
open Go.RowKit Go.Maps

theorem wp_app_runG {w w' : World} {o : Oper} {a : Act} {K : Act → World → Prop} {Q : Exit → Act → World → Prop} (s x : Operand) (t ty : TypeId) (ho : o.op = .call { callee := .builtin .append, args := #[s, x], argTypes := #[t, t] }) (hty : o.type = ty) (v vx v' : Value) (hs : a.eval s = v) (hx : a.eval x = vx)
    (hrun : (Builtin.append_ #[t, t] ty #[v, vx]).run Tryd.prog w = .ok v' w') (h : K (a.put o.dst v') w') : o.wp Tryd.prog a w K Q := by
  subst hty
  unfold Oper.wp
  simp [execOp, ho, resolve, invoke, builtin, hs, hx, hrun, Result.andThen]
  exact h
theorem sfPlan_dir (s : SfS) : (sfPlan s).2.dir = s.dir := by unfold sfPlan; (split; rfl; split <;> rfl)
theorem sfPlan_old (s : SfS) : (sfPlan s).2.old = s.old := by unfold sfPlan; (split; rfl; split <;> rfl)
theorem sfPlan_pend (s : SfS) : (sfPlan s).2.pend = s.pend := by unfold sfPlan; (split; rfl; split <;> rfl)
theorem sfPlan_fls (s : SfS) : (sfPlan s).2.fls = s.fls := by unfold sfPlan; (split; rfl; split <;> rfl)
theorem sfPlan_room (s : SfS) : (sfPlan s).2.room = s.room := by unfold sfPlan; (split; rfl; split <;> rfl)
theorem SfWf.dl {s : SfS} (h : SfWf s) : s.dir.length ≤ 256 := by have := h.ln s.pend.length; rw [List.take_length, ← h.ap] at this; exact this
theorem infoA : (Tryd.prog.info? 163).map (fun i => (i.zero, i.size, i.bytes)) = some (some (.agg #[.string ⟨#[]⟩, .string ⟨#[]⟩, .pointer none]), 3, 40) := by kernel_rfl
theorem run_appA {w : World} (ty : TypeId) (bl : Nat → Nat) (v vx : Value) (P : List SfA) (a : SfA) (h : GOwn w 163 3 v P.length (P.flatMap (sfAv bl))) (hx : GSrc w 3 vx 1 (sfAv bl a)) (hl : P.length < 1099511627776) :
    ∃ v' w', (Builtin.append_ #[71, 71] ty #[v, vx]).run Tryd.prog w = .ok v' w' ∧ GOwn w' 163 3 v' (P ++ [a]).length ((P ++ [a]).flatMap (sfAv bl)) ∧ w.grownBy w' v.ownBlock ∧ (∀ k, v'.ownBlock = some k → v.ownBlock = some k ∨ (w.heap.size ≤ k ∧ k < w'.heap.size)) := by
  obtain ⟨i0, hi, hz0, hz1, hz2⟩ := info_parts infoA
  obtain ⟨v', w', h1, h2, h3, h4⟩ := run_gapp (P := Tryd.prog) 71 ty 163 i0 _ 3 40 Tryd.underlying71 hi hz0 hz1 hz2 rfl v P.length _ h vx 1 (sfAv bl a) hx (by
    intro u hu
    obtain ⟨pt, hpt⟩ := sfPv_ptr bl a.file
    simp only [sfAv, hpt, List.mem_cons, List.not_mem_nil, or_false] at hu
    rcases hu with rfl | rfl | rfl <;> rfl) (by simp only [maxLen]; omega) (by omega)
  exact ⟨v', w', h1, by rw [List.length_append, List.flatMap_append]; simpa using h2, h3, h4⟩
end Go.Proofs.YtoibfepnecppmaaDoor

/- A file system: how many bytes all files have. -/
namespace Go.Proofs.YtoibfepnecppmaaDoor
open Go.RowKit Go.Maps

theorem keyS_inv {key : Value} {kl : Lit} (h : keyOf Tryd.prog 9 key = some kl) : ∃ s : List UInt8, key = .string ⟨s.toArray⟩ ∧ kl = .string s ∧ s.length ≤ maxLen := by
  rw [keyOf_string Tryd.underlying9] at h
  cases key <;> simp [mapKey, Tryd.underlying9] at h
  obtain ⟨h1, rfl⟩ := h
  rename_i b
  obtain ⟨d⟩ := b
  exact ⟨d.toList, by rw [Array.toArray_toList], rfl, by simpa [ByteArray.size] using h1⟩
theorem SfMap.apart {w : World} {m : Nat} {bl : Nat → Nat} {l : List (List UInt8 × Nat)} (h : SfMap w m bl l) : l.Pairwise (fun p q => bytesBefore p.1 q.1 = true) := by
  obtain ⟨es, he, hp, _⟩ := World.ownsMap.canon h keyedS
  unfold sfD at he
  cases he
  exact (List.pairwise_map.1 hp)
theorem bb_irrefl (a : List UInt8) : bytesBefore a a = false := by
  have := WideShapes.before_irrefl (Lit.string a)
  exact this
theorem sorted_ne {l : List (List UInt8 × Nat)} (h : l.Pairwise (fun p q => bytesBefore p.1 q.1 = true)) : l.Pairwise (fun p q => p.1 ≠ q.1) := h.imp fun {a b} hab e => by rw [e, bb_irrefl] at hab; cases hab
theorem look_mem {s : List UInt8} {i : Nat} : ∀ {l : List (List UInt8 × Nat)}, sfLook s l = some i → (s, i) ∈ l
  | y :: r, h => by
    unfold sfLook at h
    rw [List.find?_cons] at h
    by_cases e : y.1 == s
    · rw [e] at h
      simp at h e
      subst h e
      simp
    · rw [Bool.not_eq_true] at e
      rw [e] at h
      exact List.mem_cons_of_mem _ (look_mem h)
theorem mem_look {l : List (List UInt8 × Nat)} (hp : l.Pairwise (fun p q => p.1 ≠ q.1)) {p : List UInt8 × Nat} (h : p ∈ l) : sfLook p.1 l = some p.2 := by
  induction l with
  | nil => cases h
  | cons y r ih =>
    obtain ⟨h1, h2⟩ := List.pairwise_cons.1 hp
    unfold sfLook
    rw [List.find?_cons]
    rcases List.mem_cons.1 h with rfl | hm
    · simp
    · have : (y.1 == p.1) = false := by simpa using h1 p hm
      rw [this]
      exact ih h2 hm
/-- The step of a range over a directory. -/
theorem wpList_next_sf {w : World} {ops : Array Oper} {rest : List Oper} {o : Oper} {a : Act} {Q : Exit → Act → World → Prop} (hg : o.guard = none) (it : Operand) (hop : o.op = Op.next it false) (m r n : Nat) (bl : Nat → Nat) (l : List (List UInt8 × Nat)) (left : Lit → Bool) (cnt : Nat)
    (hit : a.eval it = .pointer (some ⟨r, 0, none⟩)) (h : w.ranges Tryd.prog 9 ptrE m r n (sfD bl l) left cnt)
    (hDone : (∀ kl, left kl = false) → wpList Tryd.prog ops Q rest (a.put o.dst (.tuple #[.bool false])) w)
    (hMore : ∀ (s : List UInt8) (i : Nat) (w' : World) (cnt' : Nat), s.length ≤ maxLen → sfLook s l = some i → left (.string s) = true → w'.ranges Tryd.prog 9 ptrE m r n (sfD bl l) (fun z => left z && !z.sameKey (.string s)) cnt' → cnt' < cnt →
      w.grownBy w' (some r) → w'.heap.size = w.heap.size → (Instr.entry (.pointer (some ⟨r, 0, none⟩))).run Tryd.prog w' = .ok (.tuple #[.string ⟨s.toArray⟩, .pointer (some ⟨bl i, 0, none⟩)]) w' → wpList Tryd.prog ops Q rest (a.put o.dst (.tuple #[.bool true, .string ⟨s.toArray⟩, .pointer (some ⟨bl i, 0, none⟩)])) w') :
    wpList Tryd.prog ops Q (o :: rest) a w := by
  refine wpList_plain hg fun K' hK' => ?_
  unfold Oper.wp
  rcases h.next keyedS o.type with ⟨h0, hl, hrun⟩ | ⟨key, v, kl, y, w', cnt', hkey, hlk, hv, hat, hrun, hrg, hlt, hgr, hsz, hen⟩
  · simp [execOp, hop, hit, hrun, Result.andThen]
    exact hK' _ _ (hDone hl)
  · obtain ⟨s, rfl, rfl, hs⟩ := keyS_inv hkey
    have h1 := hat .nil
    have h2 := hat (.lit (.bool true))
    rw [sfD_at] at h1 h2
    cases hk : sfLook s l with
    | none => rw [hk] at h1 h2; rw [← h1] at h2; cases h2
    | some i =>
      rw [hk] at h1
      have hpv : v = .pointer (some ⟨bl i, 0, none⟩) := by
        refine ptrE_pv (bl := bl) (o := some i) (ps := y.2) ?_
        rw [hv]
        exact congrArg some (Prod.ext h1.symm rfl)
      subst hpv
      simp [execOp, hop, hit, hrun, Result.andThen]
      exact hK' _ _ (hMore s i w' cnt' hs hk hlk hrg hlt hgr hsz hen)
def sumL (F : Nat → Nat) (left : Lit → Bool) (l : List (List UInt8 × Nat)) : Nat := (l.map fun p => if left (.string p.1) = true then 0 else F p.2).sum
theorem sumL_congr {F : Nat → Nat} {left left' : Lit → Bool} {l : List (List UInt8 × Nat)} (h : ∀ p ∈ l, left (.string p.1) = left' (.string p.1)) : sumL F left l = sumL F left' l := by
  unfold sumL
  rw [List.map_congr_left fun p hp => by rw [h p hp]]
theorem sumL_step {F : Nat → Nat} {left : Lit → Bool} {s : List UInt8} {i : Nat} : ∀ {l : List (List UInt8 × Nat)}, l.Pairwise (fun p q => p.1 ≠ q.1) → sfLook s l = some i → left (.string s) = true → sumL F (fun z => left z && !z.sameKey (.string s)) l = sumL F left l + F i
  | y :: r, hp, hl, hleft => by
    obtain ⟨h1, h2⟩ := List.pairwise_cons.1 hp
    have hsk : ∀ a : List UInt8, (Lit.string a).sameKey (.string s) = (a == s) := fun _ => rfl
    unfold sfLook at hl
    rw [List.find?_cons] at hl
    by_cases e : y.1 == s
    · rw [e] at hl
      simp at hl e
      subst hl e
      have hr : sumL F (fun z => left z && !z.sameKey (.string y.1)) r = sumL F left r := sumL_congr fun p hp' => by
        have : (p.1 == y.1) = false := by simpa using Ne.symm (h1 p hp')
        show (left _ && !(p.1 == y.1)) = _
        rw [this]; simp
      have c1 : sumL F (fun z => left z && !z.sameKey (.string y.1)) (y :: r) = F y.2 + sumL F (fun z => left z && !z.sameKey (.string y.1)) r := by
        simp [sumL, hsk]
      have c2 : sumL F left (y :: r) = 0 + sumL F left r := by simp [sumL, hleft]
      rw [c1, c2, hr]; omega
    · rw [Bool.not_eq_true] at e
      rw [e] at hl
      have ih := sumL_step (F := F) h2 hl hleft
      have c1 : sumL F (fun z => left z && !z.sameKey (.string s)) (y :: r) = (if left (.string y.1) = true then 0 else F y.2) + sumL F (fun z => left z && !z.sameKey (.string s)) r := by
        simp only [sumL, List.map_cons, List.sum_cons, hsk, e, Bool.not_false, Bool.and_true]
      have c2 : sumL F left (y :: r) = (if left (.string y.1) = true then 0 else F y.2) + sumL F left r := by simp [sumL]
      rw [c1, c2, ih]; omega
theorem sumL_le {F : Nat → Nat} {B : Nat} (left : Lit → Bool) : ∀ {l : List (List UInt8 × Nat)}, (∀ p ∈ l, F p.2 ≤ B) → sumL F left l ≤ l.length * B
  | [], _ => by simp [sumL]
  | y :: r, h => by
    have ih := sumL_le left (l := r) fun p hp => h p (by simp [hp])
    have c2 : sumL F left (y :: r) = (if left (.string y.1) = true then 0 else F y.2) + sumL F left r := by simp [sumL]
    have h0 := h y (by simp)
    rw [c2, List.length_cons, Nat.succ_mul]
    split <;> omega
theorem sumL_start {F : Nat → Nat} (bl : Nat → Nat) {l : List (List UInt8 × Nat)} (hp : l.Pairwise (fun p q => p.1 ≠ q.1)) : sumL F (Maps.has (sfD bl l)) l = 0 := by
  have : sumL F (Maps.has (sfD bl l)) l = sumL F (fun _ => true) l := sumL_congr fun p hp' => by rw [sfD_has, mem_look hp hp']; rfl
  rw [this]
  unfold sumL
  clear this hp
  induction l with
  | nil => rfl
  | cons y r ih => simpa using ih
theorem sumL_end {F : Nat → Nat} {left : Lit → Bool} (h : ∀ kl, left kl = false) (l : List (List UInt8 × Nat)) : sumL F left l = (l.map fun p => F p.2).sum := by
  unfold sumL
  rw [List.map_congr_left fun p _ => by rw [h, if_neg (by simp)]]
theorem SfWf.fl32 {s : SfS} (h : SfWf s) (i : Nat) : (s.fl i).1.length ≤ 1048576 ∧ (s.fl i).2 ≤ (s.fl i).1.length := by
  unfold SfS.fl
  rw [List.getD_eq_getElem?_getD]
  cases hf : s.fls[i]? with
  | none => simp
  | some f => have := h.sy i f hf; exact ⟨this.2, this.1⟩
theorem FsAt.file {w : World} {O : Nat → Prop} {g m1 m2 : Nat} {pv : Value} {bl : Nat → Nat} {vs : Nat → Value} {s : SfS} (h : FsAt w O g m1 m2 pv bl vs s) {i : Nat} (hi : i < s.fls.length) :
    w.heap[bl i]? = some (.cells #[vs i, .int .i64 ((s.fl i).2 : Int)] 90) ∧ BOwn w (vs i) (s.fl i).1 := by
  have e : s.fls[i]? = some (s.fl i) := by unfold SfS.fl; rw [List.getD_eq_getElem?_getD, List.getElem?_eq_getElem hi]; rfl
  exact ⟨h.fl.hf i _ e, h.fl.hb i _ e⟩
end Go.Proofs.YtoibfepnecppmaaDoor

/- Bytes that are copied into bytes of one's own; bytes just made. -/
namespace Go.Proofs.YtoibfepnecppmaaDoor
open Go.RowKit

theorem copy_own {w : World} {base g n off : Nat} {L l : List UInt8} {v : Value} (ty : TypeId) (hO : Own w base (.slice (some ⟨g, 0, none⟩) n n) L) (hR : Reads w v l) (h0 : 0 < l.length) (hl : off + l.length = n) :
    ∃ w3, (Builtin.copy_ #[26, 26] ty #[.slice (some ⟨g, off, none⟩) (n - off) (n - off), v]).run Tryd.prog w = .ok (goInt l.length) w3 ∧ Own w3 base (.slice (some ⟨g, 0, none⟩) n n) (L.take off ++ l) ∧ Hid (Below base w w3) ∧ Hid (w.grownBy w3 (some g)) := by
  obtain ⟨i0, hi, hz0, hz1, hz2⟩ := info_parts info5
  have hLn : L.length = n := by
    obtain ⟨a, cap, hv, _⟩ := hO.form
    simp at hv; omega
  have hOw := hO
  obtain ⟨h1, h2⟩ := hO
  rcases h2 with ⟨h2, _⟩ | ⟨g', cap, cur, hv, hg, hw, hn, hm, hs, ht⟩
  · simp at h2
  · simp at hv
    obtain ⟨rfl, hv2, rfl⟩ := hv
    rcases hR with ⟨rfl, _⟩ | ⟨b, o, cp, rfl, r2, r3, r4, r5, r6⟩
    · simp at h0
    · have hcl : cur.toList = L.map bc := by
        rw [← ht, List.take_of_length_le (by simp; omega)]
      have hrun := run_copy_row (P := Tryd.prog) w 26 26 ty 5 g off (n - off) (n - off) ⟨b, o, none⟩ l.length cp cur 5 (l.map bc) Tryd.underlying26 (by rw [hi]; simp [hz1]) hw (by rw [List.length_map]; exact (Nat.min_eq_left (by omega)).symm) (newsR r6) (by simp; omega) one_bc
      rw [List.length_map] at hrun
      refine ⟨_, hrun, ?_, below_setRow (Below.refl _ _) hg _, ?_⟩
      · have hheap := setRow_heap w g cur (cur.toList.take off ++ l.map bc ++ cur.toList.drop (off + l.length)).toArray 5 (0, 0) hw
        have e1 : cur.toList.take off ++ l.map bc ++ cur.toList.drop (off + l.length) = (L.take off ++ l).map bc := by
          rw [hcl, hl, List.drop_of_length_le (by simp; omega), List.append_nil, List.map_append, List.map_take]
        rw [e1] at hheap ⊢
        have hlen : (L.take off ++ l).length = n := by simp; omega
        refine ⟨by simp, .inr ⟨g, n, _, by rw [hlen], hg, hheap, by omega, hm, by simp; omega, ?_⟩⟩
        rw [hlen, List.toList_toArray, Nat.mul_one]; exact List.take_of_length_le (by rw [List.length_map]; omega)
      · have hb := below_setRow (Below.refl 0 w) (Nat.zero_le g) (cur.toList.take off ++ l.map bc ++ cur.toList.drop (off + l.length)).toArray
        refine ⟨rfl, rfl, rfl, hb.size, fun k hk hne => ?_⟩
        show (w.heap.modify g _)[k]? = _
        rw [Array.getElem?_modify, if_neg (fun e => hne (by rw [e]))]
/-- The same, at one operation. -/
theorem wp_copy {w : World} {o : Oper} {a : Act} {K : Act → World → Prop} {Q : Exit → Act → World → Prop} (d s : Operand)
    (ho : o.op = .call { callee := .builtin .copy, args := #[d, s], argTypes := #[26, 26] }) (base g n off m : Nat) (L l : List UInt8) (v : Value) (hm : n - off = m)
    (hd : a.eval d = .slice (some ⟨g, off, none⟩) m m) (hs : a.eval s = v) (hO : Own w base (.slice (some ⟨g, 0, none⟩) n n) L) (hR : Reads w v l) (h0 : 0 < l.length) (hl : off + l.length = n)
    (h : ∀ w', Own w' base (.slice (some ⟨g, 0, none⟩) n n) (L.take off ++ l) → Hid (Below base w w') → Hid (w.grownBy w' (some g)) → K (a.put o.dst (goInt l.length)) w') : o.wp Tryd.prog a w K Q := by
  subst hm
  obtain ⟨w', hrun, h1, h2, h3⟩ := copy_own (w := w) (off := off) o.type hO hR h0 hl
  unfold Oper.wp
  simp [execOp, ho, resolve, invoke, builtin, hd, hs, hrun, Result.andThen]
  exact h w' h1 h2 h3
theorem own_zeros {w2 : World} {base g n cap : Nat} (h : w2.ownsRow base 5 1 (.slice (some ⟨g, 0, none⟩) n cap) n (madeCells (Value.int .u8 0).cells n).toList) : Own w2 base (.slice (some ⟨g, 0, none⟩) n cap) (List.replicate n 0) := by
  have e0 : (Value.int .u8 0).cells = #[.int .u8 0] := rfl
  rw [e0, toList_madeCells_one] at h
  unfold Own; simpa [bc] using h
end Go.Proofs.YtoibfepnecppmaaDoor

/- A file system: its calls in memory. -/
namespace Go.Proofs.YtoibfepnecppmaaDoor
open Go.RowKit Go.Maps

/-- What a call leaves: it is this file system, and nothing else has turned. -/
def FsTo (w : World) (O : Nat → Prop) (g m1 m2 : Nat) (s : SfS) (w' : World) : Prop := (∃ pv bl vs, FsAt w' (Grw O w w') g m1 m2 pv bl vs s) ∧ Onl O w w'
theorem FsAt.to {w w' : World} {O : Nat → Prop} {g m1 m2 : Nat} {pv : Value} {bl : Nat → Nat} {vs : Nat → Value} {s : SfS} (h : FsAt w' O g m1 m2 pv bl vs s) (h0 : ∀ k, O k → k < w.heap.size) (ho : Onl O w w') : FsTo w O g m1 m2 s w' :=
  ⟨⟨pv, bl, vs, h.wider (fun _ q => .inl q) (Grw.lt h0 ho.size)⟩, ho⟩
theorem FsAt.newF {w : World} {O : Nat → Prop} {g m1 m2 : Nat} {pv : Value} {bl : Nat → Nat} {vs : Nat → Value} {s : SfS} (h : FsAt w O g m1 m2 pv bl vs s) (hw : SfWf s) :
    FsAt (w.alloc (.cells #[.slice none 0 0, .int .i64 0] 90)) (Grw O w (w.alloc (.cells #[.slice none 0 0, .int .i64 0] 90))) g m1 m2 pv (updF bl s.fls.length w.heap.size) (updF vs s.fls.length (.slice none 0 0)) (sfNew s) := by
  have hk : ∀ k, O k → (w.alloc (.cells #[.slice none 0 0, .int .i64 0] 90)).heap[k]? = w.heap[k]? := fun k q => Below.heap_alloc _ _ _ (h.lt k q)
  have hu : ∀ i, i < s.fls.length → updF bl s.fls.length w.heap.size i = bl i := fun i hi => updF_ne _ _ (by omega)
  have hpe : s.pend.flatMap (sfAv bl) = s.pend.flatMap (sfAv (updF bl s.fls.length w.heap.size)) := by
    simp only [List.flatMap_def]
    congr 1
    refine List.map_congr_left fun a ha => ?_
    unfold sfAv
    cases hf : a.file with
    | none => rfl
    | some i => rw [sfPv, sfPv, hu i ((hw.pi a ha).1 i hf)]
  refine ⟨Grw.lt h.lt (by simp), .inl h.og, .inl h.o1, .inl h.o2, h.ne, (hk _ h.og).trans h.hg, (h.h1.keep (hk _ h.o1)).congr fun p hp => (hu _ (hw.di p hp).1).symm, (h.h2.keep (hk _ h.o2)).congr fun p hp => (hu _ (hw.oi p hp).1).symm, ?_, fun k q => .inl (h.op k q), ?_⟩
  · have := h.hp.keep (w' := w.alloc (.cells #[.slice none 0 0, .int .i64 0] 90)) (fun k q => hk k (h.op k q))
    rw [hpe] at this
    exact this
  · have hl : (sfNew s).fls.length = s.fls.length + 1 := by simp [sfNew]
    have hcase : ∀ i, i < (sfNew s).fls.length → i < s.fls.length ∨ i = s.fls.length := fun i hi => by omega
    have hold : ∀ i f, i < s.fls.length → (sfNew s).fls[i]? = some f → s.fls[i]? = some f := fun i f hi hf => by
      rw [sfNew, List.getElem?_append_left hi] at hf; exact hf
    refine ⟨fun i hi => ?_, fun i j hi hj e => ?_, fun i f hf => ?_, fun i f hf => ?_, fun i hi k q => ?_, fun i j hi hj k q1 q2 => ?_⟩
    · rcases hcase i hi with q | rfl
      · rw [hu i q]; exact .inl (h.fl.ob i q)
      · rw [updF_same]; exact .inr ⟨Nat.le_refl _, by simp⟩
    · rcases hcase i hi with q | rfl
      · rcases hcase j hj with r | rfl
        · rw [hu i q, hu j r] at e; exact h.fl.nd i j q r e
        · rw [hu i q, updF_same] at e; have := h.lt _ (h.fl.ob i q); omega
      · rcases hcase j hj with r | rfl
        · rw [hu j r, updF_same] at e; have := h.lt _ (h.fl.ob j r); omega
        · rfl
    · have hi := (List.getElem?_eq_some_iff.1 hf).1
      rcases hcase i hi with q | rfl
      · rw [hu i q, updF_ne _ _ (by omega)]
        exact (hk _ (h.fl.ob i q)).trans (h.fl.hf i f (hold i f q hf))
      · have : f = ([], 0) := by simp [sfNew] at hf; exact hf.symm
        subst this
        rw [updF_same, updF_same]
        exact heap_alloc_new _ _
    · have hi := (List.getElem?_eq_some_iff.1 hf).1
      rcases hcase i hi with q | rfl
      · rw [updF_ne _ _ (by omega)]
        exact (h.fl.hb i f (hold i f q hf)).keep fun k r => hk k (h.fl.ov i q k r)
      · have : f = ([], 0) := by simp [sfNew] at hf; exact hf.symm
        subst this
        rw [updF_same]
        exact GOwn.nil _ _ _
    · rcases hcase i hi with r | rfl
      · rw [updF_ne _ _ (by omega)] at q; exact .inl (h.fl.ov i r k q)
      · rw [updF_same] at q; simp [Value.ownBlock] at q
    · rcases hcase i hi with r | rfl
      · rcases hcase j hj with t | rfl
        · rw [updF_ne _ _ (by omega)] at q1 q2; exact h.fl.nv i j r t k q1 q2
        · rw [updF_same] at q2; simp [Value.ownBlock] at q2
      · rw [updF_same] at q1; simp [Value.ownBlock] at q1
theorem SfWf.new {s : SfS} (h : SfWf s) : SfWf (sfNew s) := by
  refine ⟨h.r1, h.r2, h.l1, h.l2, fun p hp => ⟨?_, (h.di p hp).2⟩, fun p hp => ⟨?_, (h.oi p hp).2⟩, fun a ha => ⟨fun i hi => ?_, (h.pi a ha).2⟩, h.ap, h.ln, fun i f hf => ?_⟩
  · have := (h.di p hp).1; simp [sfNew]; omega
  · have := (h.oi p hp).1; simp [sfNew]; omega
  · have := (h.pi a ha).1 i hi; simp [sfNew]; omega
  · rw [sfNew] at hf
    rcases Nat.lt_or_ge i s.fls.length with q | q
    · rw [List.getElem?_append_left q] at hf; exact h.sy i f hf
    · rw [List.getElem?_append_right q] at hf
      rcases Nat.eq_zero_or_pos (i - s.fls.length) with z | z
      · rw [z] at hf; simp at hf; subst hf; simp
      · rw [List.getElem?_eq_none (by simp; omega)] at hf; cases hf
theorem FsAt.plan_to {w w' : World} {O : Nat → Prop} {g m1 m2 : Nat} {pv : Value} {bl : Nat → Nat} {vs : Nat → Value} {s s' : SfS} (h : FsAt w' O g m1 m2 pv bl vs s') (h0 : FsAt w O g m1 m2 pv bl vs s) (ho : Onl O w w') : FsTo w O g m1 m2 s' w' := h.to h0.lt ho
end Go.Proofs.YtoibfepnecppmaaDoor
