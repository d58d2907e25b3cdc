/- AQ5 AQT, joined. -/
import Derived.Test.YtoenijflijfogaaRF25
import Derived.Test.YtoenijflijfogaaRF27
import Derived.Sort.KeysCollected
/- Rows of nine cells that grow. -/
namespace Go.Proofs.Ytoenijflijfogaa
open Go.RowKit

theorem wp_app_runG {w w' : World} {o : Oper} {a : Act} {K : Act → World → Prop} {Q : Exit → Act → World → Prop} (s x : Operand) (t ty : TypeId) (ho : o.op = .call { callee := .builtin .append, args := #[s, x], argTypes := #[t, t] }) (hty : o.type = ty) (v vx v' : Value) (hs : a.eval s = v) (hx : a.eval x = vx)
    (hrun : (Builtin.append_ #[t, t] ty #[v, vx]).run Try.prog w = .ok v' w') (h : K (a.put o.dst v') w') : o.wp Try.prog a w K Q := by
  subst hty
  unfold Oper.wp
  simp [execOp, ho, resolve, invoke, builtin, hs, hx, hrun, Result.andThen]
  exact h
theorem wpList_app_runG {w w' : World} {ops : Array Oper} {rest : List Oper} {o : Oper} {a : Act} {Q : Exit → Act → World → Prop} (hgd : o.guard = none) (s x : Operand) (t ty : TypeId) (ho : o.op = .call { callee := .builtin .append, args := #[s, x], argTypes := #[t, t] }) (hty : o.type = ty) (v vx v' : Value) (hs : a.eval s = v) (hx : a.eval x = vx)
    (hrun : (Builtin.append_ #[t, t] ty #[v, vx]).run Try.prog w = .ok v' w') (h : wpList Try.prog ops Q rest (a.put o.dst v') w') : wpList Try.prog ops Q (o :: rest) a w :=
  wpList_plain hgd fun _ hK => wp_app_runG s x t ty ho hty v vx v' hs hx hrun (hK _ _ h)
theorem run_one {w : World} (t ty e : TypeId) (i : TypeInfo) (z : Value) (size bytes : Nat) (ht : Try.prog.underlying t = some (.slice e)) (hi : Try.prog.info? e = some i) (hz : i.zero = some z) (hsize : i.size = size) (hby : i.bytes = bytes) (hzs : z.cells.size = size)
    (v : Value) (n : Nat) (xs : List Value) (h : GOwn w e size v n xs) (hk : ∀ k, v.ownBlock = some k → k < w.heap.size) (ys : List Value) (hy : ys.length = size) (h1 : ∀ u ∈ ys, u.oneCell' = true) (hn : n < 1000000) (hb : bytes ≤ 1000) :
    ∃ v' w', (Builtin.append_ #[t, t] ty #[v, .slice (some ⟨w.heap.size, 0, none⟩) 1 1]).run Try.prog (w.alloc (.cells ys.toArray e)) = .ok v' w' ∧ GOwn w' e size v' (n + 1) (xs ++ ys) ∧ (w.alloc (.cells ys.toArray e)).grownBy w' v.ownBlock ∧ (∀ k, v'.ownBlock = some k → v.ownBlock = some k ∨ (w.heap.size ≤ k ∧ k < w'.heap.size)) := by
  have h0 : GOwn (w.alloc (.cells ys.toArray e)) e size v n xs := GOwn.keep h fun k hq => Below.heap_alloc _ _ _ (hk k hq)
  have hb4 := heap_alloc_new w (.cells ys.toArray e)
  have hsr : GSrc (w.alloc (.cells ys.toArray e)) size (.slice (some ⟨w.heap.size, 0, none⟩) 1 1) 1 ys := by
    refine ⟨by rw [hy]; simp, .inr ⟨_, _, rfl, fun k u hq => ?_⟩⟩
    have ea : (⟨w.heap.size, 0, none⟩ : Addr).add k = ⟨w.heap.size, k, none⟩ := by simp [Addr.add]; omega
    rw [ea]
    simp only [World.cell?, hb4]
    simpa using hq
  obtain ⟨v', w', g1, g2, g3, g4⟩ := run_gapp (P := Try.prog) t ty e i z size bytes ht hi hz hsize hby hzs v n xs h0 _ 1 ys hsr h1 (by simp only [maxLen]; omega) (Nat.le_trans (Nat.mul_le_mul (show n + 1 ≤ 1000000 by omega) hb) (by decide))
  refine ⟨v', w', g1, g2, g3, fun k hq => ?_⟩
  rcases g4 k hq with h | h
  · exact .inl h
  · exact .inr ⟨by have := h.1; simp at this; omega, h.2⟩
/-- Rows that grow in blocks from base on; their texts are read in V. -/
structure TG (T : TypeId) (base : Nat) (V W : World) (v : Value) (ys : List It) : Prop where
  o : GOwn W T 9 v ys.length (ys.flatMap c9)
  k : ∀ k, v.ownBlock = some k → base ≤ k ∧ k < W.heap.size
  b : Below base V W
  s : ∀ y ∈ ys, SReads V y.v y.D
theorem TG.nil {T : TypeId} {base : Nat} {V W : World} (h : Below base V W) : TG T base V W (.slice none 0 0) [] :=
  ⟨GOwn.nil _ _ _, fun k e => by simp [Value.ownBlock] at e, h, fun y hy => by cases hy⟩
theorem TG.below {T : TypeId} {base : Nat} {V W W' : World} {v : Value} {ys : List It} (h : TG T base V W v ys) (hb : Below W.heap.size W W') (hs : base ≤ W.heap.size) : TG T base V W' v ys :=
  ⟨GOwn.keep h.o fun k q => hb.block k (h.k k q).2, fun k q => ⟨(h.k k q).1, Nat.lt_of_lt_of_le (h.k k q).2 hb.size⟩, h.b.trans (hb.mono hs), h.s⟩
theorem TG.app {T U : TypeId} (hu : Try.prog.underlying U = some (.slice T)) (hinf : (Try.prog.info? T).map (fun i => (i.zero, i.size, i.bytes)) = some (some (.agg #[.slice none 0 0, .int .i64 0, .int .i64 0, .int .u64 0, .bool false, .int .i64 0, .int .u64 0, .int .i64 0, .int .i64 0]), 9, 88))
    {base : Nat} {V W : World} {v : Value} {ys : List It} (h : TG T base V W v ys) (hs : base ≤ W.heap.size) (y : It) (hy : SReads V y.v y.D) (hl : ys.length < 1000000) :
    ∃ v' w', (Builtin.append_ #[U, U] U #[v, .slice (some ⟨W.heap.size, 0, none⟩) 1 1]).run Try.prog (W.alloc (.cells (c9 y).toArray T)) = .ok v' w' ∧ TG T base V w' v' (ys ++ [y]) ∧ base ≤ w'.heap.size := by
  obtain ⟨i0, hi, hz0, hz1, hz2⟩ := info_parts hinf
  obtain ⟨v', W', h1, h2, h3, h4⟩ := run_one U U T i0 _ 9 88 hu hi hz0 hz1 hz2 rfl v ys.length _ h.o (fun k e => (h.k k e).2) (c9 y) rfl (one9 (by obtain ⟨a, c, hv, _⟩ := hy.form; rw [hv]; rfl)) hl (by decide)
  have hsz := h3.size
  simp only [World.size_alloc] at hsz
  refine ⟨v', W', h1, ⟨?_, fun k q => ?_, (h.b.alloc hs _).grown h3 (by simp; omega) (fun k q => (h.k k q).1), fun z hz => ?_⟩, by omega⟩
  · rw [List.length_append, List.flatMap_append]; simpa using h2
  · rcases h4 k q with z | z
    · have := h.k k z; omega
    · omega
  · rcases List.mem_append.1 hz with hz | hz
    · exact h.s z hz
    · obtain rfl : z = y := by simpa using hz
      exact hy
theorem TG.reads {T : TypeId} {V W : World} {v : Value} {ys : List It} (h : TG T V.heap.size V W v ys) : TReads W v ys := by
  obtain ⟨a, cap, rfl, h1, h2, h3, h4⟩ := GOwn.form h.o
  refine ⟨a, cap, rfl, h1, h2, ?_⟩
  rcases Nat.eq_zero_or_pos ys.length with hz | hz
  · exact .inl (List.length_eq_zero_iff.1 hz)
  · cases a with
    | none => have := h4 rfl; omega
    | some b =>
      have hb := h3 b rfl
      obtain ⟨g, bo, bx⟩ := b
      simp only [Addr.mk.injEq, true_and] at hb
      obtain ⟨rfl, rfl⟩ := hb
      refine .inr ⟨g, 0, rfl, (h.k g rfl).2, fun j hj => ⟨fun i hi => ?_, (h.s _ (List.getElem_mem hj)).below h.b⟩⟩
      have e1 := flat9 ys j i hj hi
      rw [List.getElem?_eq_getElem (show i < (c9 ys[j]).length from hi)] at e1
      have := GOwn.cells h.o (g := g) rfl (9 * j + i) _ e1
      have ea : (⟨g, 0, none⟩ : Addr).add (9 * j + i) = ⟨g, 0 + j * 9 + i, none⟩ := by
        unfold Addr.add
        by_cases hz : 9 * j + i = 0
        · rw [if_pos hz]; exact congrArg (fun x => (⟨g, x, none⟩ : Addr)) (show 0 = 0 + j * 9 + i by omega)
        · rw [if_neg hz]; exact congrArg (fun x => (⟨g, x, none⟩ : Addr)) (show 0 + (9 * j + i) = 0 + j * 9 + i by omega)
      rwa [ea] at this
theorem rowsE_len (R : Rl) (wm : Int) (L : List En) : (rowsE R wm L).length ≤ L.length := by
  unfold rowsE; rw [List.length_map]; exact foldF_len R wm L
theorem scanF_snoc {D : List ByteArray} {f t : Int} {l : List Rw} {k : Nat} (hk : k < l.length) : scanF D f t (l.take (k + 1)) = scanF D f t (l.take k) ++ if (decide (l[k].D.take D.length = D) && decide (f ≤ l[k].f ∧ l[k].f < t)) = true then [l[k]] else [] := by
  unfold scanF
  rw [List.take_add_one, List.getElem?_eq_getElem hk, List.filter_append]
  simp only [Option.toList_some, List.filter_cons, List.filter_nil]
theorem scanF_no {D : List ByteArray} {f t : Int} {l : List Rw} {k : Nat} (hk : k < l.length) {x : Rw} (hx : l[k] = x) (h : (decide (x.D.take D.length = D) && decide (f ≤ x.f ∧ x.f < t)) = false) : scanF D f t (l.take (k + 1)) = scanF D f t (l.take k) := by
  subst hx
  rw [scanF_snoc hk, if_neg (by rw [h]; simp), List.append_nil]
theorem scanF_yes {D : List ByteArray} {f t : Int} {l : List Rw} {k : Nat} (hk : k < l.length) {x : Rw} (hx : l[k] = x) (h : (decide (x.D.take D.length = D) && decide (f ≤ x.f ∧ x.f < t)) = true) : scanF D f t (l.take (k + 1)) = scanF D f t (l.take k) ++ [x] := by
  subst hx
  rw [scanF_snoc hk, if_pos h]
theorem scanF_len (D : List ByteArray) (f t : Int) (l : List Rw) : (scanF D f t l).length ≤ l.length := List.length_filter_le _ _
end Go.Proofs.Ytoenijflijfogaa

/- Layer 17: the contract of ask.sorted: a map of rows, in the order of its texts. -/
namespace Go.Proofs.Ytoenijflijfogaa
open Go.RowKit Go.Maps Go.Sort

def baT (s : List UInt8) : ByteArray := ⟨s.toArray⟩
theorem baT_map (ss : List (List UInt8)) : (ss.map baT).map Value.string = ss.map encStr := by rw [List.map_map]; rfl
theorem baT_size (s : List UInt8) : (baT s).size = s.length := by show s.toArray.size = _; simp
/-- One key less is left. -/
theorem left_step (left : Lit → Bool) (s : List UInt8) (hl : left (.string s) = true) : ∀ {keys : List (List UInt8)}, keys.Nodup → s ∈ keys → (s :: keys.filter fun z => (left (.string z) && !(Lit.string z).sameKey (.string s))).Perm (keys.filter fun z => left (.string z))
  | [], _, h => by cases h
  | y :: r, hn, hm => by
    obtain ⟨h1, h2⟩ := List.nodup_cons.1 hn
    have hsk : ∀ a : List UInt8, (Lit.string a).sameKey (.string s) = (a == s) := fun _ => rfl
    simp only [hsk]
    rw [List.filter_cons, List.filter_cons]
    by_cases e : y = s
    · subst e
      have hr : r.filter (fun z => (left (.string z) && !(z == y))) = r.filter fun z => left (.string z) := by
        refine List.filter_congr fun z hz => ?_
        have : (z == y) = false := by simpa using fun e2 : z = y => h1 (e2 ▸ hz)
        rw [this]; simp
      rw [if_neg (by simp), if_pos hl, hr]
    · have hm2 : s ∈ r := by rcases List.mem_cons.1 hm with e2 | h; exact absurd e2.symm e; exact h
      have ih := left_step left s hl h2 hm2
      simp only [hsk] at ih
      have e3 : (y == s) = false := by simpa using e
      rw [e3, Bool.not_false, Bool.and_true]
      by_cases e4 : left (.string y) = true
      · rw [if_pos e4, if_pos e4]
        exact (List.Perm.swap y s _).trans (ih.cons y)
      · rw [if_neg e4, if_neg e4]; exact ih
def kysI (P : List It) : List (List UInt8) := P.map fun y => jn y.D
theorem kysI_keys (P : List It) : (vlI P).map (·.1) = kysI P := by unfold vlI kysI; rw [List.map_map]; rfl
theorem vlI_len (P : List It) : (vlI P).length = P.length := List.length_map _
theorem kysI_nodup {P : List It} (h : (P.map itR).Pairwise (fun a b => lj a.D b.D)) : (kysI P).Nodup := by
  unfold kysI List.Nodup
  rw [List.pairwise_map] at h ⊢
  exact h.imp fun {a b} hab e => by
    have hab' : lj a.D b.D := hab
    rw [show a.D = b.D from jn_inj e] at hab'
    exact lj_irr _ hab'
theorem kysI_sort {P : List It} (h : (P.map itR).Pairwise (fun a b => lj a.D b.D)) {ss : List (List UInt8)} (hp : ss.Perm (kysI P)) : ss.mergeSort (fun x y => decide (x ≤ y)) = kysI P := by
  have := mergeSort_of_perm hp
  unfold leB at this
  rw [this]
  refine List.mergeSort_of_pairwise ?_
  unfold kysI
  rw [List.pairwise_map] at h ⊢
  exact h.imp fun {a b} q => by
    have : Go.bytesBefore (jn a.D) (jn b.D) = true := by rw [bb_lj]; exact decide_eq_true q
    simpa using bb_le _ _ this
theorem look_at {P : List It} (h : (P.map itR).Pairwise (fun a b => lj a.D b.D)) {k : Nat} (hk : k < P.length) : vLook (jn P[k].D) (vlI P) = some (v9 P[k]) := by
  have hp : (vlI P).Pairwise (fun p q => p.1 ≠ q.1) := by
    have := kysI_nodup h
    rw [← kysI_keys] at this
    exact List.pairwise_map.1 this
  exact vmem_look (p := kvI P[k]) hp (List.mem_map_of_mem (List.getElem_mem hk))
theorem ranges_at {w w' : World} {k : TypeId} {R : Value → Option (DataW Value × List MemPlace)} {b r n cnt : Nat} {D : DataW Value} {left : Lit → Bool} (h : w.ranges Try.prog k R b r n D left cnt) (hb : w'.heap[b]? = w.heap[b]?) (hr' : w'.heap[r]? = w.heap[r]?) : w'.ranges Try.prog k R b r n D left cnt := by
  obtain ⟨es, clock, since, seen, c0, hb0, F, hs, hD, hr, rest⟩ := h
  exact ⟨es, clock, since, seen, c0, hb.trans hb0, F, hs, hD, hr'.trans hr, rest⟩
theorem SOwn.keepB {w w' : World} {base : Nat} {v : Value} {l : List ByteArray} (h : SOwn w base v l) (hb : ∀ k, base ≤ k → k < w.heap.size → w'.heap[k]? = w.heap[k]?) : SOwn w' base v l := by
  have hlt := World.ownsRow.lt h.1
  obtain ⟨⟨h1, h2⟩, h3⟩ := h
  refine ⟨⟨h1, ?_⟩, h3⟩
  rcases h2 with h2 | ⟨g, cap, cur, hv, hg, hw, r⟩
  · exact .inl h2
  · exact .inr ⟨g, cap, cur, hv, hg, (hb g hg (hlt g (by rw [hv]; rfl)).2).trans hw, r⟩
theorem zeroRw17 (w : World) : (zeroValue 43).run Try.prog w = .ok (.agg #[.slice none 0 0, .int .i64 0, .int .i64 0, .int .u64 0, .bool false, .int .i64 0, .int .u64 0, .int .i64 0, .int .i64 0]) w := by kernel_rfl
set_option maxRecDepth 100000 in
set_option maxHeartbeats 2000000 in
theorem sorted17_any (m : Nat) (P : List It) (w : World) (hM : VMap w m (vlI P)) (hP : (P.map itR).Pairwise (fun a b => lj a.D b.D)) (hs : ∀ y ∈ P, SReads w y.v y.D) (hk : ∀ y ∈ P, (jn y.D).length ≤ 1000) (hl : P.length ≤ 100000) :
    Calls Try.prog 22 #[.map (some m)] w fun e w' => ∃ v', e = .returned v' ∧ TReads w' v' P ∧ Below w.heap.size w w' := by
  have hlt := World.ownsMap.lt hM
  have HM : Hid (VMap w m (vlI P)) := hM
  have HP : Hid ((P.map itR).Pairwise (fun a b => lj a.D b.D)) := hP
  have HS : Hid (∀ y ∈ P, SReads w y.v y.D) := hs
  have HK : Hid (∀ y ∈ P, (jn y.D).length ≤ 1000) := hk
  have HKN : Hid ((kysI P).Nodup) := kysI_nodup hP
  have HKL : Hid ((kysI P).length ≤ 100000) := by unfold kysI Hid; rw [List.length_map]; exact hl
  obtain ⟨n, Hn⟩ := hid_ex P.length
  rw [← Hn.out] at hl
  clear hP hs hk
  go_enter Try.func22, Try.ntmps22
  go_wp2_with (at_range; refine wpList_range_own _ rfl _ 68 rfl 9 43 keyedS Try.underlying68 anyE m (vlI P).length (vD (vlI P)) rfl hM ?_; intro w0 hrg0 hg0 hs0)
  go_frame
  have HR0 : Hid (w0.ranges Try.prog 9 anyE m w.heap.size (vlI P).length (vD (vlI P)) (Maps.has (vD (vlI P))) (Maps.size (vD (vlI P)))) := hrg0
  have HB0 : Hid (Below w.heap.size w w0) := (Below.refl _ _).grown hg0 (Nat.le_refl _) (fun k hk => by cases hk)
  have HS0 : Hid (w.heap.size < w0.heap.size) := by unfold Hid; omega
  have HF0 : Hid ((kysI P).filter (fun z => Maps.has (vD (vlI P)) (.string z)) = kysI P) := List.filter_eq_self.2 fun z hz => by
    rw [vD_has]
    rw [← kysI_keys] at hz
    obtain ⟨p, hp, rfl⟩ := List.mem_map.1 hz
    have hpn : (vlI P).Pairwise (fun p q => p.1 ≠ q.1) := by
      have := HKN.out
      rw [← kysI_keys] at this
      exact List.pairwise_map.1 this
    rw [vmem_look hpn hp]; rfl
  clear hrg0 hg0 hs0 hM
  go_loopw [3] (fun o wr => ∃ left cnt ss, Hid (wr.ranges Try.prog 9 anyE m w.heap.size (vlI P).length (vD (vlI P)) left cnt) ∧ Hid (SOwn wr (w.heap.size + 1) o (ss.map baT)) ∧ Hid ((ss ++ (kysI P).filter fun z => left (.string z)).Perm (kysI P)) ∧ Hid (Below w.heap.size w wr) ∧ Hid (w.heap.size < wr.heap.size)) (fun _ wr => wr.rangeLeft m w.heap.size)
  case atStart => exact ⟨_, _, [], HR0, SOwn.nil _ _, by (show List.Perm _ _; rw [List.nil_append, HF0.out]), HB0, HS0⟩
  case round =>
    obtain ⟨left, cnt, ss, HR, HO, HPM, HB, HSZ⟩ := hrel
    go_wp2_with (at_next; refine wpList_next_v rfl _ rfl m w.heap.size (vlI P).length (vlI P) left cnt rfl HR.out ?_ ?_)
    · intro hl0
      have HPM2 : Hid (ss.Perm (kysI P)) := by
        have h1 := HPM.out
        have h2 : (kysI P).filter (fun z => left (.string z)) = [] := List.filter_eq_nil_iff.2 fun z _ => by rw [hl0]; simp
        rw [h2, List.append_nil] at h1
        exact h1
      have HOW : Hid (wr.ownsRow (w.heap.size + 1) 9 1 u3 ss.length (ss.map encStr)) := by
        have := HO.out.1
        rw [baT_map, List.length_map] at this
        exact this
      have hsl : ss.length = n := by rw [HPM2.out.length_eq, Hn.out]; unfold kysI; rw [List.length_map]
      have HSO : Hid (Calls Try.prog 39 #[u3] wr fun e w' => e = .returned (.tuple #[]) ∧ w'.ownsRow (w.heap.size + 1) 9 1 u3 ss.length ((ss.mergeSort fun x y => decide (x ≤ y)).map encStr) ∧ Below (w.heap.size + 1) wr w') := sortS_any u3 ss (w.heap.size + 1) wr HOW.out HSZ.out (by rw [hsl]; omega)
      rw [kysI_sort HP.out HPM2.out, hsl] at HSO
      clear hl0 HR HPM HPM2 HO HOW hsl
      go_wp2_with fail
      refine HSO.out.mono ?_
      clear HSO
      rintro e w1 ⟨rfl, hrow, hb1⟩
      have hb1' : Below w.heap.size wr w1 := hb1.mono (by omega)
      have HB1 : Hid (Below w.heap.size w w1) := HB.out.trans hb1'
      have HRW : Hid (w1.ownsRow (w.heap.size + 1) 9 1 u3 n ((kysI P).map encStr)) := hrow
      obtain ⟨ta, tc, htv, -, -⟩ : ∃ a c, u3 = .slice a n c ∧ True ∧ True := by
        rcases hrow.2 with ⟨h, h0⟩ | ⟨g, cap, cur, h, _⟩
        · exact ⟨none, 0, by rw [h, h0], trivial, trivial⟩
        · exact ⟨_, cap, h, trivial, trivial⟩
      subst htv
      have hsz1 := hb1.size
      have HS1 : Hid (w.heap.size < w1.heap.size) := by have := HSZ.out; unfold Hid; omega
      have HI0 : Hid (TG 43 w1.heap.size w1 w1 (.slice none 0 0) []) := TG.nil (Below.refl _ _)
      clear hrow hb1 hb1' HB hsz1 HSZ
      go_wp2_with fail
      go_loopw [5, 22] (fun o i wr => ∃ (k : Nat), k ≤ n ∧ i = .int .i64 (k : Int) ∧ Hid (TG 43 w1.heap.size w1 wr o (P.take k)) ∧ Hid (w1.heap.size ≤ wr.heap.size)) (fun _ i _ => n - (intOf i).toNat)
      case atStart => exact ⟨0, by omega, rfl, HI0, Nat.le_refl _⟩
      case round =>
        clear HI0
        obtain ⟨k, hk, rfl, HG, HSR⟩ := hrel
        have hm1 : m < w1.heap.size := Nat.lt_trans hlt HS1.out
        by_cases hlt2 : k < n
        · have hkx : k < P.length := by rw [← Hn.out]; exact hlt2
          have HTX : Hid (SReads w1 (.slice ta n tc) ((kysI P).map baT)) := by
            have h1 : SOwn w1 (w.heap.size + 1) (.slice ta n tc) ((kysI P).map baT) := ⟨by
              have := HRW.out
              rw [baT_map, List.length_map, show (kysI P).length = n by rw [Hn.out]; exact List.length_map _]
              exact this, fun s hs => by
                obtain ⟨z, hz, rfl⟩ := List.mem_map.1 hs
                obtain ⟨y, hy, rfl⟩ := List.mem_map.1 hz
                have := HK.out y hy
                rw [baT_size]; unfold maxLen; omega⟩
            exact h1.reads
          obtain ⟨b, off, rfl, hbw, hc0⟩ := HTX.out.at k (by simp [kysI]; exact hkx)
          have hc : wr.cell? ⟨b, off + k, none⟩ = some (.string ⟨(jn P[k].D).toArray⟩) := by
            rw [HG.out.b.cell (p := ⟨b, off + k, none⟩) hbw, hc0]
            simp [kysI, baT]
          have HMr : VMap wr m (vlI P) := HM.out.keep ((HB1.out.trans (HG.out.b.mono HB1.out.size)).block m hlt)
          have hlk := HMr.look Try.underlying68 (zeroRw17 wr) (jn P[k].D) (by have := HK.out P[k] (List.getElem_mem hkx); unfold maxLen; omega)
          rw [look_at HP.out hkx] at hlk
          simp only [Option.getD_some] at hlk
          have HSX : Hid (SReads w1 P[k].v P[k].D) := (HS.out P[k] (List.getElem_mem hkx)).below HB1.out
          have HTK : Hid (P.take (k + 1) = P.take k ++ [P[k]]) := List.take_succ_eq_append_getElem hkx
          have hyl : (P.take k).length < 1000000 := by rw [List.length_take]; omega
          obtain ⟨X, HX⟩ := hid_ex P[k]
          rw [← HX.out] at HSX HTK hlk hc
          obtain ⟨s, Hs⟩ := hid_ex (jn X.D)
          rw [← Hs.out] at hlk hc
          obtain ⟨xv, xD, xf, xz, xg⟩ := X
          obtain ⟨va, vc, hv, hxl⟩ := HSX.out.form
          simp only at hv
          subst hv
          obtain ⟨v8, w8, hrun, hg8, hs8⟩ := HG.out.app Try.underlying31 infoRw HSR.out ⟨.slice va xD.length vc, xD, xf, xz, xg⟩ HSX.out hyl
          rw [← HTK.out] at hg8
          simp only [c9] at hrun
          simp only [v9, c9] at hlk
          have HG8 : Hid (TG 43 w1.heap.size w1 w8 v8 (P.take (k + 1))) := hg8
          obtain ⟨oa, oc, hov, -⟩ := GOwn.form HG.out.o
          obtain ⟨M, HM9⟩ : ∃ m, Hid ((P.take k).length = m) := ⟨_, rfl⟩
          rw [HM9.out] at hov
          subst hov
          clear hg8 HMr HTX hbw hc0 HTK Hs HX hxl
          go_wp2_with (at_builtin; refine wpList_app_runG rfl _ _ 31 31 rfl rfl _ _ _ rfl rfl hrun ?_)
          go_roundw
          case rel => exact ⟨k + 1, by omega, by go_num, HG8, hs8⟩
          case measure => simp [intOf]; omega
        · obtain rfl : k = n := by omega
          have HT : Hid (TReads wr u5 P) := by
            have := HG.out.reads
            rw [List.take_of_length_le (by rw [← Hn.out]; exact Nat.le_refl _)] at this
            exact this
          have HBE : Hid (Below w.heap.size w wr) := HB1.out.trans (HG.out.b.mono HB1.out.size)
          clear HG
          go_wp2_with fail
          go_ret
          exact ⟨_, rfl, HT.out, HBE.out⟩
    · intro nm v w1 cnt1 hnl hlook hleft hrg1 hlt1 hg1 hs1 hen
      have hmem : nm ∈ kysI P := by rw [← kysI_keys]; exact List.mem_map_of_mem (vlook_mem hlook)
      have HB1 : Hid (Below w.heap.size w w1) := HB.out.grown hg1 HB.out.size (fun k hk => by cases hk; exact Nat.le_refl _)
      have HO1 : SOwn w1 (w.heap.size + 1) u3 (ss.map baT) := HO.out.keepB fun k h1 h2 => hg1.block k h2 (by simp; omega)
      have HPM1 : Hid (((ss ++ [nm]) ++ (kysI P).filter fun z => (left (.string z) && !(Lit.string z).sameKey (.string nm))).Perm (kysI P)) := by
        have h1 := left_step left nm hleft HKN.out hmem
        rw [List.append_assoc]
        exact (h1.append_left ss).trans HPM.out
      have HLT : Hid (cnt1 < cnt) := hlt1
      have HS1 : Hid (w.heap.size < w1.heap.size) := by rw [hs1]; exact HSZ.out
      have hsl : (ss.map baT).length + 1 ≤ 8796093022208 := by
        have h1 := HPM.out.length_eq
        have h2 := HKL.out
        rw [List.length_append] at h1
        rw [List.length_map]; omega
      have hmw1 : m < w1.heap.size := Nat.lt_trans hlt HS1.out
      have hys : (baT nm).size ≤ maxLen := by rw [baT_size]; exact hnl
      obtain ⟨M, HM1⟩ := hid_ex (ss.map baT ++ [baT nm])
      have hMM : M = (ss ++ [nm]).map baT := by rw [HM1.out, List.map_append]; rfl
      have HR1 : Hid (w1.ranges Try.prog 9 anyE m w.heap.size (vlI P).length (vD (vlI P)) (fun z => left z && !z.sameKey (.string nm)) cnt1) := hrg1
      have hb1 : w.heap.size + 1 ≤ w1.heap.size := HS1.out
      clear hrg1 hlt1 hg1 hs1 hlook hleft hmem HO HPM HB HSZ
      unfold baT at hys HM1
      go_wp2_with (at_builtin; refine wpList_sapp1 rfl _ _ rfl (w.heap.size + 1) _ _ M HM1.out hys rfl rfl HO1 hsl hb1 ?_; intro v2 w2 HO2 HB2)
      have HO2' : Hid (SOwn w2 (w.heap.size + 1) v2 ((ss ++ [nm]).map baT)) := by rw [← hMM]; exact HO2
      have hb2 : Below w.heap.size w1 w2 := HB2.out.mono (by omega)
      have HB3 : Hid (Below w.heap.size w w2) := HB1.out.trans hb2
      have HS2 : Hid (w.heap.size < w2.heap.size) := Nat.lt_of_lt_of_le HS1.out hb2.size
      have HR2 : Hid (w2.ranges Try.prog 9 anyE m w.heap.size (vlI P).length (vD (vlI P)) (fun z => left z && !z.sameKey (.string nm)) cnt1) := ranges_at HR1.out (HB2.out.block m (by omega)) (HB2.out.block _ (by omega))
      clear hb2 HB2 HO2
      go_wp2_with fail
      go_roundw
      case rel => exact ⟨_, _, _, HR2, HO2', HPM1, HB3, HS2⟩
      case measure => rw [HR2.out.left_eq, HR.out.left_eq]; exact HLT.out
end Go.Proofs.Ytoenijflijfogaa
