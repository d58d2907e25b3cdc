/- TT2 RH, joined. -/
import Derived.Test.YtlpjdfgknmfmnaaTF2
import Derived.Test.YtlpjdfgknmfmnaaTF18
import Derived.Test.YtlpjdfgknmfmnaaTF25
/- table: written: a row of entries as bytes. -/
namespace Go.Proofs.Ytlpjdfgknmfmnaa
open Go.RowKit

/-- A row of pairs in the making. -/
def MkP (w wr : World) (g n : Nat) (pre : List Pr) : Prop := ∃ cs : Array Value, wr.heap[g]? = some (.cells cs 53) ∧ cs.size = n * 2 ∧ ∀ k (hk : k < pre.length), ∃ kv vv, cs[k * 2]? = some kv ∧ cs[k * 2 + 1]? = some vv ∧ Reads w kv pre[k].1 ∧ Own wr w.heap.size vv pre[k].2
theorem MkP.below {w wr W : World} {g n : Nat} {pre : List Pr} (h : MkP w wr g n pre) (hb : Below wr.heap.size wr W) : MkP w W g n pre := by
  obtain ⟨cs, h1, h2, h3⟩ := h
  refine ⟨cs, (hb.block _ (Array.getElem?_eq_some_iff.1 h1).1).trans h1, h2, fun k hk => ?_⟩
  obtain ⟨kv, vv, g1, g2, g3, g4⟩ := h3 k hk
  exact ⟨kv, vv, g1, g2, g3, g4.below hb⟩
theorem own_stw {w W : World} {base g off : Nat} {cur : Array Value} {T : TypeId} {vs : List Value} {v : Value} {l : List UInt8} (h : Own w base v l) (hs : StW w W g off cur T vs) (hg : w.heap[g]? = some (.cells cur T)) (hT : T ≠ 5) : Own W base v l := by
  obtain ⟨h1, h2⟩ := h
  refine ⟨h1, ?_⟩
  rcases h2 with h2 | ⟨g', cap, cur', hv, hg', hw, r⟩
  · exact .inl h2
  · have hne : g' ≠ g := fun e => by subst e; rw [hg] at hw; simp at hw; exact hT hw.2
    exact .inr ⟨g', cap, cur', hv, hg', (hs.o g' hne).trans hw, r⟩
theorem MkP.put {w wr W : World} {g n : Nat} {pre : List Pr} {cur : Array Value} {kv vv : Value} {k v : List UInt8} (h : MkP w wr g n pre) (hg : wr.heap[g]? = some (.cells cur 53)) (hs : StW wr W g (pre.length * 2) cur 53 [kv, vv]) (hk : Reads w kv k) (hv : Own wr w.heap.size vv v) : MkP w W g n (pre ++ [(k, v)]) := by
  obtain ⟨cs, h1, h2, h3⟩ := h
  rw [hg] at h1
  simp only [Option.some.injEq, Obj.cells.injEq, and_true] at h1
  subst h1
  have hs0 := hs
  obtain ⟨cur', c1, c2, c3, c4⟩ := hs0.c
  refine ⟨cur', c1, by omega, fun j hj => ?_⟩
  rw [List.length_append, List.length_singleton] at hj
  by_cases he : j < pre.length
  · obtain ⟨kv', vv', g1, g2, g3, g4⟩ := h3 j he
    rw [List.getElem_append_left he]
    exact ⟨kv', vv', (c3 _ (.inl (by omega))).trans g1, (c3 _ (.inl (by omega))).trans g2, g3, own_stw g4 hs hg (by decide)⟩
  · obtain rfl : j = pre.length := by omega
    have a0 := c4 0 (by simp)
    have a1 := c4 1 (by simp)
    simp only [List.getElem_cons_zero, List.getElem_cons_succ, Nat.add_zero] at a0 a1
    simp only [List.getElem_concat_length]
    exact ⟨kv, vv, a0, a1, hk, own_stw hv hs hg (by decide)⟩
theorem MkP.reads {w wr : World} {g n : Nat} {pre : List Pr} (h : MkP w wr g n pre) (hn : pre.length = n) (hm : n ≤ maxLen) (hb : Below w.heap.size w wr) : PReads wr (.slice (some ⟨g, 0, none⟩) n n) pre := by
  obtain ⟨cs, h1, h2, h3⟩ := h
  refine ⟨_, n, by rw [hn], by omega, hm, .inr ⟨g, 0, rfl, (Array.getElem?_eq_some_iff.1 h1).1, fun j hj => ?_⟩⟩
  obtain ⟨kv, vv, g1, g2, g3, g4⟩ := h3 j hj
  have e0 : j * 2 < cs.size := by omega
  have e1 : j * 2 + 1 < cs.size := by omega
  rw [Array.getElem?_eq_getElem e0] at g1
  rw [Array.getElem?_eq_getElem e1] at g2
  refine ⟨kv, vv, ?_, ?_, g3.below hb, g4.reads⟩
  · simp only [Nat.zero_add]; simp [World.cell?, h1, e0]; simpa using g1
  · simp only [Nat.zero_add]; simp [World.cell?, h1, e1]; simpa using g2
theorem MkP.cur {w wr : World} {g n : Nat} {pre : List Pr} (h : MkP w wr g n pre) : ∃ cur, wr.heap[g]? = some (.cells cur 53) ∧ cur.size = n * 2 := by
  obtain ⟨cs, h1, h2, _⟩ := h
  exact ⟨cs, h1, h2⟩
theorem rowP_take {c : List Et} {j : Nat} (h : j < c.length) {x : Et} (hx : x = c[j]) : rowP (c.take (j + 1)) = rowP (c.take j) ++ [(x.1, wrU x.2)] := by
  subst hx
  rw [List.take_add_one, List.getElem?_eq_getElem h]
  unfold rowP
  rw [List.map_append]
  rfl
theorem madeP (n : Nat) : (madeCells #[.slice none 0 0, .slice none 0 0] (n * 2)).size = n * 2 := by simp [madeCells]
set_option maxRecDepth 100000 in
set_option maxHeartbeats 4000000 in
theorem written_any (v : Value) (L : List Et) (w : World) (h : TRd w v L) (hl : L.length ≤ 4096) : Calls Try.prog 19 #[v] w fun e w' => ∃ v', e = .returned v' ∧ Own w' w.heap.size v' (wrB (rowP L)) ∧ Below w.heap.size w w' := by
  obtain ⟨a, cap, rfl, hc, hm⟩ : ∃ a cap, v = .slice a L.length cap ∧ L.length ≤ cap ∧ cap ≤ maxLen := by obtain ⟨a, cap, h1, h2, h3, _⟩ := h; exact ⟨a, cap, h1, h2, h3⟩
  unfold maxLen at hm
  obtain ⟨i0, hi, hz0, hz1, hz2⟩ := info_parts infoP
  have hmk : ∀ w', (Instr.makeSlice 47 (.int .i64 (L.length : Int)) (.int .i64 (L.length : Int))).run Try.prog w' = .ok (.slice (some ⟨w'.heap.size, 0, none⟩) L.length L.length) (w'.alloc (.cells (madeCells #[.slice none 0 0, .slice none 0 0] (L.length * 2)) 53)) := fun w' => by
    rw [run_make w' 47 53 i0 _ Try.underlying47 hi hz0 .i64 .i64 (L.length : Int) (L.length : Int) (by omega) (by omega) (by rw [hz2]; omega) (by omega), hz1]
    rfl
  have HR : Hid (TRd w (.slice a L.length cap) L) := h
  have HQ : Hid (rowP (L.take L.length) = rowP L) := by unfold Hid; rw [List.take_length]
  obtain ⟨N, HN⟩ : ∃ n, Hid (L.length = n) := ⟨_, rfl⟩
  rw [HN.out] at HR hc hl hmk HQ ⊢
  clear h hi hz0 hz1 hz2
  go_enter Try.func19, Try.ntmps19
  go_wp2_with fail
  obtain ⟨w0, HW0⟩ := hid_ex (w.alloc (.cells (madeCells #[.slice none 0 0, .slice none 0 0] (N * 2)) 53))
  have HB0 : Hid (Below w.heap.size w w0) := by unfold Hid; rw [HW0.out]; exact (Below.refl _ _).alloc (Nat.le_refl _) _
  have HM0 : Hid (MkP w w0 w.heap.size N (rowP (L.take 0))) := by
    unfold Hid; rw [HW0.out]
    exact ⟨_, heap_alloc_new _ _, madeP N, fun k hk => by simp [rowP] at hk⟩
  rw [← HW0.out]
  clear HW0
  go_loopw [15] (fun i wr => ∃ j : Nat, i = .int .i64 (j : Int) ∧ j ≤ N ∧ Hid (MkP w wr w.heap.size N (rowP (L.take j))) ∧ Hid (Below w.heap.size w wr)) (fun i _ => N - (intOf i).toNat)
  case atStart => exact ⟨0, rfl, by omega, HM0, HB0⟩
  case round =>
    clear HM0 HB0
    obtain ⟨j, rfl, hj, HM, HB⟩ := hrel
    by_cases hlt : j < N
    · have hlt' : (j : Int) < (N : Int) := by omega
      have hjl : j < L.length := by rw [HN.out]; exact hlt
      obtain ⟨x, Hx⟩ := hid_ex L[j]
      have Hsn : Hid (rowP (L.take (j + 1)) = rowP (L.take j) ++ [(x.1, wrU x.2)]) := rowP_take hjl Hx.out
      have HLj : Hid ((rowP (L.take j)).length = j) := by unfold Hid rowP; simp; omega
      obtain ⟨b, off, kv, rfl, hbw, hcs, hrk, hag⟩ := (HR.out.below HB.out).at hjl Hx.out
      obtain ⟨_, _, kv', hbb, _, hcs', hrk', _⟩ := HR.out.at hjl Hx.out
      obtain ⟨k, A⟩ := x
      simp only at hcs hrk hag Hsn hcs' hrk'
      simp only [Option.some.injEq, Addr.mk.injEq, and_true] at hbb
      obtain ⟨rfl, rfl⟩ := hbb
      have hkv : kv' = kv := by
        have q1 := hcs' 0 (by decide)
        have q2 := hcs 0 (by decide)
        rw [HB.out.cell (p := ⟨b, off + j * 7 + 0, none⟩) (by obtain ⟨_, _, _, _, h2, _⟩ := HR.out; exact (cell_block q1).1), q1] at q2
        simpa [e7] using q2
      subst hkv
      obtain ⟨ka, kc, rfl, hkm⟩ := hrk.form
      unfold maxLen at hkm
      obtain ⟨KL, HKL⟩ : ∃ n, Hid (k.length = n) := ⟨_, rfl⟩
      rw [HKL.out] at hcs hrk' hkm
      have HRk : Hid (Reads w (.slice ka KL kc) k) := hrk'
      have HAg : Hid (AgOk A) := hag
      have c0 := hcs 0 (by decide)
      have c1 := hcs 1 (by decide)
      have c2 := hcs 2 (by decide)
      have c3 := hcs 3 (by decide)
      have c4 := hcs 4 (by decide)
      have c5 := hcs 5 (by decide)
      have c6 := hcs 6 (by decide)
      simp only [e7, List.getElem_cons_succ, List.getElem_cons_zero, Nat.add_zero] at c0 c1 c2 c3 c4 c5 c6
      have HOn : Hid (([.slice ka KL kc, .int .u64 A.c, .bool A.o, .int .i64 (hi A.s), .int .u64 (lo A.s), .int .i64 A.mn, .int .i64 A.mx] : List Value).toArray.all (·.oneCell') = true) := by unfold Hid; kernel_rfl
      clear hcs hrk hag hcs' hrk' Hx
      go_wp2_with (refine stop_store 43 _ _ rfl ?_)
      refine Stop.of ?_
      refine wpList_storeN rfl _ _ _ rfl wr.heap.size 0 [.slice ka KL kc, .int .u64 A.c, .bool A.o, .int .i64 (hi A.s), .int .u64 (lo A.s), .int .i64 A.mn, .int .i64 A.mx] rfl rfl _ _ (heap_alloc_new _ _) (by simp) (by kernel_rfl) HOn.out ?_
      intro w2 hw2
      obtain ⟨hb2, hx2, hz2⟩ := stW_nw hw2 (by simp)
      have HB2 : Hid (Below wr.heap.size wr w2) := hb2
      have HX2 : Hid (w2.heap[wr.heap.size]? = some (.cells #[.slice ka KL kc, .int .u64 A.c, .bool A.o, .int .i64 (hi A.s), .int .u64 (lo A.s), .int .i64 A.mn, .int .i64 A.mx] 43)) := hx2
      clear hw2 hb2 hx2 c0 c1 c2 c3 c4 c5 c6
      have q0 := cell_rw HX2.out 0 (by simp)
      have q1 := cell_rw HX2.out 1 (by simp)
      have q2 := cell_rw HX2.out 2 (by simp)
      have q3 := cell_rw HX2.out 3 (by simp)
      have q4 := cell_rw HX2.out 4 (by simp)
      have q5 := cell_rw HX2.out 5 (by simp)
      have q6 := cell_rw HX2.out 6 (by simp)
      simp only [List.getElem_toArray, List.getElem_cons_succ, List.getElem_cons_zero] at q0 q1 q2 q3 q4 q5 q6
      have HW : Hid (Calls Try.prog 51 #[.agg #[.int .u64 A.c, .bool A.o, .int .i64 (hi A.s), .int .u64 (lo A.s), .int .i64 A.mn, .int .i64 A.mx]] w2 _) := aggWrite_any A HAg.out w2
      obtain ⟨E, HE⟩ := hid_ex (wrE A)
      obtain ⟨U, HU⟩ := hid_ex (wrU A)
      rw [← HE.out, ← HU.out] at HW
      rw [← HU.out] at Hsn
      go_wp2_with fail
      refine HW.out.mono ?_
      clear HW
      rintro e w3 ⟨vv, rfl, ho3, hb3⟩
      have HM3 : Hid (MkP w w3 w.heap.size N (rowP (L.take j))) := (HM.out.below HB2.out).below hb3
      have HB3 : Hid (Below w.heap.size w w3) := HB.out.trans ((HB2.out.trans (hb3.mono HB2.out.size)).mono HB.out.size)
      have HX3 : Hid (w3.heap[wr.heap.size]? = some (.cells #[.slice ka KL kc, .int .u64 A.c, .bool A.o, .int .i64 (hi A.s), .int .u64 (lo A.s), .int .i64 A.mn, .int .i64 A.mx] 43)) := (hb3.block _ hz2).trans HX2.out
      have HO3 : Hid (Own w3 w.heap.size vv U) := ho3.mono (Nat.le_trans HB.out.size HB2.out.size)
      obtain ⟨va, vc, hvv, _⟩ := ho3.form
      subst hvv
      clear ho3 hb3 q0 q1 q2 q3 q4 q5 q6
      have q0 := cell_rw HX3.out 0 (by simp)
      simp only [List.getElem_toArray, List.getElem_cons_zero] at q0
      obtain ⟨cur, hcur, hcz⟩ := HM3.out.cur
      have hjz : j * 2 + 2 ≤ cur.size := by omega
      go_wp2_with (refine stop_store 53 _ _ rfl ?_)
      refine Stop.of ?_
      refine wpList_storeN rfl _ _ _ rfl w.heap.size (j * 2) [.slice ka KL kc, .slice va U.length vc] rfl rfl _ _ hcur hjz (by kernel_rfl) (by kernel_rfl) ?_
      intro w4 hw4
      have HM4 : Hid (MkP w w4 w.heap.size N (rowP (L.take (j + 1)))) := by
        unfold Hid
        rw [Hsn.out]
        refine HM3.out.put hcur ?_ HRk.out HO3.out
        rw [HLj.out]; exact hw4
      have HB4 : Hid (Below w.heap.size w w4) := HB3.out.trans (hw4.b _ (Nat.le_refl _))
      clear hw4 hcur hcz hjz
      go_wp2_with fail
      go_roundw
      case rel => exact ⟨j + 1, by go_num, by omega, HM4, HB4⟩
      case measure => simp [intOf]; omega
    · have hlt' : ¬ (j : Int) < (N : Int) := by omega
      obtain rfl : j = N := by omega
      rw [HQ.out] at HM
      have HW : Hid (Calls Try.prog 20 #[.slice (some ⟨w.heap.size, 0, none⟩) j j] wr _) := write_any _ (rowP L) wr (HM.out.reads (by unfold rowP; simp; exact HN.out) (by unfold maxLen; omega) HB.out)
      obtain ⟨E, HE⟩ := hid_ex (mbF (rowP L))
      obtain ⟨U, HU⟩ := hid_ex (wrB (rowP L))
      rw [← HE.out, ← HU.out] at HW
      go_wp2_with fail
      refine HW.out.mono ?_
      clear HW
      rintro e w3 ⟨vv, rfl, ho3, hb3⟩
      have HB3 : Hid (Below w.heap.size w w3) := HB.out.trans (hb3.mono HB.out.size)
      have HO3 : Hid (Own w3 w.heap.size vv U) := ho3.mono HB.out.size
      obtain ⟨va, vc, hvv, _⟩ := ho3.form
      subst hvv
      clear ho3 hb3
      go_wp2_with fail
      go_ret
      exact ⟨_, rfl, by rw [← HU.out]; exact HO3.out, HB3.out⟩
end Go.Proofs.Ytlpjdfgknmfmnaa

/- A drawn region with a store at its end: what is loaded ahead of it is taken in the world ahead of it. -/
namespace Go.Proofs.Ytlpjdfgknmfmnaa
open Go.RowKit

section
variable {P : Program} {ops : Array Oper} {Q : Exit → Act → World → Prop} {md : Region.Mode} {k : Nat} {St Pr : World → Prop}
/-- What holds all the time, and what holds till operation k has come up. -/
def StK (k : Nat) (St Pr : World → Prop) (L : Array Bool) (w : World) : Prop := St w ∧ (L.getD k false = false → Pr w)
def wpAnyS (P : Program) (md : Region.Mode) (ops : Array Oper) (Q : Exit → Act → World → Prop) (k : Nat) (St Pr : World → Prop) : Nat → Array Bool → Act → World → Prop
  | 0, listed, a, w => Region.ready md ops listed = [] ∧ Q .normal a w
  | fuel + 1, listed, a, w =>
    (Region.ready md ops listed = [] → Q .normal a w) ∧
    ∀ i ∈ Region.ready md ops listed, wpOp P ops Q i (fun a' w' => StK k St Pr (listed.setIfInBounds i true) w' ∧ wpAnyS P md ops Q k St Pr fuel (listed.setIfInBounds i true) a' w') a w
theorem wpAny_of_S : ∀ (fuel : Nat) (listed : Array Bool) (a : Act) (w : World), wpAnyS P md ops Q k St Pr fuel listed a w → wpAny P md ops Q fuel listed a w
  | 0, _, _, _, h => h
  | fuel + 1, _, _, _, h => ⟨h.1, fun i hi => wpOp_mono (fun a' w' h' => wpAny_of_S fuel _ a' w' h'.2) (h.2 i hi)⟩
/-- Whatever came up, what it waits for came up. -/
def Cl (md : Region.Mode) (ops : Array Oper) (L : Array Bool) : Prop := ∀ j o, ops[j]? = some o → L.getD j false = true → ∀ e ∈ o.after, Region.binds md e = true → L.getD e.on false = true
def clB (md : Region.Mode) (ops : Array Oper) (L : Array Bool) : Bool := (List.range ops.size).all fun j => !L.getD j false || match ops[j]? with | some o => o.after.all (fun e => !Region.binds md e || L.getD e.on false) | none => true
theorem clB_spec {L : Array Bool} (h : clB md ops L = true) : Cl md ops L := by
  intro j o ho hl e he hb
  have h1 := List.all_eq_true.1 h j (List.mem_range.2 (Array.getElem?_eq_some_iff.1 ho).1)
  rw [hl, ho] at h1
  simp only [Bool.not_true, Bool.false_or] at h1
  have h2 := Array.all_eq_true_iff_forall_mem.1 h1 e he
  rw [hb] at h2
  simpa using h2
theorem Cl.set {L : Array Bool} {j : Nat} (h : Cl md ops L) (hj : j ∈ Region.ready md ops L) : Cl md ops (L.setIfInBounds j true) := by
  obtain ⟨_, o, ho, hall⟩ := mem_ready.1 hj
  intro i oi hoi hl e he hb
  by_cases hij : j = i
  · subst hij
    rw [ho] at hoi
    obtain rfl : o = oi := by simpa using hoi
    exact getD_set_true (hall e he hb)
  · rw [getD_set_ne false hij] at hl
    exact getD_set_true (h i oi hoi hl e he hb)
/-- Does operation k wait for i? -/
def waits (md : Region.Mode) (ops : Array Oper) (k i : Nat) : Bool := match ops[k]? with | some o => o.after.any (fun e => Region.binds md e && e.on == i) | none => false
theorem wpAnyS_first {i : Nat} {oi : Oper} {v : Value} (hi : ops[i]? = some oi) (hsel : ∀ (j : Nat) (o : Oper) cs b, ops[j]? = some o → o.op ≠ .select cs b)
    (hQ : ∀ c a w, Q (.panic c) (a.put oi.dst v) w → Q (.panic c) a w) (hik : i ≠ k) (dep : Bool) (hdep : waits md ops k i = dep) :
    ∀ (fuel : Nat) (listed : Array Bool) (a : Act) (w : World), Cl md ops listed →
      (∀ j oj, ops[j]? = some oj → j ≠ i → listed.getD j true = false → (∀ e ∈ oj.after, Region.binds md e = true → e.on ≠ i) → oi.apart ops oj = true) →
      i ∈ Region.ready md ops listed → YieldsIf P ops (fun w' => St w' ∧ (dep = true → Pr w')) oi v a → StK k St Pr listed w →
      wpAnyS P md ops Q k St Pr fuel (listed.setIfInBounds i true) (a.put oi.dst v) w → wpAnyS P md ops Q k St Pr (fuel + 1) listed a w := by
  have hdone : ∀ (listed : Array Bool) (w : World), Cl md ops listed → i ∈ Region.ready md ops listed → StK k St Pr listed w → (St w ∧ (dep = true → Pr w)) := fun listed w hcl hr hS => by
    refine ⟨hS.1, fun hd => hS.2 ?_⟩
    subst hdep
    unfold waits at hd
    cases hok : ops[k]? with
    | none => rw [hok] at hd; cases hd
    | some ok =>
      rw [hok] at hd
      obtain ⟨e, he, hq⟩ := Array.any_eq_true'.1 hd
      simp only [Bool.and_eq_true, beq_iff_eq] at hq
      cases hl : listed.getD k false with
      | false => rfl
      | true =>
        have h1 := hcl k ok hok hl e he hq.1
        rw [hq.2] at h1
        have h0 := (mem_ready.1 hr).1
        rcases Nat.lt_or_ge i listed.size with h' | h'
        · simp [h'] at h0 h1; rw [h0] at h1; cases h1
        · simp [Array.getElem?_eq_none h'] at h1
  have hset : ∀ (listed : Array Bool) (w : World), StK k St Pr listed w → StK k St Pr (listed.setIfInBounds i true) w := fun listed w h => ⟨h.1, fun hk => h.2 (by rw [getD_set_ne false hik] at hk; exact hk)⟩
  intro fuel
  induction fuel with
  | zero =>
    intro listed a w hcl _ hr hy hS H
    refine ⟨fun h => (by rw [h] at hr; cases hr), fun j hj => ?_⟩
    by_cases hji : j = i
    · subst hji; exact YieldsIf.wpOp (S := fun w' => St w' ∧ (dep = true → Pr w')) hi hy (hdone _ _ hcl hr hS) ⟨hset _ _ hS, H⟩
    · have := ready_mono hj hji
      rw [H.1] at this
      cases this
  | succ fuel ih =>
    intro listed a w hcl hfree hr hy hS H
    refine ⟨fun h => (by rw [h] at hr; cases hr), fun j hj => ?_⟩
    by_cases hji : j = i
    · subst hji; exact YieldsIf.wpOp (S := fun w' => St w' ∧ (dep = true → Pr w')) hi hy (hdone _ _ hcl hr hS) ⟨hset _ _ hS, H⟩
    · have h1 := H.2 j (ready_mono hj hji)
      obtain ⟨hjun, oj, hoj, hall⟩ := mem_ready.1 hj
      have hnot : ∀ e ∈ oj.after, Region.binds md e = true → e.on ≠ i := fun e he hb heq => by
        have h1 := hall e he hb
        have h0 := (mem_ready.1 hr).1
        rw [heq] at h1
        rcases Nat.lt_or_ge i listed.size with h' | h'
        · simp [h'] at h0 h1; rw [h0] at h1; cases h1
        · simp [Array.getElem?_eq_none h'] at h1
      have h2 := wpOp_putIf hoj (hfree j oj hoj hji hjun hnot) (fun cs b => hsel i oi cs b hi) (fun cs b => hsel j oj cs b hoj) hQ hy h1
      have hfree' : ∀ k ok, ops[k]? = some ok → k ≠ i → (listed.setIfInBounds j true).getD k true = false →
          (∀ e ∈ ok.after, Region.binds md e = true → e.on ≠ i) → oi.apart ops ok = true := fun k ok hk hki hun hno => by
        refine hfree k ok hk hki ?_ hno
        by_cases hjk : j = k
        · subst hjk; exact hjun
        · rw [getD_set_ne true hjk] at hun; exact hun
      refine wpOp_mono (fun a' w' h3 => ?_) h2
      have hS' : StK k St Pr (listed.setIfInBounds j true) w' := ⟨h3.2.1.1, fun hk => h3.2.1.2 (by
        rw [Array.setIfInBounds_comm _ _ (Ne.symm hji), getD_set_ne false hik]; exact hk)⟩
      refine ⟨hS', ih (listed.setIfInBounds j true) a' w' (hcl.set hj) hfree' (ready_mono hr (Ne.symm hji)) h3.1 hS' ?_⟩
      rw [Array.setIfInBounds_comm _ _ hji]
      exact h3.2.2
theorem wpAnyS_take {i : Nat} {oi : Oper} {v : Value} {fuel : Nat} {listed : Array Bool} {a : Act} {w : World} (dep : Bool) (hi : ops[i]? = some oi)
    (hs : Region.noSelect ops = true) (hf : Region.free md ops listed i = true) (hr : (Region.ready md ops listed).contains i = true) (hcl : clB md ops listed = true) (hik : Nat.beq i k = false) (hdep : waits md ops k i = dep)
    (hQ : ∀ c a w, Q (.panic c) (a.put oi.dst v) w → Q (.panic c) a w) (hy : YieldsIf P ops (fun w' => St w' ∧ (dep = true → Pr w')) oi v a) (hS : StK k St Pr listed w)
    (h : StK k St Pr (listed.setIfInBounds i true) w → wpAnyS P md ops Q k St Pr fuel (listed.setIfInBounds i true) (a.put oi.dst v) w) : wpAnyS P md ops Q k St Pr (fuel + 1) listed a w := by
  have hne : i ≠ k := fun e => by subst e; simp at hik
  exact wpAnyS_first hi (Region.noSelect_spec hs) hQ hne dep hdep fuel listed a w (clB_spec hcl) (Region.free_spec hi hf) (by simpa using hr) hy hS (h ⟨hS.1, fun hk => hS.2 (by rw [getD_set_ne false hne] at hk; exact hk)⟩)
theorem wpAnyS_ready {i : Nat} {o : Oper} {fuel : Nat} {listed : Array Bool} {a : Act} {w : World} (hr : Region.ready md ops listed = [i]) (ho : ops[i]? = some o)
    (h : ∀ K : Act → World → Prop, Shut (∀ a w, StK k St Pr (listed.setIfInBounds i true) w → (StK k St Pr (listed.setIfInBounds i true) w → wpAnyS P md ops Q k St Pr fuel (listed.setIfInBounds i true) a w) → K a w) → if Region.wanted o (yielded ops a.tmps) = true then Oper.wp P o a w K Q else K (a.put o.dst undef) w) : wpAnyS P md ops Q k St Pr (fuel + 1) listed a w := by
  refine ⟨fun h0 => (by rw [hr] at h0; cases h0), fun j hj => ?_⟩
  rw [hr] at hj
  obtain rfl : j = i := by simpa using hj
  exact wpOp_step ho (fun K' hK => h K' (fun a w h1 h2 => hK a w ⟨h1, h2 h1⟩))
theorem wpAnyS_done {listed : Array Bool} {a : Act} {w : World} (hr : Region.ready md ops listed = []) (h : Q .normal a w) : ∀ fuel, wpAnyS P md ops Q k St Pr fuel listed a w
  | 0 => ⟨hr, h⟩
  | _ + 1 => ⟨fun _ => h, by rw [hr]; simp⟩
theorem wp_region_S {id : Nat} {a : Act} {w : World} (k : Nat) (St Pr : World → Prop) (hm : P.follows .mixedOrders = true) (hS : St w.drew) (hP : Pr w.drew)
    (h : StK k St Pr (Array.replicate ops.size false) w.drew → wpAnyS P .any ops Q k St Pr ops.size (Array.replicate ops.size false) a w.drew) : (Code.region id ops true).wp P Q a w :=
  wp_region_any hm (wpAny_of_S _ _ _ _ (h ⟨hS, fun _ => hP⟩))
end
end Go.Proofs.Ytlpjdfgknmfmnaa
