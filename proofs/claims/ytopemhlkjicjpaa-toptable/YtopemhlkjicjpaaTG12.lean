/- SS AK TN8 TA1, joined. -/
import Derived.Test.YtopemhlkjicjpaaTG1
import Derived.Test.YtopemhlkjicjpaaTG11
import Derived.Deep.MidRow
import Derived.Below
/- A struct is stored: the world behind it, by name. -/
namespace Go.Proofs.Ytopemhlkjicjpaa
open Go.RowKit

/-- W is w, but for some cells of one block. -/
structure StW (w W : World) (g off : Nat) (cur : Array Value) (T : TypeId) (vs : List Value) : Prop where
  b : ∀ lo, lo ≤ g → Below lo w W
  o : ∀ k, k ≠ g → W.heap[k]? = w.heap[k]?
  c : ∃ cur', W.heap[g]? = some (.cells cur' T) ∧ cur'.size = cur.size ∧ (∀ k, k < off ∨ off + vs.length ≤ k → cur'[k]? = cur[k]?) ∧ ∀ i (hi : i < vs.length), cur'[off + i]? = some vs[i]
theorem stW_cells (g : Nat) (T : TypeId) : ∀ (vs : List Value) (off : Nat) (w : World) (cur : Array Value), w.heap[g]? = some (.cells cur T) → off + vs.length ≤ cur.size → StW w (w.setCells g off vs) g off cur T vs
  | [], off, w, cur, hg, _ => ⟨fun lo _ => Below.refl _ _, fun _ _ => rfl, ⟨cur, hg, rfl, fun _ _ => rfl, fun i hi => by simp at hi⟩⟩
  | v :: r, off, w, cur, hg, hl => by
    have h1 := heap_setCell_same w g off cur T v hg
    have ih := stW_cells g T r (off + 1) (w.setCell ⟨g, off, none⟩ v) (cur.setIfInBounds off v) h1 (by simp at hl ⊢; omega)
    have e : w.setCells g off (v :: r) = (w.setCell ⟨g, off, none⟩ v).setCells g (off + 1) r := rfl
    rw [e]
    obtain ⟨cur', c1, c2, c3, c4⟩ := ih.c
    refine ⟨fun lo hlo => ((Below.refl _ _).setCell hlo _).trans (ih.b lo hlo), fun k hk => (ih.o k hk).trans (Below.heap_setCell _ _ _ _ hk), ⟨cur', c1, by simpa using c2, fun k hk => ?_, fun i hi => ?_⟩⟩
    · simp at hk
      rw [c3 k (by omega), Array.getElem?_setIfInBounds_ne (by omega)]
    · cases i with
      | zero =>
        have hs : off < cur.size := by simp at hl; omega
        rw [Nat.add_zero, c3 off (.inl (by omega))]
        simp [hs]
      | succ i =>
        have := c4 i (by simpa using hi)
        rw [show off + (i + 1) = off + 1 + i by omega, this]
        simp
section
variable {ops : Array Oper} {rest : List Oper} {op : Oper} {a : Act} {w : World} {Q : Exit → Act → World → Prop}
theorem there_of {g off n : Nat} {cur : Array Value} {T : TypeId} (hg : w.heap[g]? = some (.cells cur T)) (hl : off + n ≤ cur.size) : w.there g off n := fun j hj => ⟨by
  have : off + j < cur.size := by omega
  simp [World.cell?, hg, this], by simp [World.frozen?, hg]⟩
theorem wp_storeN {K : Act → World → Prop} (ty : TypeId) (x y : Operand) (ho : op.op = .store ty x y) (g off : Nat) (vs : List Value) (hx : a.eval x = .pointer (some ⟨g, off, none⟩)) (hy : a.eval y = .agg vs.toArray)
    (cur : Array Value) (T : TypeId) (hg : w.heap[g]? = some (.cells cur T)) (hl : off + vs.length ≤ cur.size) (hi : (Try.prog.info? ty).map (·.size) = some vs.length) (h1 : vs.toArray.all (·.oneCell') = true)
    (h : ∀ W, StW w W g off cur T vs → K (a.put op.dst undef) W) : op.wp Try.prog a w K Q :=
  wp_store_mid ty x y ho g off vs.toArray hx hy (there_of hg (by simpa using hl)) (by simpa using hi) h1 (h _ (stW_cells g T vs off w cur hg hl))
theorem wpList_storeN (hgd : op.guard = none) (ty : TypeId) (x y : Operand) (ho : op.op = .store ty x y) (g off : Nat) (vs : List Value) (hx : a.eval x = .pointer (some ⟨g, off, none⟩)) (hy : a.eval y = .agg vs.toArray)
    (cur : Array Value) (T : TypeId) (hg : w.heap[g]? = some (.cells cur T)) (hl : off + vs.length ≤ cur.size) (hi : (Try.prog.info? ty).map (·.size) = some vs.length) (h1 : vs.toArray.all (·.oneCell') = true)
    (h : ∀ W, StW w W g off cur T vs → wpList Try.prog ops Q rest (a.put op.dst undef) W) : wpList Try.prog ops Q (op :: rest) a w :=
  wpList_plain hgd fun _ hK => wp_storeN ty x y ho g off vs hx hy cur T hg hl hi h1 (fun W hW => hK _ _ (h W hW))
/-- The walk stands still here. -/
structure Stop (p : Prop) : Prop where
  out : p
theorem stop_store (ty : TypeId) (x y : Operand) (_ho : op.op = .store ty x y) (h : Stop (wpList Try.prog ops Q (op :: rest) a w)) : wpList Try.prog ops Q (op :: rest) a w := h.out
theorem Stop.of {p : Prop} (h : p) : Stop p := ⟨h⟩
end
end Go.Proofs.Ytopemhlkjicjpaa

/- An append that leaves what is no byte as it is. -/
namespace Go.Proofs.Ytopemhlkjicjpaa
open Go.RowKit

/-- All cells but bytes stand. -/
def Kn (A B : World) : Prop := ∀ (c : Nat) (cs : Array Value) (T : TypeId) (fr : Nat × Nat), T ≠ 5 → A.heap[c]? = some (.cells cs T fr) → B.heap[c]? = some (.cells cs T fr)
theorem Kn.refl (A : World) : Kn A A := fun _ _ _ _ _ h => h
theorem Kn.of_below {A B : World} (h : Below A.heap.size A B) : Kn A B := fun c _ _ _ _ hc => (h.block c (Array.getElem?_eq_some_iff.1 hc).1).trans hc
theorem Kn.trans {A B C : World} (h : Kn A B) (k : Kn B C) : Kn A C := fun c cs T fr h1 hc => k c cs T fr h1 (h c cs T fr h1 hc)
theorem kn_grown {w w' : World} {base : Nat} {v : Value} {L : List UInt8} (hown : Own w base v L) (hg : w.grownBy w' v.ownBlock) : Kn w w' := by
  intro c cs T fr hT hc
  rw [hg.block c (Array.getElem?_eq_some_iff.1 hc).1 ?_]
  · exact hc
  · intro e
    rcases hown.2 with ⟨rfl, _⟩ | ⟨g, cap, cur, rfl, _, hgb, _⟩
    · simp [Value.ownBlock] at e
    · obtain rfl : c = g := by simpa [Value.ownBlock] using e
      rw [hc] at hgb
      simp at hgb
      exact hT hgb.2.1
theorem cell_rw {w : World} {b : Nat} {cs : Array Value} {T : TypeId} (h : w.heap[b]? = some (.cells cs T)) (i : Nat) (hi : i < cs.size) : w.cell? ⟨b, i, none⟩ = some cs[i] := by
  simp [World.cell?, h, hi]
theorem wpList_appK {w : World} {ops : Array Oper} {rest : List Oper} {o : Oper} {a : Act} {Q : Exit → Act → World → Prop} (hgd : o.guard = none) (s x : Operand)
    (ho : o.op = .call { callee := .builtin .append, args := #[s, x], argTypes := #[23, 23] })
    (base : Nat) (v vx : Value) (L l M : List UInt8) (hM : M = L ++ l) (hs : a.eval s = v) (hx : a.eval x = vx) (hown : Own w base v L) (hr : Reads w vx l)
    (hlen : L.length + l.length ≤ 140737488355328) (hbase : base ≤ w.heap.size)
    (h : ∀ v' w', Own w' base v' M → Hid (Below base w w') → Hid (Kn w w') → wpList Try.prog ops Q rest (a.put o.dst v') w') : wpList Try.prog ops Q (o :: rest) a w := by
  subst hM
  obtain ⟨i0, hi, hz0, hz1, hz2⟩ := info_parts info5
  rcases hr with ⟨rfl, ad, cap, rfl, hn⟩ | ⟨b, off, cap, rfl, h2, h3, h4, h5, h6⟩
  · cases ad with
    | none =>
      obtain rfl := hn rfl
      refine wpList_append_own_none hgd s x 23 ho base 5 i0 1 Try.underlying23 hi v L.length (L.map bc) hs hown hx ?_
      exact h v w (by rw [List.append_nil]; exact hown) (Below.refl _ _) (Kn.refl _)
    | some ad =>
      refine wpList_append_own w hgd s x 23 ho base 5 i0 (.int .u8 0) 1 1 Try.underlying23 hi hz0 hz1 hz2 rfl (by decide) v L.length (L.map bc) hs hown ad 0 cap [] hx (by simp) (by intro j u hj; simp at hj) (by intro u hu; simp at hu) (by simp [maxLen] at *; omega) (by simp at *; omega) hbase ?_
      intro v' w' hown' hgrow _
      refine h v' w' ?_ ((Below.refl _ _).grown hgrow hbase (own_block hown)) (kn_grown hown hgrow)
      unfold Own; simpa using hown'
  · refine wpList_append_own w hgd s x 23 ho base 5 i0 (.int .u8 0) 1 1 Try.underlying23 hi hz0 hz1 hz2 rfl (by decide) v L.length (L.map bc) hs hown ⟨b, off, none⟩ l.length cap (l.map bc) hx (by simp) (newsR h6) one_bc (by simp [maxLen] at *; omega) (by simp at *; omega) hbase ?_
    intro v' w' hown' hgrow _
    refine h v' w' ?_ ((Below.refl _ _).grown hgrow hbase (own_block hown)) (kn_grown hown hgrow)
    unfold Own; rw [List.length_append, List.map_append]; exact hown'
end Go.Proofs.Ytopemhlkjicjpaa

/- Stores into what is new. -/
namespace Go.Proofs.Ytopemhlkjicjpaa
open Go.RowKit

theorem stW_nw {w W : World} {b0 : Array Value} {T : TypeId} {vs : List Value} (h : StW (w.alloc (.cells b0 T)) W w.heap.size 0 b0 T vs) (hb : b0.size = vs.length) : Below w.heap.size w W ∧ W.heap[w.heap.size]? = some (.cells vs.toArray T) ∧ w.heap.size < W.heap.size := by
  have hbl : Below w.heap.size w W := ((Below.refl _ _).alloc (Nat.le_refl _) _).trans (h.b _ (Nat.le_refl _))
  obtain ⟨cur, h1, h2, _, h4⟩ := h.c
  have e : cur = vs.toArray := by
    apply Array.ext (by simp; omega)
    intro i hi hj
    have := h4 i (by simpa using hj)
    rw [Nat.zero_add, Array.getElem?_eq_getElem hi] at this
    simpa using this
  rw [e] at h1
  exact ⟨hbl, h1, (Array.getElem?_eq_some_iff.1 h1).1⟩
end Go.Proofs.Ytopemhlkjicjpaa

/- table: mayBe. -/
namespace Go.Proofs.Ytopemhlkjicjpaa
open Go.RowKit

/-- An entry. -/
abbrev Et := List UInt8 × Ag
def e7 (kv : Value) (a : Ag) : List Value := [kv, .int .u64 a.c, .bool a.o, .int .i64 (hi a.s), .int .u64 (lo a.s), .int .i64 a.mn, .int .i64 a.mx]
/-- A slice of entries. -/
def TRd (w : World) (v : Value) (L : List Et) : Prop := ∃ a cap, v = .slice a L.length cap ∧ L.length ≤ cap ∧ cap ≤ maxLen ∧ ∀ j (hj : j < L.length), ∃ b off kv, a = some ⟨b, off, none⟩ ∧ b < w.heap.size ∧ (∀ i (hi : i < 7), w.cell? ⟨b, off + j * 7 + i, none⟩ = some ((e7 kv L[j].2)[i]'hi)) ∧ Reads w kv L[j].1 ∧ AgOk L[j].2
theorem TRd.below {w w' : World} {v : Value} {L : List Et} (h : TRd w v L) (hb : Below w.heap.size w w') : TRd w' v L := by
  obtain ⟨a, cap, h1, h2, h3, h4⟩ := h
  refine ⟨a, cap, h1, h2, h3, fun j hj => ?_⟩
  obtain ⟨b, off, kv, g1, g2, g3, g4, g5⟩ := h4 j hj
  exact ⟨b, off, kv, g1, Nat.lt_of_lt_of_le g2 hb.size, fun i hi => (hb.cell g2).trans (g3 i hi), g4.below hb, g5⟩
theorem TRd.at {w : World} {a : Option Addr} {n cap : Nat} {L : List Et} (h : TRd w (.slice a n cap) L) {j : Nat} (hj : j < L.length) {x : Et} (hx : x = L[j]) : ∃ b off kv, a = some ⟨b, off, none⟩ ∧ b < w.heap.size ∧ (∀ i (hi : i < 7), w.cell? ⟨b, off + j * 7 + i, none⟩ = some ((e7 kv x.2)[i]'hi)) ∧ Reads w kv x.1 ∧ AgOk x.2 := by
  obtain ⟨a', cap', e, _, _, h4⟩ := h
  simp only [Value.slice.injEq] at e
  obtain ⟨rfl, _, _⟩ := e
  subst hx
  exact h4 j hj
/-- What mayBe answers, behind a key. -/
def tmB : List UInt8 → List Et → Int
  | _, [] => 0
  | p, x :: l => if x.1.length < 1 ∨ 256 < x.1.length then 40 else if x.2.c = 0 ∨ rightB x.2 = false then 3 else if 0 ≤ Lib.compareBytes p x.1 then 50 else tmB x.1 l
def tmF (l : List Et) : Int := if 4096 < l.length then 2 else tmB [] l
set_option maxRecDepth 100000 in
set_option maxHeartbeats 4000000 in
theorem tmayBe_any (v : Value) (L : List Et) (w : World) (h : TRd w v L) : Calls Try.prog 26 #[v] w fun e w' => e = .returned (.int .i64 (tmF L)) ∧ Below w.heap.size w w' := by
  obtain ⟨a, cap, rfl, hc, hm⟩ : ∃ a cap, v = .slice a L.length cap ∧ L.length ≤ cap ∧ cap ≤ maxLen := by obtain ⟨a, cap, h1, h2, h3, _⟩ := h; exact ⟨a, cap, h1, h2, h3⟩
  unfold maxLen at hm
  have HR : Hid (TRd w (.slice a L.length cap) L) := h
  obtain ⟨N, HN⟩ : ∃ n, Hid (L.length = n) := ⟨_, rfl⟩
  rw [HN.out] at HR hc ⊢
  obtain ⟨R, HRe⟩ := hid_ex (tmF L)
  rw [← HRe.out]
  clear h
  go_enter Try.func26, Try.ntmps26
  by_cases h1 : 4096 < N
  · have h1' : (4096 : Int) < (N : Int) := by omega
    have HE : Hid (R = 2) := by unfold Hid; rw [HRe.out]; unfold tmF; rw [HN.out, if_pos h1]
    go_wp2_with fail
    go_ret
    exact ⟨by rw [HE.out]; rfl, Below.refl _ _⟩
  · have h1' : ¬ (4096 : Int) < (N : Int) := by omega
    have HE : Hid (R = tmB [] L) := by unfold Hid; rw [HRe.out]; unfold tmF; rw [HN.out, if_neg h1]
    clear HRe
    go_wp2_with fail
    go_loopw [3, 11] (fun o i wr => ∃ (j : Nat) (p : List UInt8), i = .int .i64 (j : Int) ∧ j ≤ N ∧ Hid (Reads wr o p) ∧ Hid (R = tmB p (L.drop j)) ∧ Hid (Below w.heap.size w wr)) (fun _ i _ => N - (intOf i).toNat)
    case atStart => exact ⟨0, [], rfl, by omega, .inl ⟨rfl, none, 0, rfl, fun _ => rfl⟩, HE, Below.refl _ _⟩
    case round =>
      obtain ⟨j, p, rfl, hj, HO, HT, HB⟩ := hrel
      by_cases hlt : j < N
      · have hlt' : (j : Int) < (N : Int) := by omega
        have hjl : j < L.length := by rw [HN.out]; exact hlt
        obtain ⟨x, Hx⟩ := hid_ex L[j]
        have Hdr : Hid (L.drop j = x :: L.drop (j + 1)) := by unfold Hid; rw [Hx.out]; exact List.drop_eq_getElem_cons hjl
        obtain ⟨b, off, kv, rfl, hbw, hcs, hrk, hag⟩ := (HR.out.below HB.out).at hjl Hx.out
        obtain ⟨k, A⟩ := x
        simp only at hcs hrk hag
        obtain ⟨ka, kc, rfl, hkm⟩ := hrk.form
        unfold maxLen at hkm
        obtain ⟨oa, oc, hov, _⟩ := HO.out.form
        subst hov
        obtain ⟨KL, HKL⟩ : ∃ n, Hid (k.length = n) := ⟨_, rfl⟩
        obtain ⟨PL, HPL⟩ : ∃ n, Hid (p.length = n) := ⟨_, rfl⟩
        rw [HKL.out] at hcs hrk hkm
        rw [HPL.out] at HO ⊢
        have HRk : Hid (Reads wr (.slice ka KL kc) k) := hrk
        have c0 := hcs 0 (by decide)
        have c1 := hcs 1 (by decide)
        have c2 := hcs 2 (by decide)
        have c3 := hcs 3 (by decide)
        have c4 := hcs 4 (by decide)
        have c5 := hcs 5 (by decide)
        have c6 := hcs 6 (by decide)
        simp only [e7, List.getElem_cons_succ, List.getElem_cons_zero, Nat.add_zero] at c0 c1 c2 c3 c4 c5 c6
        have HOn : Hid (([.slice ka KL kc, .int .u64 A.c, .bool A.o, .int .i64 (hi A.s), .int .u64 (lo A.s), .int .i64 A.mn, .int .i64 A.mx] : List Value).toArray.all (·.oneCell') = true) := by unfold Hid; kernel_rfl
        clear hcs hrk hag Hx
        go_wp2_with (refine stop_store 36 _ _ rfl ?_)
        refine Stop.of ?_
        refine wpList_storeN rfl _ _ _ rfl wr.heap.size 0 [.slice ka KL kc, .int .u64 A.c, .bool A.o, .int .i64 (hi A.s), .int .u64 (lo A.s), .int .i64 A.mn, .int .i64 A.mx] rfl rfl _ _ (heap_alloc_new _ _) (by simp) (by kernel_rfl) HOn.out ?_
        intro w2 hw2
        obtain ⟨hb2, hx2, hz2⟩ := stW_nw hw2 (by simp)
        have HB2 : Hid (Below w.heap.size w w2) := HB.out.trans (hb2.mono HB.out.size)
        have HRk2 : Hid (Reads w2 (.slice ka KL kc) k) := HRk.out.below hb2
        have HO2 : Hid (Reads w2 (.slice oa PL oc) p) := HO.out.below hb2
        have HX2 : Hid (w2.heap[wr.heap.size]? = some (.cells #[.slice ka KL kc, .int .u64 A.c, .bool A.o, .int .i64 (hi A.s), .int .u64 (lo A.s), .int .i64 A.mn, .int .i64 A.mx] 36)) := hx2
        clear hw2 hb2 hx2 c0 c1 c2 c3 c4 c5 c6
        have q0 := cell_rw HX2.out 0 (by simp)
        have q1 := cell_rw HX2.out 1 (by simp)
        have q2 := cell_rw HX2.out 2 (by simp)
        have q3 := cell_rw HX2.out 3 (by simp)
        have q4 := cell_rw HX2.out 4 (by simp)
        have q5 := cell_rw HX2.out 5 (by simp)
        have q6 := cell_rw HX2.out 6 (by simp)
        simp only [List.getElem_toArray, List.getElem_cons_succ, List.getElem_cons_zero] at q0 q1 q2 q3 q4 q5 q6
        by_cases g1 : KL < 1
        · have g1' : (KL : Int) < 1 := by omega
          have HQ : Hid (R = 40) := by unfold Hid; rw [HT.out, Hdr.out, tmB, if_pos (.inl (by rw [HKL.out]; exact g1))]
          go_wp2_with fail
          go_ret
          exact ⟨by rw [HQ.out]; rfl, HB2.out⟩
        · have g1' : ¬ (KL : Int) < 1 := by omega
          by_cases g2 : 256 < KL
          · have g2' : (256 : Int) < (KL : Int) := by omega
            have HQ : Hid (R = 40) := by unfold Hid; rw [HT.out, Hdr.out, tmB, if_pos (.inr (by rw [HKL.out]; exact g2))]
            go_wp2_with fail
            go_ret
            exact ⟨by rw [HQ.out]; rfl, HB2.out⟩
          · have g2' : ¬ (256 : Int) < (KL : Int) := by omega
            have d2 : decide ((256 : Int) < (KL : Int)) = false := decide_eq_false g2'
            have HT2 : Hid (R = if A.c = 0 ∨ rightB A = false then 3 else if 0 ≤ Lib.compareBytes p k then 50 else tmB k (L.drop (j + 1))) := by unfold Hid; rw [HT.out, Hdr.out, tmB, if_neg (by rw [HKL.out]; omega)]
            by_cases g3 : A.c = 0
            · have HQ : Hid (R = 3) := by unfold Hid; rw [HT2.out, if_pos (.inl g3)]
              go_wp2_with fail
              go_ret
              exact ⟨by rw [HQ.out]; rfl, HB2.out⟩
            · have g3' : (A.c == 0) = false := by simpa using g3
              have HRt : Hid (Calls Try.prog 44 #[.agg #[.int .u64 A.c, .bool A.o, .int .i64 (hi A.s), .int .u64 (lo A.s), .int .i64 A.mn, .int .i64 A.mx]] w2 _) := right_any A w2
              obtain ⟨rb, Hrb⟩ := hid_ex (rightB A)
              rw [← Hrb.out] at HRt HT2
              go_wp2_with fail
              refine HRt.out.mono ?_
              clear HRt
              rintro e w3 ⟨rfl, hb3⟩
              have HB3 : Hid (Below w.heap.size w w3) := HB2.out.trans (hb3.mono HB2.out.size)
              have HX3 : Hid (w3.heap[wr.heap.size]? = some (.cells #[.slice ka KL kc, .int .u64 A.c, .bool A.o, .int .i64 (hi A.s), .int .u64 (lo A.s), .int .i64 A.mn, .int .i64 A.mx] 36)) := (hb3.block _ hz2).trans HX2.out
              have HRk3 : Hid (Reads w3 (.slice ka KL kc) k) := HRk2.out.below hb3
              have HO3 : Hid (Reads w3 (.slice oa PL oc) p) := HO2.out.below hb3
              clear hb3 q0 q1 q2 q3 q4 q5 q6
              cases rb with
              | false =>
                have HQ : Hid (R = 3) := by unfold Hid; rw [HT2.out, if_pos (.inr rfl)]
                go_wp2_with fail
                go_ret
                exact ⟨by rw [HQ.out]; rfl, HB3.out⟩
              | true =>
                have q0 := cell_rw HX3.out 0 (by simp)
                simp only [List.getElem_toArray, List.getElem_cons_zero] at q0
                have HT3 : Hid (R = if 0 ≤ Lib.compareBytes p k then 50 else tmB k (L.drop (j + 1))) := by unfold Hid; rw [HT2.out, if_neg (by simp [g3])]
                have HCm : Hid (Calls Try.prog 43 #[.slice oa PL oc, .slice ka KL kc] w3 _) := cmp_any _ _ p k w3 HO3.out HRk3.out
                obtain ⟨C, HC⟩ := hid_ex (Lib.compareBytes p k)
                rw [← HC.out] at HCm HT3
                go_wp2_with fail
                refine HCm.out.mono ?_
                clear HCm
                rintro e w4 ⟨rfl, rfl⟩
                by_cases g4 : 0 ≤ C
                · have HQ : Hid (R = 50) := by unfold Hid; rw [HT3.out, if_pos g4]
                  go_wp2_with fail
                  go_ret
                  exact ⟨by rw [HQ.out]; rfl, HB3.out⟩
                · have HQ : Hid (R = tmB k (L.drop (j + 1))) := by unfold Hid; rw [HT3.out, if_neg g4]
                  go_wp2_with fail
                  go_roundw
                  case rel => exact ⟨j + 1, k, by go_num, by omega, HRk3, HQ, HB3⟩
                  case measure => simp [intOf]; omega
      · have hlt' : ¬ (j : Int) < (N : Int) := by omega
        have HQ : Hid (R = 0) := by unfold Hid; rw [HT.out, List.drop_eq_nil_of_le (by rw [HN.out]; omega)]; rfl
        go_wp2_with fail
        go_ret
        exact ⟨by rw [HQ.out]; rfl, HB.out⟩
end Go.Proofs.Ytopemhlkjicjpaa
