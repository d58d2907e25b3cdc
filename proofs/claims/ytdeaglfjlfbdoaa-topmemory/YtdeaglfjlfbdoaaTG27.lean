/- SV3 SV4 TM3, joined. -/
import Derived.Test.YtdeaglfjlfbdoaaTG12
import Derived.Test.YtdeaglfjlfbdoaaTG20
import Derived.Test.YtdeaglfjlfbdoaaTG21
import Derived.Test.YtdeaglfjlfbdoaaTG25
import Derived.Test.YtdeaglfjlfbdoaaTG26
/- Entries that are copied from row to row, with their keys' slices as they are (skip's seat; out of MA2). -/
namespace Go.Proofs.Ytdeaglfjlfbdoaa
open Go.RowKit

/-- A slice holds these entries. -/
def ERc (w : World) (v : Value) (xs : List Ev) : Prop :=
  ∃ a cap, v = .slice a xs.length cap ∧ xs.length ≤ cap ∧ cap ≤ maxLen ∧ (xs = [] ∨ ∃ b off, a = some ⟨b, off, none⟩ ∧ b < w.heap.size ∧ ∀ j (hj : j < xs.length) i (hi : i < 7), w.cell? ⟨b, off + (7 * j + i), none⟩ = some ((c7 xs[j])[i]'hi))
/-- What they hold can be read. -/
def EvR (w : World) (xs : List Ev) : Prop := ∀ x ∈ xs, Reads w x.kv x.k
theorem EvR.below {w w' : World} {xs : List Ev} (h : EvR w xs) (hb : Below w.heap.size w w') : EvR w' xs := fun x hx => (h x hx).below hb
theorem ERc.below {w w' : World} {v : Value} {xs : List Ev} (h : ERc w v xs) (hb : Below w.heap.size w w') : ERc w' v xs := by
  obtain ⟨a, cap, rfl, h1, h2, h3⟩ := h
  refine ⟨a, cap, rfl, h1, h2, ?_⟩
  rcases h3 with h3 | ⟨b, off, h4, h5, h6⟩
  · exact .inl h3
  · exact .inr ⟨b, off, h4, Nat.lt_of_lt_of_le h5 hb.size, fun j hj i hi => (hb.cell (p := ⟨b, off + (7 * j + i), none⟩) h5).trans (h6 j hj i hi)⟩
theorem ERc.form {w : World} {v : Value} {xs : List Ev} (h : ERc w v xs) : ∃ a cap, v = .slice a xs.length cap ∧ xs.length ≤ cap ∧ cap ≤ maxLen := by
  obtain ⟨a, cap, rfl, h1, h2, _⟩ := h
  exact ⟨a, cap, rfl, h1, h2⟩
theorem ERc.ptr {w : World} {a : Option Addr} {n cap : Nat} {xs : List Ev} (h : ERc w (.slice a n cap) xs) (h0 : 0 < xs.length) : ∃ b off, a = some ⟨b, off, none⟩ ∧ b < w.heap.size ∧ ∀ j (hj : j < xs.length) i (hi : i < 7), w.cell? ⟨b, off + (7 * j + i), none⟩ = some ((c7 xs[j])[i]'hi) := by
  obtain ⟨a', cap', hv, h1, h2, h3⟩ := h
  simp at hv
  obtain ⟨rfl, rfl, rfl⟩ := hv
  rcases h3 with rfl | h3
  · simp at h0
  · exact h3
theorem ERc.sliced {w : World} {a : Option Addr} {cap : Nat} {xs : List Ev} (h : ERc w (.slice a xs.length cap) xs) {c d : Nat} (hc : c ≤ d) (hd : d ≤ xs.length) : ERc w (Go.sliced a c d cap 7) ((xs.take d).drop c) := by
  obtain ⟨a', cap', hv, h1, h2, h3⟩ := h
  simp at hv
  obtain ⟨rfl, rfl⟩ := hv
  unfold Go.sliced
  have hl : ((xs.take d).drop c).length = d - c := by simp; omega
  refine ⟨_, cap - c, by rw [hl], by rw [hl]; omega, by omega, ?_⟩
  rcases Nat.eq_zero_or_pos (d - c) with h0 | h0
  · exact .inl (List.length_eq_zero_iff.1 (by rw [hl]; exact h0))
  · right
    rcases h3 with rfl | ⟨b, off, rfl, h5, h6⟩
    · simp at hd; omega
    · rw [if_neg (by omega)]
      refine ⟨b, off + c * 7, by simp [Addr.add], h5, fun j hj i hi => ?_⟩
      rw [hl] at hj
      rw [show off + c * 7 + (7 * j + i) = off + (7 * (c + j) + i) by omega, h6 (c + j) (by omega) i hi]
      congr 2
      simp
theorem elemE : Try.prog.elem 49 = 47 := by kernel_rfl
theorem undE : Try.prog.underlying 49 = some (.slice (Try.prog.elem 49)) := by rw [elemE]; exact Try.underlying49
theorem sizeE7 (w : World) : (sizeOf 47).run Try.prog w = .ok 7 w := by
  simp [sizeOf]
  rfl
theorem esl_upto {w : World} {a : Option Addr} {cap : Nat} {xs : List Ev} (h : ERc w (.slice a xs.length cap) xs) {d : Nat} (hd : d ≤ xs.length) :
    ∃ a' cap', (∀ w', (Instr.slice 49 (.slice a xs.length cap) none (some (.int .i64 (d : Int))) none).run Try.prog w' = .ok (.slice a' d cap') w') ∧ ERc w (.slice a' d cap') (xs.take d) := by
  have hcap : xs.length ≤ cap := by obtain ⟨a', cap', hv, h1, _⟩ := h; simp at hv; omega
  have hs := h.sliced (Nat.zero_le d) hd
  refine ⟨(if cap = 0 then a else a.map (·.add (0 * 7))), cap - 0, fun w' => ?_, hs⟩
  rw [run_slice_h _ _ _ _ _ undE _ _ (by omega) (by omega), elemE, sizeE7]
  rfl
theorem esl_from {w : World} {a : Option Addr} {cap : Nat} {xs : List Ev} (h : ERc w (.slice a xs.length cap) xs) {c : Nat} (hc : c ≤ xs.length) :
    ∃ a' cap', (∀ w', (Instr.slice 49 (.slice a xs.length cap) (some (.int .i64 (c : Int))) none none).run Try.prog w' = .ok (.slice a' (xs.length - c) cap') w') ∧ ERc w (.slice a' (xs.length - c) cap') (xs.drop c) := by
  have hcap : xs.length ≤ cap := by obtain ⟨a', cap', hv, h1, _⟩ := h; simp at hv; omega
  have hs := h.sliced hc (Nat.le_refl _)
  rw [List.take_length] at hs
  refine ⟨(if cap = c then a else a.map (·.add (c * 7))), cap - c, fun w' => ?_, hs⟩
  rw [run_slice_l _ _ _ _ _ undE _ _ (by omega) (by omega), elemE, sizeE7]
  rfl
/-- A row of one's own. -/
def OwnE (w : World) (base : Nat) (v : Value) (xs : List Ev) : Prop := w.ownsRow base 47 7 v xs.length (xs.flatMap c7)
theorem OwnE.nil (w : World) (base : Nat) : OwnE w base (.slice none 0 0) [] := World.ownsRow_nil _ _ _ _
theorem OwnE.below {w w' : World} {base : Nat} {v : Value} {xs : List Ev} (h : OwnE w base v xs) (hb : Below w.heap.size w w') : OwnE w' base v xs := by
  have hlt := World.ownsRow.lt h
  obtain ⟨h1, h2⟩ := h
  refine ⟨h1, ?_⟩
  rcases h2 with h2 | ⟨g, cap, cur, hv, hg, hw, r⟩
  · exact .inl h2
  · exact .inr ⟨g, cap, cur, hv, hg, (hb.block g (hlt g (by rw [hv]; rfl)).2).trans hw, r⟩
theorem OwnE.rc {w : World} {base : Nat} {v : Value} {xs : List Ev} (h : OwnE w base v xs) : ERc w v xs := by
  have hlt := World.ownsRow.lt h
  have hr := h
  obtain ⟨h1, h2⟩ := h
  rcases h2 with ⟨rfl, h0⟩ | ⟨g, cap, cur, hv, hg, hw, hc, hm, hs, ht⟩
  · exact ⟨none, 0, by rw [h0], by omega, by simp, .inl (List.length_eq_zero_iff.1 h0)⟩
  · rw [hv] at hr
    refine ⟨_, cap, hv, hc, hm, .inr ⟨g, 0, rfl, (hlt g (by rw [hv]; rfl)).2, fun j hj i hi => ?_⟩⟩
    rw [show 0 + (7 * j + i) = 7 * j + i by omega, World.ownsRow.cellAt hr _ (by omega), flat7 xs j i hj hi, List.getElem?_eq_getElem hi]
theorem flat_len7 (xs : List Ev) : (xs.flatMap c7).length = xs.length * 7 := by
  induction xs with
  | nil => rfl
  | cons x xs ih => rw [List.flatMap_cons, List.length_append, ih, c7_len, List.length_cons]; omega
theorem infoE : (Try.prog.info? 47).map (fun i => (i.zero.map Value.cells, i.size, i.bytes)) = some (some #[.slice none 0 0, .int .u64 0, .bool false, .int .i64 0, .int .u64 0, .int .i64 0, .int .i64 0], 7, 72) := by kernel_rfl
theorem one_c7 {w : World} (xs : List Ev) (h : EvR w xs) : ∀ u ∈ xs.flatMap c7, u.oneCell' = true := by
  intro u hu
  obtain ⟨x, hx, hu⟩ := List.mem_flatMap.1 hu
  obtain ⟨a, cap, e, _⟩ := (h x hx).form
  unfold c7 at hu
  rw [e] at hu
  simp at hu
  rcases hu with rfl | rfl | rfl | rfl | rfl | rfl | rfl <;> rfl
/-- Entries behind those of one's own. -/
theorem run_appE {w : World} (base : Nat) (ty : TypeId) (v sv : Value) (xs ys : List Ev) (hown : OwnE w base v xs) (hs : ERc w sv ys) (hr : EvR w ys) (hlen : xs.length + ys.length ≤ 1000000000) (hbase : base ≤ w.heap.size) :
    ∃ v' w', (Builtin.append_ #[49, 49] ty #[v, sv]).run Try.prog w = .ok v' w' ∧ OwnE w' base v' (xs ++ ys) ∧ Below base w w' ∧ w.grownBy w' v.ownBlock := by
  have hinf := infoE
  cases hi0 : Try.prog.info? 47 with
  | none => rw [hi0] at hinf; cases hinf
  | some i0 =>
    rw [hi0] at hinf
    simp only [Option.map_some, Option.some.injEq, Prod.mk.injEq] at hinf
    obtain ⟨hz0, hz1, hz2⟩ := hinf
    obtain ⟨z, hz, hzc⟩ := Option.map_eq_some_iff.1 hz0
    obtain ⟨a, cap, rfl, h1, h2, h3⟩ := hs
    have gen : ∀ ad : Addr, (∀ j u, (ys.flatMap c7)[j]? = some u → w.cell? (ad.add j) = some u) → ∃ v' w', (Builtin.append_ #[49, 49] ty #[v, .slice (some ad) ys.length cap]).run Try.prog w = .ok v' w' ∧ OwnE w' base v' (xs ++ ys) ∧ Below base w w' ∧ w.grownBy w' v.ownBlock := by
      intro ad hnews
      obtain ⟨v', w', hrun, ho, hg, _⟩ := run_append_own (P := Try.prog) w base 49 ty 47 i0 z 7 72 Try.underlying49 hi0 hz hz1 hz2 (by rw [hzc]; rfl) (by decide) v xs.length (xs.flatMap c7) hown ad ys.length cap (ys.flatMap c7) (flat_len7 ys) hnews (one_c7 ys hr) (by simp [maxLen]; omega) (by omega) hbase
      refine ⟨v', w', hrun, ?_, (Below.refl _ _).grown hg hbase (own_block hown), hg⟩
      unfold OwnE
      rw [List.length_append, List.flatMap_append]
      exact ho
    rcases h3 with rfl | ⟨b, off, rfl, h5, h6⟩
    · cases a with
      | none =>
        refine ⟨v, w, ?_, by rw [List.append_nil]; exact hown, Below.refl _ _, ⟨rfl, rfl, rfl, Nat.le_refl _, fun _ _ _ => rfl⟩⟩
        rcases hown.2 with ⟨rfl, _⟩ | ⟨g, cap', cur, rfl, _, _, hnc, _⟩
        · simp [Builtin.append_, run_underlying Try.underlying49, sizeOf, typeInfo, hi0, Builtin.lenOf, Builtin.firstCells]
        · simp [Builtin.append_, run_underlying Try.underlying49, sizeOf, typeInfo, hi0, Builtin.lenOf, Builtin.firstCells, hnc, storeCells]
      | some ad => exact gen ad (fun j u hj => by simp at hj)
    · refine gen ⟨b, off, none⟩ (fun j u hj => ?_)
      have hjl : j < ys.length * 7 := by
        rw [← flat_len7]
        exact (List.getElem?_eq_some_iff.1 hj).1
      have ej : j = 7 * (j / 7) + j % 7 := by omega
      have hq : j / 7 < ys.length := by omega
      have hm : j % 7 < 7 := Nat.mod_lt _ (by decide)
      have ea : (⟨b, off, none⟩ : Addr).add j = ⟨b, off + j, none⟩ := by simp [Addr.add]
      rw [ej, flat7 ys _ _ hq hm, List.getElem?_eq_getElem (by rw [c7_len]; exact hm)] at hj
      rw [ea]
      have h7 := h6 (j / 7) hq (j % 7) hm
      rw [← ej] at h7
      rw [h7]; exact hj
theorem own_apart {w : World} {b b' : Nat} {v kv : Value} {xs : List Ev} {k : List UInt8} (h : OwnE w b v xs) (ho : Own w b' kv k) : kv.ownBlock = none ∨ kv.ownBlock ≠ v.ownBlock := by
  rcases ho.2 with ⟨rfl, _⟩ | ⟨g, cap, cur, hv, _, hw, _⟩
  · exact .inl rfl
  · right
    rcases h.2 with ⟨rfl, _⟩ | ⟨g', cap', cur', hv', _, hw', _⟩
    · rw [hv]; simp [Value.ownBlock]
    · intro e
      rw [hv, hv'] at e
      simp [Value.ownBlock] at e
      subst e
      rw [hw] at hw'
      simp at hw'
end Go.Proofs.Ytdeaglfjlfbdoaa

/- Two lists side by side in memory: what a Put of one leaves of the other (skip's; written in part out of S10). -/
namespace Go.Proofs.Ytdeaglfjlfbdoaa
open Go.RowKit

/-- A list whose keys lie in blocks of A. -/
def SKx (A : Nat → Prop) (w : World) (base L0 : Nat) (E : List En) (fr : Bool) : Prop := ∃ N, SL w base L0 N (sizE E : Nat) fr ∧ ents N = E ∧ ∀ x ∈ N, ∀ g, x.kv.ownBlock = some g → A g
theorem SKx.sk {A : Nat → Prop} {w : World} {base L0 : Nat} {E : List En} {fr : Bool} (h : SKx A w base L0 E fr) : SK w base L0 E fr := by
  obtain ⟨N, h1, h2, _⟩ := h
  exact ⟨N, h1, h2⟩
theorem SK.x {w : World} {base L0 : Nat} {E : List En} {fr : Bool} (h : SK w base L0 E fr) : SKx (fun g => g < w.heap.size) w base L0 E fr := by
  obtain ⟨N, h1, h2⟩ := h
  refine ⟨N, h1, h2, fun x hx g hg => ?_⟩
  obtain ⟨i, hi, rfl⟩ := List.getElem_of_mem hx
  exact (World.ownsRow.lt (h1.1.ky i hi) g hg).2
theorem SKx.mono {A B : Nat → Prop} {w : World} {base L0 : Nat} {E : List En} {fr : Bool} (h : SKx A w base L0 E fr) (hab : ∀ g, A g → B g) : SKx B w base L0 E fr := by
  obtain ⟨N, h1, h2, h3⟩ := h
  exact ⟨N, h1, h2, fun x hx g hg => hab g (h3 x hx g hg)⟩
theorem SKx.below {A : Nat → Prop} {w w' : World} {base L0 : Nat} {E : List En} {fr : Bool} (h : SKx A w base L0 E fr) (hb : Below w.heap.size w w') : SKx A w' base L0 E fr := by
  obtain ⟨N, h1, h2, h3⟩ := h
  exact ⟨N, h1.below hb, h2, h3⟩
/-- What a list's entries are. -/
theorem SK.good {w : World} {base L0 : Nat} {E : List En} {fr : Bool} (h : SK w base L0 E fr) : srt E ∧ (∀ x ∈ E, 1 ≤ x.1.length ∧ x.1.length ≤ 256 ∧ 0 < x.2.c ∧ x.2.c < 18446744073709551616 ∧ rightB x.2 = true) ∧ E.length ≤ 4096 := by
  obtain ⟨N, h1, rfl⟩ := h
  refine ⟨?_, fun x hx => ?_, ?_⟩
  · unfold srt
    rw [keys_ents]; exact h1.2.so
  · obtain ⟨y, hy, rfl⟩ := List.mem_map.1 hx
    exact ⟨(h1.2.kl y hy).1, (h1.2.kl y hy).2, h1.2.ag y hy⟩
  · simp [ents]; exact h1.2.le
/-- A key of one's own, where its block stands. -/
theorem own_via {A B : World} {base : Nat} {v : Value} {l : List UInt8} (h : Own A base v l) (hk : ∀ (c : Nat) (cs : Array Value) (fr : Nat × Nat), v.ownBlock = some c → A.heap[c]? = some (.cells cs 5 fr) → B.heap[c]? = some (.cells cs 5 fr)) : Own B base v l := by
  refine ⟨h.1, ?_⟩
  rcases h.2 with h2 | ⟨g, cap, cur, hv, hg, hw, r⟩
  · exact .inl h2
  · exact .inr ⟨g, cap, cur, hv, hg, hk g _ _ (by rw [hv]; rfl) hw, r⟩
theorem SL.via {A B : World} {base L0 : Nat} {N : List Nd} {sz : Int} {fr : Bool} (h : SL A base L0 N sz fr) (hk : ∀ (c : Nat) (cs : Array Value) (T : TypeId) (q : Nat × Nat), (T = 62 ∨ T = 64) → A.heap[c]? = some (.cells cs T q) → B.heap[c]? = some (.cells cs T q)) (hu : ∀ x ∈ N, ∀ (c : Nat) (cs : Array Value) (q : Nat × Nat), x.kv.ownBlock = some c → A.heap[c]? = some (.cells cs 5 q) → B.heap[c]? = some (.cells cs 5 q)) : SL B base L0 N sz fr :=
  ⟨⟨hk _ _ _ _ (.inr rfl) h.1.hd, fun i hi => hk _ _ _ _ (.inl rfl) (h.1.nd i hi), fun i hi => own_via (h.1.ky i hi) (hu _ (List.getElem_mem hi)), h.1.b0, h.1.bs, h.1.ne⟩, h.2⟩
/-- All but a block of bytes stands. -/
structure K1 (g : Nat) (A B : World) : Prop where
  s : A.heap.size = B.heap.size
  k : ∀ c, c ≠ g → B.heap[c]? = A.heap[c]?
theorem K1.refl (g : Nat) (A : World) : K1 g A A := ⟨rfl, fun _ _ => rfl⟩
theorem SKx.k1 {A B : World} {base L0 g : Nat} {E : List En} {fr : Bool} (h : SKx (fun c => c ≠ g) A base L0 E fr) (hk : K1 g A B) {cs : Array Value} {q : Nat × Nat} (hg : A.heap[g]? = some (.cells cs 5 q)) : SKx (fun c => c ≠ g) B base L0 E fr := by
  obtain ⟨N, h1, h2, h3⟩ := h
  refine ⟨N, h1.via (fun c cs' T q' hT hc => ?_) (fun x hx c cs' q' ho hc => (hk.k c (h3 x hx c ho)).trans hc), h2, h3⟩
  rw [hk.k c (fun e => ?_)]
  · exact hc
  · subst e
    rw [hg] at hc
    simp at hc
    rcases hT with rfl | rfl
    · exact absurd hc.2.1 (by decide)
    · exact absurd hc.2.1 (by decide)
theorem eown_via {A B : World} {base : Nat} {v : Value} {xs : List Ev} (h : EOwn A base v xs) (hk : ∀ (c : Nat) (cs : Array Value) (q : Nat × Nat), A.heap[c]? = some (.cells cs 47 q) → B.heap[c]? = some (.cells cs 47 q)) (hu : ∀ x ∈ xs, ∀ (c : Nat) (cs : Array Value) (q : Nat × Nat), x.kv.ownBlock = some c → A.heap[c]? = some (.cells cs 5 q) → B.heap[c]? = some (.cells cs 5 q)) : EOwn B base v xs := by
  refine ⟨⟨h.1.1, ?_⟩, fun x hx => own_via (h.2 x hx) (hu x hx)⟩
  rcases h.1.2 with h2 | ⟨g, cap, cur, hv, hg, hw, r⟩
  · exact .inl h2
  · exact .inr ⟨g, cap, cur, hv, hg, hk g _ _ hw, r⟩
theorem EOwn.row {w : World} {base : Nat} {v : Value} {xs : List Ev} (h : EOwn w base v xs) : OwnE w base v xs := h.1
theorem EOwn.evr {w : World} {base : Nat} {v : Value} {xs : List Ev} (h : EOwn w base v xs) : EvR w xs := fun x hx => (h.2 x hx).reads
set_option maxRecDepth 10000 in
theorem put_x (A : Nat → Prop) (L0 : Nat) (E : List En) (fr : Bool) (kv : Value) (k : Ks) (a : Ag) (h : Int) (w : World) (base : Nat) (hbase : base ≤ w.heap.size) (hS : SKx A w base L0 E fr) (hA : ∀ g, w.heap.size ≤ g → A g) (hR : Reads w kv k) (ha : 0 ≤ a.c ∧ a.c < 18446744073709551616) (hlen : E.length < 4096) :
    Calls Try.prog 9 #[.pointer (some ⟨L0, 0, none⟩), env kv a, .int .i64 h] w fun e w' => e = .returned (.int .i64 (mpF fr h k.length a)) ∧ SKx A w' base L0 (if mpF fr h k.length a = 0 then putE E k a else E) fr ∧ Below base w w' ∧ Kt w w' := by
  obtain ⟨N, hSL, rfl, hNA⟩ := hS
  have hlN : N.length < 4096 := by simpa [ents] using hlen
  by_cases hok : mpF fr h k.length a = 0
  · rw [hok, if_pos rfl]
    obtain ⟨m1, m2, m3, m4, m5, m6, m7⟩ := mpF_ok hok
    have hag : 0 < a.c ∧ a.c < 18446744073709551616 ∧ rightB a = true := ⟨by omega, ha.2, m7⟩
    have hsz := hSL.2.sz
    have hpl : plK (keysE (ents N)) k = plK (N.map Nd.k) k := by rw [keys_ents]
    have hle : plK (N.map Nd.k) k ≤ N.length := by have := plK_le (N.map Nd.k) k; simpa using this
    have hEl : (ents N).length = N.length := by simp [ents]
    generalize hi : plK (N.map Nd.k) k = i at *
    have hszb : sizE (ents N) ≤ 4096 * 300 := by
      rw [sizE_ents]
      have : ∀ (M : List Nd), (∀ x ∈ M, x.k.length ≤ 256) → (M.map fun x => x.k.length + 41).sum ≤ M.length * 300 := by
        intro M
        induction M with
        | nil => intro _; simp
        | cons x M ih => intro hM; have h1 := ih (fun y hy => hM y (List.mem_cons_of_mem _ hy)); have h2 := hM x (List.mem_cons_self ..); simp; omega
      have := this N (fun x hx => (hSL.2.kl x hx).2)
      omega
    by_cases hc : ∃ hlt : i < N.length, N[i].k = k
    · obtain ⟨hlt, hk⟩ := hc
      refine (put_merge L0 N _ fr kv k a h w base hbase hSL hR hok ha i hlt hi.symm hk).mono ?_
      rintro e w' ⟨rfl, hs, hb, hkt⟩
      refine ⟨rfl, ⟨N.set i { N[i] with a := mrg N[i].a a }, ⟨?_, ?_⟩, ?_, fun x hx => ?_⟩, hb, hkt⟩
      · have hmap : (N.set i { N[i] with a := mrg N[i].a a }).map hb2 = N.map hb2 := by
          rw [List.map_set]; apply List.ext_getElem
          · simp
          · intro j h1 h2
            rw [List.getElem_set]; split
            · rename_i e; subst e; simp [hb2]
            · rfl
        have hsz2 : sizE (putE (ents N) k a) = sizE (ents N) := by
          rw [putE_merge hlt hi hk]
          have h1 := (sla_merge hSL.2 hlt _ (mrg_ok (hSL.2.ag _ (List.getElem_mem hlt)) hag)).sz
          rw [sizE_ents]; omega
        rw [hsz2, List.length_set]
        exact hs.congrF (fun p j hp _ => (nxF_hb hmap (by simpa using hp) j).symm)
      · have h1 := sla_merge hSL.2 hlt _ (mrg_ok (hSL.2.ag _ (List.getElem_mem hlt)) hag)
        have hsz2 : sizE (putE (ents N) k a) = sizE (ents N) := by
          rw [putE_merge hlt hi hk]
          have h2 := h1.sz
          rw [sizE_ents]; omega
        rw [hsz2]; exact h1
      · exact (putE_merge hlt hi hk a).symm
      · rcases List.mem_or_eq_of_mem_set hx with hx | rfl
        · exact hNA x hx
        · exact hNA N[i] (List.getElem_mem hlt)
    · have hnk : ∀ hlt : i < N.length, N[i].k ≠ k := fun hlt e => hc ⟨hlt, e⟩
      have hnx := nxF_zero hSL.2.ht hle
      obtain ⟨pn, hpn, hhas⟩ : ∃ pn, nxF N i 0 = .pointer pn ∧ ∀ w', Below w.heap.size w w' → Calls Try.prog 23 #[.pointer pn, kv] w' fun e w'' => e = .returned (.bool false) ∧ w'' = w' := by
        by_cases hlt : i < N.length
        · rw [dif_pos hlt] at hnx
          refine ⟨_, hnx, fun w' hb => ?_⟩
          have hn := hSL.1.nd i hlt
          have hbl := (Array.getElem?_eq_some_iff.1 hn).1
          have h1 : w.cell? ⟨N[i].b, 0, none⟩ = some N[i].kv := by simp [World.cell?, hn, ndc]
          have := has_some N[i].b N[i].kv N[i].k kv k w' ((hb.cell (p := ⟨N[i].b, 0, none⟩) hbl).trans h1) ((hSL.1.ky i hlt).reads.below hb) (hR.below hb)
          rw [decide_eq_false (hnk hlt)] at this
          exact this
        · rw [dif_neg hlt] at hnx
          exact ⟨_, hnx, fun w' hb => has_none kv k w' (hR.below hb)⟩
      refine (put_new L0 N _ fr kv k a h w base hbase hSL hR hok i hle hi.symm pn hpn hhas (by omega) ⟨by omega, by omega⟩).mono ?_
      rintro e w' ⟨rfl, ⟨b, kv', hs, hbk⟩, hb, hkt⟩
      have h1 := sla_new hSL.2 hle hi hnk hlN ⟨b, kv', k, a, h.toNat⟩ rfl ⟨by show 1 ≤ h.toNat; omega, by show h.toNat ≤ 8; omega⟩ ⟨m4, m5⟩ hag
      have hsz2 : ((sizE (putE (ents N) k a) : Nat) : Int) = (sizE (ents N) : Nat) + k.length + 41 := by
        rw [putE_new hle hi hnk a b kv' h.toNat, sizE_ents]
        exact h1.sz.symm
      refine ⟨rfl, ⟨_, ⟨?_, ?_⟩, (putE_new hle hi hnk a b kv' h.toNat).symm, fun y hy => ?_⟩, hb, hkt⟩
      · rw [hsz2, insN_len _ _ _ hle]; exact hs
      · rw [hsz2]; exact h1
      · unfold insN at hy
        rcases List.mem_append.1 hy with hy | hy
        · exact hNA y (List.mem_of_mem_take hy)
        · rcases List.mem_cons.1 hy with rfl | hy
          · exact fun g hg => hA g (hbk g hg)
          · exact hNA y (List.mem_of_mem_drop hy)
  · rw [if_neg hok]
    refine (put_no L0 N _ fr kv k a h w base hSL hR hok).mono ?_
    rintro e w' ⟨rfl, hb⟩
    exact ⟨rfl, ⟨N, hSL.below hb, rfl, hNA⟩, hb.mono hbase, Kt.of_below hb⟩
end Go.Proofs.Ytdeaglfjlfbdoaa

/- TopMemory: plain words, and what lies side by side. -/
namespace Go.Proofs.Ytdeaglfjlfbdoaa
open Go.RowKit

/-- A fact's entry. -/
def feE (f : Fa) : En := (kb f.D f.t 0, oneF f.x)
def okF (f : Fa) : Prop := rightBK f.D f.t 0 = true
theorem kb_short {L : List ByteArray} {f g : Int} (h : rightBK L f g = true) : 1 ≤ (kb L f g).length ∧ (kb L f g).length ≤ 256 := by
  have h1 := mayB_iff.1 (right_facts h).1
  have h2 := jb_len L h1.2
  rw [kb_len]
  unfold jn
  rw [List.length_append]
  simp only [List.length_singleton]
  omega
/-- Facts' values with one key. -/
def vls (fs : List Fa) (k : Ks) : List Int := (fs.filter fun f => decide (kb f.D f.t 0 = k)).map Fa.x
theorem vls_next (fs : List Fa) (f : Fa) (k : Ks) : vls (fs ++ [f]) k = if kb f.D f.t 0 = k then vls fs k ++ [f.x] else vls fs k := by
  unfold vls
  rw [List.filter_append, List.map_append]
  by_cases h : kb f.D f.t 0 = k
  · simp [h]
  · simp [h]
theorem kn_vls (k : Ks) : ∀ (fs : List Fa) (z : Ag), (fs.map feE).foldl (fun s x => if x.1 = k then mrg s x.2 else s) z = (vls fs k).foldl (fun A x => mrg A (oneF x)) z
  | [], _ => rfl
  | f :: fs, z => by
    rw [List.map_cons, List.foldl_cons]
    have e : vls (f :: fs) k = if kb f.D f.t 0 = k then f.x :: vls fs k else vls fs k := by
      unfold vls
      by_cases h : kb f.D f.t 0 = k
      · simp [h]
      · simp [h]
    rw [e]
    by_cases h : kb f.D f.t 0 = k
    · rw [if_pos (show (feE f).1 = k from h), if_pos h, List.foldl_cons]
      exact kn_vls k fs _
    · rw [if_neg (show ¬ (feE f).1 = k from h), if_neg h]
      exact kn_vls k fs z
theorem knE_vls (fs : List Fa) (k : Ks) : knE (fs.map feE) k = mnF (vls fs k) := kn_vls k fs agZ
theorem vls_has {fs : List Fa} {k : Ks} (h : hasE (fs.map feE) k = true) : 0 < (vls fs k).length ∧ ∃ f ∈ fs, kb f.D f.t 0 = k := by
  unfold hasE at h
  rw [List.any_eq_true] at h
  obtain ⟨x, hx, hk⟩ := h
  obtain ⟨f, hf, rfl⟩ := List.mem_map.1 hx
  have hk' : kb f.D f.t 0 = k := of_decide_eq_true hk
  refine ⟨?_, f, hf, hk'⟩
  unfold vls
  rw [List.length_map]
  exact List.length_pos_of_mem (List.mem_filter.2 ⟨hf, by simp [hk']⟩)
theorem lk_at {E : List En} (hs : srt E) {i : Nat} (hi : i < E.length) : lkE E E[i].1 = some E[i].2 := by
  have hsplit : E = E.take i ++ E.drop i := (List.take_append_drop i E).symm
  have hA : lkE (E.take i) E[i].1 = none := lkE_none fun x hx e => by
    obtain ⟨j, hj, rfl⟩ := List.getElem_of_mem hx
    rw [List.length_take] at hj
    rw [List.getElem_take] at e
    have hso := List.pairwise_iff_getElem.1 hs j i (by simp [keysE]; omega) (by simp [keysE]; omega) (by omega)
    simp only [keysE, List.getElem_map] at hso
    exact ltK_ne hso e
  have h1 : lkE E E[i].1 = lkE (E.take i ++ E.drop i) E[i].1 := by rw [← hsplit]
  rw [h1, lkE_app, hA, List.drop_eq_getElem_cons hi, lkE_cons, if_pos rfl]
  rfl
/-- What stands in the list of all facts. -/
theorem all_at {fs : List Fa} {i : Nat} (hi : i < (putL [] (fs.map feE)).length) : ∃ f ∈ fs, kb f.D f.t 0 = (putL [] (fs.map feE))[i].1 ∧ (putL [] (fs.map feE))[i].2 = mnF (vls fs (putL [] (fs.map feE))[i].1) ∧ 0 < (vls fs (putL [] (fs.map feE))[i].1).length := by
  have h1 := lk_at (putL_srt (fs.map feE)) hi
  rw [putL_lk] at h1
  by_cases h : hasE (fs.map feE) (putL [] (fs.map feE))[i].1 = true
  · rw [if_pos h] at h1
    obtain ⟨h2, f, hf, hk⟩ := vls_has h
    refine ⟨f, hf, hk, ?_, h2⟩
    rw [← knE_vls]
    exact (Option.some.inj h1).symm
  · rw [if_neg h] at h1
    cases h1
theorem all_any0 {fs : List Fa} (h : 0 < fs.length) : 0 < (putL [] (fs.map feE)).length := by
  have hh : hasE (fs.map feE) (feE fs[0]).1 = true := by
    unfold hasE
    rw [List.any_eq_true]
    exact ⟨feE fs[0], List.mem_map_of_mem (List.getElem_mem h), by simp⟩
  have h1 := putL_lk (fs.map feE) (feE fs[0]).1
  rw [if_pos hh] at h1
  cases he : putL [] (fs.map feE) with
  | nil => rw [he] at h1; simp [lkE] at h1
  | cons x L => simp
/-- Keys that are neither less are one. -/
theorem same_key {a b : Ky} (ha : rightBK a.L a.f a.g = true) (hb : rightBK b.L b.f b.g = true) : (lessK a b = false ∧ lessK b a = false) ↔ kb a.L a.f a.g = kb b.L b.f b.g := by
  rw [← kb_less a b ha hb, ← kb_less b a hb ha]
  constructor
  · intro h
    by_cases e : kb a.L a.f a.g = kb b.L b.f b.g
    · exact e
    · have := less_tot _ _ e h.1
      rw [h.2] at this; cases this
  · intro e
    rw [e]
    exact ⟨less_irr _, less_irr _⟩
theorem less_of {a b : Ky} (ha : rightBK a.L a.f a.g = true) (hb : rightBK b.L b.f b.g = true) (h : ltK (kb a.L a.f a.g) (kb b.L b.f b.g)) : lessK a b = true := by
  rw [← kb_less a b ha hb]
  exact (lessB_iff _ _).2 h
/-- A filter, by the block of its digits. -/
def FG (w : World) (base B g : Nat) (D : List UInt8) : Prop := base ≤ g ∧ g < w.heap.size ∧ Fil w base (.pointer (some ⟨B, 0, none⟩)) 4 D ∧ ∃ cap, w.heap[B]? = some (.cells #[.int .i64 4, .slice (some ⟨g, 0, none⟩) D.length cap] 67)
theorem Fil.fg {w : World} {base : Nat} {v : Value} {D : List UInt8} (h : Fil w base v 4 D) : ∃ B g, v = .pointer (some ⟨B, 0, none⟩) ∧ FG w base B g D := by
  have h' := h
  obtain ⟨B, g, cap, rfl, h1, h2, h3, h4⟩ := h'
  have hl := World.ownsRow.lt h3 g rfl
  exact ⟨B, g, rfl, hl.1, hl.2, h, cap, h2⟩
theorem fil_via {A B : World} {base : Nat} {v : Value} {h : Nat} {D : List UInt8} (hf : Fil A base v h D) (hk : ∀ (c : Nat) (cs : Array Value) (T : TypeId) (q : Nat × Nat), (T = 67 ∨ T = 5) → A.heap[c]? = some (.cells cs T q) → B.heap[c]? = some (.cells cs T q)) : Fil B base v h D := by
  obtain ⟨b, g, cap, h1, h2, h3, h4, h5⟩ := hf
  exact ⟨b, g, cap, h1, h2, hk _ _ _ _ (.inl rfl) h3, own_via h4 (fun c cs q _ hc => hk c cs _ q (.inr rfl) hc), h5⟩
theorem FG.kt {A B : World} {base b g : Nat} {D : List UInt8} (h : FG A base b g D) (hk : Kt A B) (hs : A.heap.size ≤ B.heap.size) : FG B base b g D := by
  obtain ⟨h1, h2, h3, cap, h4⟩ := h
  refine ⟨h1, Nat.lt_of_lt_of_le h2 hs, fil_via h3 (fun c cs T q hT hc => ?_), cap, hk _ _ _ _ (by decide) (by decide) h4⟩
  rcases hT with rfl | rfl
  · exact hk _ _ _ _ (by decide) (by decide) hc
  · exact hk _ _ _ _ (by decide) (by decide) hc
theorem FG.below {A B : World} {base b g : Nat} {D : List UInt8} (h : FG A base b g D) (hb : Below A.heap.size A B) : FG B base b g D := h.kt (Kt.of_below hb) hb.size
theorem SKx.kx {A B : World} {base L0 g : Nat} {E : List En} {fr : Bool} (h : SKx (fun c => c ≠ g) A base L0 E fr) (hk : Kx g A B) {cs : Array Value} {q : Nat × Nat} (hg : A.heap[g]? = some (.cells cs 5 q)) : SKx (fun c => c ≠ g) B base L0 E fr := by
  obtain ⟨N, h1, h2, h3⟩ := h
  refine ⟨N, h1.via (fun c cs' T q' hT hc => hk c cs' T q' (fun e => ?_) hc) (fun x hx c cs' q' ho hc => hk c cs' _ q' (h3 x hx c ho) hc), h2, h3⟩
  subst e
  rw [hg] at hc
  simp at hc
  rcases hT with rfl | rfl
  · exact absurd hc.2.1 (by decide)
  · exact absurd hc.2.1 (by decide)
theorem FG.own {w : World} {base b g : Nat} {D : List UInt8} (h : FG w base b g D) : ∃ cs q, w.heap[g]? = some (.cells cs 5 q) := by
  obtain ⟨h1, h2, h3, cap, h4⟩ := h
  obtain ⟨b', g', cap', e1, h5, h6, h7, _⟩ := h3
  simp at e1
  subst e1
  rw [h4] at h6
  simp at h6
  obtain ⟨e2, _⟩ := h6
  subst e2
  rcases h7.2 with ⟨e, _⟩ | ⟨g2, cap2, cur, e, _, hw, _⟩
  · simp at e
  · simp at e
    obtain ⟨rfl, _⟩ := e
    exact ⟨cur, _, hw⟩
/-- Add, beside a list. -/
theorem addG {w : World} {base b g : Nat} {D : List UInt8} (hbase : base ≤ w.heap.size) (h : FG w base b g D) (kv : Value) (key : Ks) (hR : Reads w kv key) :
    Calls Try.prog 11 #[.pointer (some ⟨b, 0, none⟩), kv] w fun e W' => e = .returned (.int .i64 0) ∧ FG W' base b g (adF D (plc key (8 * D.length) 4)) ∧ Below base w W' ∧ Kx g w W' := by
  have h' := h
  obtain ⟨h1, h2, h3, cap, h4⟩ := h'
  refine (add_anyB _ kv 4 D key w base hbase h3 hR).mono ?_
  rintro e W' ⟨rfl, hf, hb, hk⟩
  have hkx := hk b g D.length cap _ rfl h4
  obtain ⟨b', g', cap', e1, h5, h6, h7, h8, _⟩ := h3
  simp at e1
  subst e1
  have h9 := h6
  rw [h4] at h9
  simp at h9
  obtain ⟨e2, _⟩ := h9
  subst e2
  refine ⟨rfl, ⟨h1, Nat.lt_of_lt_of_le h2 hb.size, hf, cap, ?_⟩, hb, hkx⟩
  rw [adF_len]
  exact hkx b _ _ _ h8 h4
end Go.Proofs.Ytdeaglfjlfbdoaa
