/- TM4 TM5, joined. -/
import Derived.Test.YtdeaglfjlfbdoaaTG24
import Derived.Test.YtdeaglfjlfbdoaaTG27
import Derived.Deep.CutBlock
import Derived.Deep.CutRange
import Derived.Deep.DeepCutAuto
import Derived.Laws.AppendOwnNone
/- TopMemory: alive04. -/
namespace Go.Proofs.Ytdeaglfjlfbdoaa
open Go.RowKit

theorem kb0 : (kb [] 0 0).length = 10 := by rw [kb_len]; rfl
theorem mp_one (x : Int) (h : Int) (h1 : 1 ≤ h) (h2 : h ≤ 8) (n : Nat) (n1 : 1 ≤ n) (n2 : n ≤ 256) : mpF false h n (oneF x) = 0 := by
  unfold mpF
  rw [if_neg (by omega), if_neg (by simp), if_neg (by omega), if_neg]
  rintro (h | h)
  · exact absurd h (by show ¬ (1 : Int) = 0; decide)
  · unfold rightB oneF at h; simp at h
set_option maxRecDepth 100000 in
set_option maxHeartbeats 4000000 in
theorem alive4_any (w : World) : Calls Try.prog 5 #[] w fun e w' => e = .returned (.bool true) ∧ Below w.heap.size w w' := by
  have HWR : Hid (∀ W, Calls Try.prog 8 #[.agg #[.slice none 0 0, .int .i64 0, .int .i64 0]] W fun e w' => ∃ v, e = .returned (.tuple #[v, .int .i64 0]) ∧ Own w' W.heap.size v (kb [] 0 0) ∧ Below W.heap.size W w') := fun W => write_yes ⟨.slice none 0 0, [], 0, 0⟩ (by decide) W ⟨.inl ⟨rfl, none, 0, rfl, fun _ => rfl⟩, by decide, by decide, by decide, by decide⟩
  obtain ⟨K, HK⟩ := hid_ex (kb [] 0 0)
  have hkl : K.length = 10 := by rw [HK.out]; exact kb0
  rw [← HK.out] at HWR
  obtain ⟨O, HO⟩ := hid_ex (oneF 1)
  have HON : Hid (∀ w, Calls Try.prog 10 #[.int .i64 1] w fun e w' => e = .returned (.agg #[.int .u64 O.c, .bool O.o, .int .i64 (hi O.s), .int .u64 (lo O.s), .int .i64 O.mn, .int .i64 O.mx]) ∧ Below w.heap.size w w') := by
    intro w; rw [HO.out]; exact one_any 1 (by decide) (by decide) w
  go_enter Try.func5, Try.ntmps5
  go_wp2_with fail
  refine (new_any _).mono ?_
  rintro e w1 ⟨L0, rfl, hS1, hb1⟩
  have HS1 : Hid (SK w1 w.heap.size L0 [] false) := hS1
  have HB1 : Hid (Below w.heap.size w w1) := hb1
  clear hS1 hb1
  go_wp2_with fail
  refine (HWR.out _).mono ?_
  rintro e w2 ⟨v2, rfl, ho2, hb2⟩
  have HB2 : Hid (Below w.heap.size w w2) := HB1.out.trans (hb2.mono HB1.out.size)
  have HS2 : Hid (SK w2 w.heap.size L0 [] false) := HS1.out.below hb2
  obtain ⟨a2, c2, hv2, -⟩ := ho2.form
  subst hv2
  rw [hkl] at ho2
  have HO2 : Hid (Own w2 w1.heap.size (.slice a2 10 c2) K) := ho2
  have HR2 : Hid (Reads w2 (.slice a2 10 c2) K) := ho2.reads
  rw [hkl]
  clear ho2 hb2
  go_wp2_with fail
  refine (new_anyB 8 1 _).mono ?_
  rintro e w3 h3
  rcases h3 with ⟨v3, rfl, -, hf3, hb3⟩ | ⟨-, hno, -⟩
  · obtain ⟨B, hvB⟩ := hf3.ptr
    subst hvB
    have HF3 : Hid (Fil w3 w2.heap.size (.pointer (some ⟨B, 0, none⟩)) 1 (List.replicate 1 0)) := hf3
    have HB3 : Hid (Below w.heap.size w w3) := HB2.out.trans (hb3.mono HB2.out.size)
    have HS3 : Hid (SK w3 w.heap.size L0 [] false) := HS2.out.below hb3
    have HO3 : Hid (Own w3 w1.heap.size (.slice a2 10 c2) K) := HO2.out.below hb3
    have HR3 : Hid (Reads w3 (.slice a2 10 c2) K) := HR2.out.below hb3
    clear hf3 hb3
    go_wp2_with fail
    refine (HON.out _).mono ?_
    rintro e w4 ⟨rfl, hb4⟩
    have HF4 : Hid (Fil w4 w2.heap.size (.pointer (some ⟨B, 0, none⟩)) 1 (List.replicate 1 0)) := fil_via HF3.out fun c cs T q _ hc => (hb4.block _ (Array.getElem?_eq_some_iff.1 hc).1).trans hc
    have HB4 : Hid (Below w.heap.size w w4) := HB3.out.trans (hb4.mono HB3.out.size)
    have HS4 : Hid (SK w4 w.heap.size L0 [] false) := HS3.out.below hb4
    have HO4 : Hid (Own w4 w1.heap.size (.slice a2 10 c2) K) := HO3.out.below hb4
    have HR4 : Hid (Reads w4 (.slice a2 10 c2) K) := HR3.out.below hb4
    clear hb4
    have HPUT : Hid (Calls Try.prog 9 #[.pointer (some ⟨L0, 0, none⟩), .agg #[.slice a2 10 c2, .int .u64 O.c, .bool O.o, .int .i64 (hi O.s), .int .u64 (lo O.s), .int .i64 O.mn, .int .i64 O.mx], .int .i64 1] w4 fun e w' => e = .returned (.int .i64 0) ∧ Below w.heap.size w4 w' ∧ Kt w4 w') := by
      refine (put_any L0 [] false _ K O 1 w4 w.heap.size HB4.out.size HS4.out HR4.out (by rw [HO.out]; exact ⟨by show (0 : Int) ≤ 1; decide, by show (1 : Int) < 18446744073709551616; decide⟩) (by simp)).mono ?_
      rintro e w' ⟨rfl, _, hb, hk⟩
      rw [HO.out, hkl, mp_one 1 1 (by decide) (by decide) 10 (by decide) (by decide)]
      exact ⟨rfl, hb, hk⟩
    go_wp2_with fail
    refine Calls.mono HPUT.out ?_
    rintro e w5 ⟨rfl, hb5, hk5⟩
    have HF5 : Hid (Fil w5 w2.heap.size (.pointer (some ⟨B, 0, none⟩)) 1 (List.replicate 1 0)) := fil_via HF4.out fun c cs T q hT hc => by
      rcases hT with rfl | rfl
      · exact hk5 _ _ _ _ (by decide) (by decide) hc
      · exact hk5 _ _ _ _ (by decide) (by decide) hc
    have HB5 : Hid (Below w.heap.size w w5) := HB4.out.trans hb5
    have HR5 : Hid (Reads w5 (.slice a2 10 c2) K) := (own_via HO4.out fun c cs q _ hc => hk5 _ _ _ _ (by decide) (by decide) hc).reads
    clear hb5 hk5
    go_wp2_with fail
    refine (may_any _ _ 1 (List.replicate 1 0) K _ w2.heap.size HF5.out HR5.out).mono ?_
    rintro e w6 ⟨rfl, hb6⟩
    rw [my_zero 1 _ 1 K (by decide)]
    have HB6 : Hid (Below w.heap.size w w6) := HB5.out.trans (hb6.mono HB5.out.size)
    clear hb6
    go_wp2_with fail
    go_ret
    exact ⟨rfl, HB6.out⟩
  · exact absurd (show newOk 8 1 by unfold newOk; decide) hno
end Go.Proofs.Ytdeaglfjlfbdoaa

/- TopMemory: values in a row; the contracts as the walk asks them. -/
namespace Go.Proofs.Ytdeaglfjlfbdoaa
open Go.RowKit

theorem infoI64 : (Try.prog.info? 2).map (fun i => (i.zero, i.size, i.bytes)) = some (some (.int .i64 0), 1, 8) := by kernel_rfl
theorem newsI {w : World} {b off : Nat} {l : List Int} (h : ∀ j (h : j < l.length), w.cell? ⟨b, off + j, none⟩ = some (ic l[j])) : ∀ j u, (l.map ic)[j]? = some u → w.cell? ((⟨b, off, none⟩ : Addr).add j) = some u := by
  intro j u hj
  rw [List.getElem?_map] at hj
  rcases Nat.lt_or_ge j l.length with hlt | hge
  · rw [List.getElem?_eq_getElem hlt] at hj
    simp at hj
    subst hj
    have ea : (⟨b, off, none⟩ : Addr).add j = ⟨b, off + j, none⟩ := by simp [Addr.add]
    rw [ea]; exact h j hlt
  · rw [List.getElem?_eq_none hge] at hj; simp at hj
theorem one_ic {l : List Int} : ∀ u ∈ l.map ic, u.oneCell' = true := by
  intro u hu
  obtain ⟨x, _, rfl⟩ := List.mem_map.1 hu
  rfl
/-- Numbers of one's own: their slice's array was made since base. -/
def IOwn (w : World) (base : Nat) (v : Value) (l : List Int) : Prop := w.ownsRow base 2 1 v l.length (l.map ic)
theorem IOwn.nil (w : World) (base : Nat) : IOwn w base (.slice none 0 0) [] := World.ownsRow_nil _ _ _ _
theorem IOwn.reads {w : World} {base : Nat} {v : Value} {l : List Int} (h : IOwn w base v l) : IReads w v l := ireads_own h
theorem IOwn.mono {w : World} {base base' : Nat} {v : Value} {l : List Int} (h : IOwn w base v l) (hb : base' ≤ base) : IOwn w base' v l := own_mono h hb
theorem IOwn.below {w w' : World} {base : Nat} {v : Value} {l : List Int} (h : IOwn w base v l) (hb : Below w.heap.size w w') : IOwn w' base v l := by
  have hlt := World.ownsRow.lt h
  obtain ⟨h1, h2⟩ := h
  refine ⟨h1, ?_⟩
  rcases h2 with h2 | ⟨g, cap, cur, hv, hg, hw, r⟩
  · exact .inl h2
  · exact .inr ⟨g, cap, cur, hv, hg, (hb.block g (hlt g (by rw [hv]; rfl)).2).trans hw, r⟩
theorem IOwn.alloc {w : World} {base : Nat} {v : Value} {l : List Int} (h : IOwn w base v l) (o : Obj) : IOwn (w.alloc o) base v l := World.ownsRow.alloc h o
/-- Numbers, whatever their slice is, behind numbers of one's own. -/
theorem wpList_iapp {w : World} {ops : Array Oper} {rest : List Oper} {o : Oper} {a : Act} {Q : Exit → Act → World → Prop} (hgd : o.guard = none) (s x : Operand)
    (ho : o.op = .call { callee := .builtin .append, args := #[s, x], argTypes := #[55, 55] })
    (base : Nat) (v vx : Value) (L l M : List Int) (hM : M = L ++ l) (hs : a.eval s = v) (hx : a.eval x = vx) (hown : IOwn w base v L) (hr : IReads w vx l)
    (hlen : L.length + l.length ≤ 17592186044416) (hbase : base ≤ w.heap.size)
    (h : ∀ v' w', IOwn w' base v' M → Hid (Below base w w') → wpList Try.prog ops Q rest (a.put o.dst v') w') : wpList Try.prog ops Q (o :: rest) a w := by
  subst hM
  obtain ⟨i0, hi, hz0, hz1, hz2⟩ := info_parts infoI64
  rcases hr with ⟨rfl, ad, cap, rfl, hn⟩ | ⟨b, off, cap, rfl, h2, h3, h4, h5, h6⟩
  · cases ad with
    | none =>
      obtain rfl := hn rfl
      refine wpList_append_own_none hgd s x 55 ho base 2 i0 1 Try.underlying55 hi v L.length (L.map ic) hs hown hx ?_
      exact h v w (by rw [List.append_nil]; exact hown) (Below.refl _ _)
    | some ad =>
      refine wpList_append_own w hgd s x 55 ho base 2 i0 (.int .i64 0) 1 8 Try.underlying55 hi hz0 hz1 hz2 rfl (by decide) v L.length (L.map ic) hs hown ad 0 cap [] hx (by simp) (by intro j u hj; simp at hj) (by intro u hu; simp at hu) (by simp [maxLen] at *; omega) (by (try simp at *); omega) hbase ?_
      intro v' w' hown' hgrow _
      refine h v' w' ?_ ((Below.refl _ _).grown hgrow hbase (own_block hown))
      unfold IOwn; simpa using hown'
  · refine wpList_append_own w hgd s x 55 ho base 2 i0 (.int .i64 0) 1 8 Try.underlying55 hi hz0 hz1 hz2 rfl (by decide) v L.length (L.map ic) hs hown ⟨b, off, none⟩ l.length cap (l.map ic) hx (by simp) (newsI h6) one_ic (by simp [maxLen] at *; omega) (by (try simp at *); omega) hbase ?_
    intro v' w' hown' hgrow _
    refine h v' w' ?_ ((Below.refl _ _).grown hgrow hbase (own_block hown))
    unfold IOwn; rw [List.length_append, List.map_append]; exact hown'
/-- One number, just laid, behind numbers of one's own. -/
theorem wpList_iapp1 {w0 : World} {ops : Array Oper} {rest : List Oper} {o : Oper} {a : Act} {Q : Exit → Act → World → Prop} {u : Value} {t : TypeId} (hgd : o.guard = none) (s x : Operand)
    (ho : o.op = .call { callee := .builtin .append, args := #[s, x], argTypes := #[55, 55] })
    (base : Nat) (v : Value) (L : List Int) (y : Int) (M : List Int) (hM : M = L ++ [y]) (hu : u = ic y) (hs : a.eval s = v) (hx : a.eval x = .slice (some ⟨w0.heap.size, 0, none⟩) 1 1) (hown : IOwn w0 base v L)
    (hlen : L.length + 1 ≤ 17592186044416) (hbase : base ≤ w0.heap.size)
    (h : ∀ v' w', IOwn w' base v' M → Hid (Below base w0 w') → wpList Try.prog ops Q rest (a.put o.dst v') w') : wpList Try.prog ops Q (o :: rest) a (w0.alloc (.cells #[u] t)) := by
  subst hu
  refine wpList_iapp hgd s x ho base v _ L [y] M hM hs hx (hown.alloc _) (.inr ⟨w0.heap.size, 0, 1, rfl, by simp, by simp, by simp [maxLen], by simp, fun j hj => ?_⟩) (by simpa using hlen) (by simp; omega) ?_
  · have : j = 0 := by simpa using hj
    subst this; simp
  · intro v' w' h1 h2
    exact h v' w' h1 (((Below.refl _ _).alloc hbase _).trans h2.out)
theorem IOwn.form {w : World} {base : Nat} {v : Value} {l : List Int} (h : IOwn w base v l) : ∃ a cap, v = .slice a l.length cap ∧ l.length ≤ maxLen := h.reads.form
/-- What the first loop keeps. -/
structure MI (w : World) (base L0 B g k : Nat) (fs : List Fa) (W : World) : Prop where
  s : SKx (fun c => c ≠ g) W base L0 (putL [] ((fs.take k).map feE)) false
  f : FG W base B g (adK 4 (List.replicate 64 0) ((fs.take k).map fun f => kb f.D f.t 0))
  o : ∀ f ∈ fs.take k, okF f
  b : Below base w W
theorem MI.below {w : World} {base L0 B g k : Nat} {fs : List Fa} {W W' : World} (h : MI w base L0 B g k fs W) (hb : Below W.heap.size W W') (hs : base ≤ W.heap.size) : MI w base L0 B g k fs W' := ⟨h.s.below hb, h.f.below hb, h.o, h.b.trans (hb.mono hs)⟩
theorem take_next {α β : Type} {fs : List α} {k : Nat} (hk : k < fs.length) (F : α → β) : (fs.take (k + 1)).map F = (fs.take k).map F ++ [F fs[k]] := by
  rw [List.take_succ_eq_append_getElem hk, List.map_append]; rfl
/-- A fact is put and added. -/
theorem MI.next {w : World} {base L0 B g k : Nat} {fs : List Fa} {W W2 : World} (h : MI w base L0 B g k fs W) (hk : k < fs.length) (hok : okF fs[k]) (hb0 : Below base W W2)
    (hs : SKx (fun c => c ≠ g) W2 base L0 (putE (putL [] ((fs.take k).map feE)) (feE fs[k]).1 (feE fs[k]).2) false) (hf : FG W2 base B g (adF (adK 4 (List.replicate 64 0) ((fs.take k).map fun f => kb f.D f.t 0)) (plc (kb fs[k].D fs[k].t 0) (8 * (adK 4 (List.replicate 64 0) ((fs.take k).map fun f => kb f.D f.t 0)).length) 4))) : MI w base L0 B g (k + 1) fs W2 := by
  refine ⟨?_, ?_, fun f hf => ?_, h.b.trans hb0⟩
  · rw [take_next hk, putL_snoc]; exact hs
  · rw [take_next hk, adK_snoc]; exact hf
  · rw [List.take_succ_eq_append_getElem hk] at hf
    rcases List.mem_append.1 hf with hf | hf
    · exact h.o f hf
    · obtain rfl := List.mem_singleton.1 hf
      exact hok
theorem kbox38 {w : World} {b : Nat} {T : TypeId} {c0 c1 c2 : Value} (h : w.heap[b]? = some (.cells #[c0, c1, c2] T)) : w.cell? ⟨b, 0, none⟩ = some c0 ∧ w.cell? ⟨b, 1, none⟩ = some c1 ∧ w.cell? ⟨b, 2, none⟩ = some c2 := by
  refine ⟨?_, ?_, ?_⟩ <;> simp [World.cell?, h]
end Go.Proofs.Ytdeaglfjlfbdoaa
