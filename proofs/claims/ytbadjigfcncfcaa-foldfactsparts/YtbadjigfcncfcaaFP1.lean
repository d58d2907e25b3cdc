/- Facts of one's own; parts of facts; the pure half of FoldFactsParts. -/
import Derived.Test.YtbadjigfcncfcaaFK1
import Derived.Deep.MidRow
import Derived.Laws.AppendOwn
namespace Go.Proofs.Ytbadjigfcncfcaa
open Go.RowKit Go.Joins

theorem c3_len (f : Fa) : (c3 f).length = 3 := rfl
theorem flat3 : ∀ (xs : List Fa) (j i : Nat) (hj : j < xs.length), i < 3 → (xs.flatMap c3)[3 * j + i]? = (c3 xs[j])[i]?
  | [], j, i, hj, _ => by simp at hj
  | x :: xs, 0, i, _, hi => by
    rw [List.flatMap_cons, List.getElem?_append_left (by rw [c3_len]; omega)]; simp
  | x :: xs, j + 1, i, hj, hi => by
    rw [List.flatMap_cons, List.getElem?_append_right (by rw [c3_len]; omega), c3_len, show 3 * (j + 1) + i - 3 = 3 * j + i by omega]
    exact flat3 xs j i (by simpa using hj) hi
theorem one3 {x : Fa} (h : x.v.oneCell' = true) : ∀ u ∈ c3 x, u.oneCell' = true := by
  intro u hu
  simp only [c3, List.mem_cons, List.not_mem_nil, or_false] at hu
  rcases hu with rfl | rfl | rfl
  · exact h
  all_goals rfl
theorem infoFa : (Try.prog.info? 47).map (fun i => (i.zero, i.size, i.bytes)) = some (some (.agg #[.slice none 0 0, .int .i64 0, .int .i64 0]), 3, 40) := by kernel_rfl
/-- A row of facts of one's own. -/
structure FOwn (w0 w : World) (base : Nat) (v : Value) (Ls : List Fa) : Prop where
  r : w.ownsRow base 47 3 v Ls.length (Ls.flatMap c3)
  s : ∀ f ∈ Ls, SReads w0 f.v f.D ∧ FaB f
theorem FOwn.nil (w0 w : World) (base : Nat) : FOwn w0 w base (.slice none 0 0) [] := ⟨World.ownsRow_nil _ _ _ _, fun f hf => by cases hf⟩
theorem FOwn.form {w0 w : World} {base : Nat} {v : Value} {Ls : List Fa} (h : FOwn w0 w base v Ls) : ∃ a c, v = .slice a Ls.length c := by
  rcases h.r.2 with ⟨h1, h2⟩ | ⟨g, cap, cur, hv, _⟩
  · exact ⟨none, 0, by rw [h1, h2]⟩
  · exact ⟨_, cap, hv⟩
theorem FOwn.reads {w0 w : World} {base : Nat} {v : Value} {Ls : List Fa} (h : FOwn w0 w base v Ls) (hb : Below w0.heap.size w0 w) : FReads w v Ls := by
  have hlt := World.ownsRow.lt h.r
  have h10 := h.r
  rcases h.r.2 with ⟨e1, e2⟩ | ⟨g, cap, cur, hv, hg, hw, hc, hm, _⟩
  · rw [e1]
    have : Ls = [] := List.length_eq_zero_iff.1 e2
    subst this
    exact ⟨none, 0, rfl, by simp, by simp, .inl rfl⟩
  · rw [hv] at h10
    refine ⟨_, cap, hv, hc, hm, ?_⟩
    rcases Nat.eq_zero_or_pos Ls.length with h0 | h0
    · exact .inl (List.length_eq_zero_iff.1 h0)
    · refine .inr ⟨g, 0, rfl, (hlt g (by rw [hv]; rfl)).2, fun j hj => ⟨fun i hi => ?_, (h.s _ (List.getElem_mem hj)).1.below hb, (h.s _ (List.getElem_mem hj)).2⟩⟩
      rw [show 0 + j * 3 + i = 3 * j + i by omega, World.ownsRow.cellAt h10 _ (by omega), flat3 Ls j i hj hi, List.getElem?_eq_getElem (show i < (c3 Ls[j]).length from hi)]
      rfl
theorem FOwn.snoc {w0 w : World} {base : Nat} {v : Value} {Ls M : List Fa} {f : Fa} (hM : M = Ls ++ [f]) (h : w.ownsRow base 47 3 v (Ls.length + 1) (Ls.flatMap c3 ++ c3 f)) (hs : ∀ g ∈ Ls, SReads w0 g.v g.D ∧ FaB g) (hf : SReads w0 f.v f.D) (hb : FaB f) : FOwn w0 w base v M := by
  subst hM
  refine ⟨by rw [List.flatMap_append]; simpa using h, fun g hg => ?_⟩
  rcases List.mem_append.1 hg with h1 | h1
  · exact hs g h1
  · simp only [List.mem_cons, List.not_mem_nil, or_false] at h1
    subst h1
    exact ⟨hf, hb⟩
theorem sizeFa (w : World) : (sizeOf 47).run Try.prog w = .ok 3 w := by
  simp [sizeOf]
  rfl
theorem elemFa : Try.prog.elem 42 = 47 := by kernel_rfl
theorem undFa : Try.prog.underlying 42 = some (.slice (Try.prog.elem 42)) := by rw [elemFa]; exact Try.underlying42
theorem FReads.sliced {w : World} {a : Option Addr} {cap : Nat} {L : List Fa} (h : FReads w (.slice a L.length cap) L) {c d : Nat} (hc : c ≤ d) (hd : d ≤ L.length) : FReads w (Go.sliced a c d cap 3) ((L.take d).drop c) := by
  obtain ⟨a', cap', hv, h1, h2, h3⟩ := h
  simp at hv
  obtain ⟨rfl, rfl⟩ := hv
  unfold Go.sliced
  have hl : ((L.take d).drop c).length = d - c := by simp; omega
  refine ⟨_, cap - c, by rw [hl], by omega, by omega, ?_⟩
  rcases Nat.eq_zero_or_pos (d - c) with h0 | h0
  · exact .inl (List.length_eq_zero_iff.1 (by omega))
  · rcases h3 with rfl | ⟨b, off, rfl, h5, h6⟩
    · simp at hd; omega
    · rw [if_neg (by omega)]
      refine .inr ⟨b, off + c * 3, by simp [Addr.add], h5, fun j hj => ?_⟩
      obtain ⟨g1, g2, g3⟩ := h6 (c + j) (by omega)
      have e : ((L.take d).drop c)[j]'hj = L[c + j]'(by omega) := by simp
      rw [e]
      refine ⟨fun i hi => ?_, g2, g3⟩
      rw [← g1 i hi, show off + c * 3 + j * 3 + i = off + (c + j) * 3 + i by omega]
theorem fsl_from {w : World} {a : Option Addr} {cap : Nat} {L : List Fa} (h : FReads w (.slice a L.length cap) L) {c : Nat} (hc : c ≤ L.length) :
    ∃ a' cap', (∀ w', (Instr.slice 42 (.slice a L.length cap) (some (.int .i64 (c : Int))) none none).run Try.prog w' = .ok (.slice a' (L.length - c) cap') w') ∧ FReads w (.slice a' (L.length - c) cap') (L.drop c) := by
  refine ⟨(if cap = c then a else a.map (·.add (c * 3))), cap - c, fun w' => ?_, ?_⟩
  rotate_left
  · have := h.sliced hc (Nat.le_refl _)
    rw [List.take_length] at this
    exact this
  · rw [run_slice_l _ _ _ _ _ undFa _ _ (by omega) (by omega), elemFa, sizeFa]
    rfl
theorem fsl_upto {w : World} {a : Option Addr} {cap : Nat} {L : List Fa} (h : FReads w (.slice a L.length cap) L) {d : Nat} (hd : d ≤ L.length) :
    ∃ a' cap', (∀ w', (Instr.slice 42 (.slice a L.length cap) none (some (.int .i64 (d : Int))) none).run Try.prog w' = .ok (.slice a' d cap') w') ∧ FReads w (.slice a' d cap') (L.take d) := by
  have hcap : d ≤ cap := by
    obtain ⟨a', cap', hv, h1, _⟩ := h
    simp at hv
    omega
  refine ⟨(if cap = 0 then a else a.map (·.add (0 * 3))), cap - 0, fun w' => ?_, ?_⟩
  rotate_left
  · exact h.sliced (Nat.zero_le d) hd
  · rw [run_slice_h _ _ _ _ _ undFa _ _ (by omega) (by omega), elemFa, sizeFa]
    rfl
/-- Facts where they may be. -/
theorem facts_ok (R : Rl) (wm : Int) (v : Value) (fs : List Fa) (w : World) (hL : Lies R w.heap.size w) (hF : FReads w v fs) (hl : fs.length ≤ 60) (hz : fE R 0 wm = 0) (hall : fs.all mayF = true) (A : List En) (hA : A = foldF R wm (fs.map (fcE R))) :
    Calls Try.prog 19 #[.agg #[.slice R.a R.len R.cap, .int .i64 R.kp], .int .i64 wm, v] w fun e w' => ∃ a cap, e = .returned (.tuple #[.slice a A.length cap, .int .i64 0]) ∧ EReads w' (.slice a A.length cap) A ∧ Below w.heap.size w w' := by
  subst hA
  refine (facts_any R wm v fs w hL hF (by omega) (sorts_all _ (by omega))).mono ?_
  rintro e w2 ⟨hb2, ⟨hne, rfl⟩ | ⟨_, h1, rfl⟩ | ⟨_, _, v2, rfl, hr2⟩⟩
  · exact absurd hz hne
  · rw [hall] at h1; cases h1
  · obtain ⟨a, cap, rfl, _⟩ := hr2.form
    exact ⟨a, cap, rfl, hr2, hb2⟩
theorem fcE_fit {R : Rl} (hR : RightP R) {fs : List Fa} (h : fs.all mayF = true) : FitL R (fs.map (fcE R)) := fun y hy => by
  obtain ⟨f, hf, rfl⟩ := List.mem_map.1 hy
  have hI := fcI_ok hR (List.all_eq_true.1 h f hf)
  have h1 := rdF_kb (fcI R f).D (fcI R f).f ((fcI R f).g : Int) hI.r
  exact ⟨⟨_, _, _, h1, by rw [Int.toNat_natCast]; exact hI.beg hR⟩, hI.n, hI.g⟩
theorem all_sub {fs gs : List Fa} (h : fs.all mayF = true) (hs : ∀ f ∈ gs, f ∈ fs) : gs.all mayF = true := List.all_eq_true.2 fun f hf => List.all_eq_true.1 h f (hs f hf)
/-- What comes of parts, put together. -/
theorem fparts_pure {R : Rl} (hR : RightP R) {wm : Int} {fs : List Fa} (h : fs.all mayF = true) (c : Nat) :
    rowsF [foldF R wm ((fs.take c).map (fcE R)), foldF R wm ((fs.drop c).map (fcE R))] = 0 ∧ allF [foldF R wm ((fs.take c).map (fcE R)), foldF R wm ((fs.drop c).map (fcE R))] = foldF R wm (fs.map (fcE R)) ∧ (∀ r ∈ [foldF R wm ((fs.take c).map (fcE R)), foldF R wm ((fs.drop c).map (fcE R))], r.length ≤ fs.length ∧ ∀ x ∈ r, x.1.length ≤ 1000) := by
  have h1 := all_sub h (gs := fs.take c) (fun f hf => List.mem_of_mem_take hf)
  have h2 := all_sub h (gs := fs.drop c) (fun f hf => List.mem_of_mem_drop hf)
  have g1 := fcE_gd R (fs.take c)
  have g2 := fcE_gd R (fs.drop c)
  have f1 := foldF_fit (w := wm) hR g1 (fcE_fit hR h1)
  have f2 := foldF_fit (w := wm) hR g2 (fcE_fit hR h2)
  have r1 := row_two (rowF_of (foldF_srt R wm _) (fun x hx => (f1 x hx).r)) (rowF_of (foldF_srt R wm _) (fun x hx => (f2 x hx).r))
  refine ⟨r1, ?_, fun r hr => ?_⟩
  · rw [allF_can r1 (fun r hr => by
      simp only [List.mem_cons, List.not_mem_nil, or_false] at hr
      rcases hr with rfl | rfl
      · exact foldF_gd g1
      · exact foldF_gd g2)]
    simp only [List.flatten_cons, List.flatten_nil, List.append_nil]
    unfold foldF
    rw [can_two (fm_gd _ g1) (fm_gd _ g2), ← fm_app, ← List.map_append, List.take_append_drop]
  · simp only [List.mem_cons, List.not_mem_nil, or_false] at hr
    rcases hr with rfl | rfl
    · exact ⟨by have := foldF_len R wm ((fs.take c).map (fcE R)); rw [List.length_map, List.length_take] at this; omega, fun x hx => fit_short (f1 x hx).k⟩
    · exact ⟨by have := foldF_len R wm ((fs.drop c).map (fcE R)); rw [List.length_map, List.length_drop] at this; omega, fun x hx => fit_short (f2 x hx).k⟩
end Go.Proofs.Ytbadjigfcncfcaa
