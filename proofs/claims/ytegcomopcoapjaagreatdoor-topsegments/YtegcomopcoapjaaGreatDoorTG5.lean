/- WL0 WF1 WC1 K6 RT, joined. -/
import Derived.Test.YtegcomopcoapjaaGreatDoorTG1
import Derived.Test.YtegcomopcoapjaaGreatDoorTG3
import Derived.Test.YtegcomopcoapjaaGreatDoorTG4
import Derived.Deep.Slices
import Derived.Deep.MidRow
import Derived.Shelf.Abstract
import Derived.Laws.BitsAllLaws
/- Facts and records as bytes, there and back: no program in sight. -/
namespace Go.Proofs.YtegcomopcoapjaaGreatDoor

/-- A fact, plainly. -/
structure Fc where
  D : List ByteArray
  t : Int
  x : Int
theorem Fc.eq {f g : Fc} : (f.D = g.D ∧ f.t = g.t ∧ f.x = g.x) ↔ f = g := by
  cases f; cases g; simp
instance : DecidableEq Fc := fun _ _ => decidable_of_iff _ Fc.eq
def FcB (f : Fc) : Prop := -9223372036854775808 ≤ f.t ∧ f.t ≤ 9223372036854775807 ∧ -9223372036854775808 ≤ f.x ∧ f.x ≤ 9223372036854775807
def wrD (D : List ByteArray) : List UInt8 := D.flatMap fun s => tx s.data.toList
def wrF (f : Fc) : List UInt8 := sh f.D.length ++ (wrD f.D ++ (nb f.t ++ nb f.x))
def isTm (t : Int) : Bool := decide (0 ≤ t ∧ t ≤ 1099511627776)
def mayP (f : Fc) : Bool := mayB f.D && isTm f.t
def rightR (fs : List Fc) (m : Int) : Bool := if fs.length = 0 then isTm m else (m == -1 && decide (fs.length ≤ 16) && fs.all mayP)
def wrR (fs : List Fc) (m : Int) : List UInt8 := if fs.length = 0 then 2 :: nb m else 1 :: (sh fs.length ++ fs.flatMap wrF)
/-- Texts at the front. -/
def rdD : Nat → List UInt8 → Option (List ByteArray × List UInt8)
  | 0, b => some ([], b)
  | k + 1, b => if (rtF b [] 0).2.2 = 0 then (rdD k (b.drop (rtF b [] 0).2.1)).map fun q => (⟨(rtF b [] 0).1.toArray⟩ :: q.1, q.2) else none
/-- A fact at the front. -/
def rdF (b : List UInt8) : Option (Fc × List UInt8) :=
  if (rsF b 0 0).2.2 = 0 ∧ (rsF b 0 0).1 ≤ 4 then
    match rdD (rsF b 0 0).1 (b.drop (rsF b 0 0).2.1) with
    | none => none
    | some (D, r) => if r.length < 16 then none else some (⟨D, (rnF r).1, (rnF (r.drop 8)).1⟩, r.drop 16)
  else none
def gaF : Nat → List UInt8 → List Fc
  | 0, _ => []
  | k + 1, b => match rdF b with
    | none => []
    | some (f, r) => if mayP f then f :: gaF k r else []
def guF : List UInt8 → List Fc × Int
  | [] => ([], -1)
  | c :: b => if c = 2 then ([], (rnF b).1) else (gaF 16 (b.drop (rsF b 0 0).2.1), -1)
def rdR (b : List UInt8) : Option (List Fc × Int) := if rightR (guF b).1 (guF b).2 = true ∧ wrR (guF b).1 (guF b).2 = b then some (guF b) else none
theorem tx_app2 (l m : List UInt8) : tx l ++ m = txb l ++ 0 :: 1 :: m := by unfold tx; simp
theorem rdD_wrD : ∀ (D : List ByteArray) (m : List UInt8), rdD D.length (wrD D ++ m) = some (D, m)
  | [], m => by simp [rdD, wrD]
  | s :: D, m => by
    have e : wrD (s :: D) ++ m = txb s.data.toList ++ 0 :: 1 :: (wrD D ++ m) := by
      rw [← tx_app2]; simp [wrD]
    have e2 : wrD (s :: D) ++ m = tx s.data.toList ++ (wrD D ++ m) := by simp [wrD]
    have h := rtF_tx s.data.toList (wrD D ++ m) [] 0
    rw [List.length_cons, rdD, e, h]
    simp only [if_pos trivial, Nat.zero_add, List.nil_append]
    rw [← tx_app2, List.drop_left, rdD_wrD D m]
    simp
theorem rdF_wrF (f : Fc) (m : List UInt8) (h4 : f.D.length ≤ 4) (hb : FcB f) : rdF (wrF f ++ m) = some (f, m) := by
  have e : wrF f ++ m = sh f.D.length ++ (wrD f.D ++ (nb f.t ++ (nb f.x ++ m))) := by simp [wrF]
  have h := rsF_sh f.D.length (wrD f.D ++ (nb f.t ++ (nb f.x ++ m))) 0 0 (by simp) (by simp; omega) (by simp)
  simp only [Nat.zero_add, Nat.pow_zero, Nat.one_mul] at h
  unfold rdF
  rw [e, h]
  simp only [true_and]
  rw [if_pos h4, List.drop_left, rdD_wrD]
  have hl : ¬ (nb f.t ++ (nb f.x ++ m)).length < 16 := by simp only [List.length_append, nb_len]; omega
  simp only [if_neg hl]
  rw [rnF_nb _ hb.1 hb.2.1, show (nb f.t ++ (nb f.x ++ m)).drop 8 = nb f.x ++ m from by rw [List.drop_append_of_le_length (by rw [nb_len]; omega), List.drop_of_length_le (by rw [nb_len]; omega)]; rfl, rnF_nb _ hb.2.2.1 hb.2.2.2]
  have : (nb f.t ++ (nb f.x ++ m)).drop 16 = m := by
    rw [← List.append_assoc, List.drop_append_of_le_length (by simp [nb_len]), List.drop_of_length_le (by simp [nb_len])]; rfl
  rw [this]
theorem rdF_nil : rdF [] = none := by simp [rdF, rsF]
theorem mayP_4 {f : Fc} (h : mayP f = true) : f.D.length ≤ 4 := by
  unfold mayP at h; rw [Bool.and_eq_true] at h; exact (mayB_iff.1 h.1).1
theorem gaF_wr : ∀ (k : Nat) (fs : List Fc), fs.length ≤ k → fs.all mayP = true → (∀ f ∈ fs, FcB f) → gaF k (fs.flatMap wrF) = fs
  | 0, fs, h, _, _ => by
    cases fs with
    | nil => rfl
    | cons _ _ => simp at h
  | k + 1, [], _, _, _ => by simp [gaF, rdF_nil]
  | k + 1, f :: fs, h, ha, hb => by
    simp only [List.all_cons, Bool.and_eq_true] at ha
    have hb1 := hb f (List.mem_cons_self ..)
    rw [List.flatMap_cons, gaF, rdF_wrF f _ (mayP_4 ha.1) hb1]
    simp only [if_pos ha.1]
    rw [gaF_wr k fs (by simp at h; omega) ha.2 (fun g hg => hb g (List.mem_cons_of_mem _ hg))]
theorem rightR_all {fs : List Fc} {m : Int} (h : rightR fs m = true) : fs.length ≤ 16 ∧ fs.all mayP = true := by
  unfold rightR at h
  by_cases e : fs.length = 0
  · rw [List.length_eq_zero_iff.1 e]; simp
  · rw [if_neg e] at h; simp at h; exact ⟨h.1.2, by simpa using h.2⟩
theorem isTm_iff {t : Int} : isTm t = true ↔ 0 ≤ t ∧ t ≤ 1099511627776 := by simp [isTm]
theorem guF_wr {fs : List Fc} {m : Int} (h : rightR fs m = true) (hb : ∀ f ∈ fs, FcB f) : guF (wrR fs m) = (fs, m) := by
  obtain ⟨h1, h2⟩ := rightR_all h
  unfold wrR
  unfold rightR at h
  by_cases e : fs.length = 0
  · rw [if_pos e] at h ⊢
    obtain ⟨a, b⟩ := isTm_iff.1 h
    have := rnF_nb m (by omega) (by omega) []
    rw [List.append_nil] at this
    rw [guF, if_pos rfl, this, List.length_eq_zero_iff.1 e]
  · rw [if_neg e] at h ⊢
    simp only [Bool.and_eq_true, beq_iff_eq] at h
    have hs := rsF_sh fs.length (fs.flatMap wrF) 0 0 (by simp) (by simp; omega) (by simp)
    simp only [Nat.zero_add, Nat.pow_zero, Nat.one_mul] at hs
    rw [guF, if_neg (by decide), hs]
    simp only [List.drop_left]
    rw [gaF_wr 16 fs h1 h2 hb, h.1.1]
theorem wrR_inj {fs gs : List Fc} {m n : Int} (h : rightR fs m = true) (hb : ∀ f ∈ fs, FcB f) (h' : rightR gs n = true) (hb' : ∀ f ∈ gs, FcB f) (e : wrR fs m = wrR gs n) : fs = gs ∧ m = n := by
  have := guF_wr h hb
  rw [e, guF_wr h' hb'] at this
  exact ⟨(congrArg Prod.fst this).symm, (congrArg Prod.snd this).symm⟩
theorem rdR_wr {fs : List Fc} {m : Int} (h : rightR fs m = true) (hb : ∀ f ∈ fs, FcB f) : rdR (wrR fs m) = some (fs, m) := by
  unfold rdR
  rw [guF_wr h hb, if_pos ⟨h, rfl⟩]
theorem rnF_bd (l : List UInt8) : -9223372036854775808 ≤ (rnF l).1 ∧ (rnF l).1 ≤ 9223372036854775807 := by
  unfold rnF
  by_cases h : l.length < 8
  · rw [if_pos h]; simp
  · rw [if_neg h]
    have := beval8 ((l.take 8).map fun x => (x.toNat : Int)) (by simp; omega) (by
      intro x hx
      obtain ⟨u, _, rfl⟩ := List.mem_map.1 hx
      have := u.toNat_lt
      omega)
    simp only
    omega
theorem rdF_bd {b : List UInt8} {f : Fc} {r : List UInt8} (h : rdF b = some (f, r)) : FcB f := by
  unfold rdF at h
  by_cases c : (rsF b 0 0).2.2 = 0 ∧ (rsF b 0 0).1 ≤ 4
  · rw [if_pos c] at h
    cases hd : rdD (rsF b 0 0).1 (b.drop (rsF b 0 0).2.1) with
    | none => rw [hd] at h; cases h
    | some q =>
      rw [hd] at h
      obtain ⟨D, r'⟩ := q
      simp only at h
      by_cases c2 : r'.length < 16
      · rw [if_pos c2] at h; cases h
      · rw [if_neg c2] at h
        cases h
        exact ⟨(rnF_bd _).1, (rnF_bd _).2, (rnF_bd _).1, (rnF_bd _).2⟩
  · rw [if_neg c] at h; cases h
theorem gaF_bd : ∀ (k : Nat) (b : List UInt8), ∀ f ∈ gaF k b, FcB f
  | 0, _, f, h => by simp [gaF] at h
  | k + 1, b, f, h => by
    rw [gaF] at h
    cases hr : rdF b with
    | none => rw [hr] at h; simp at h
    | some q =>
      obtain ⟨g, r⟩ := q
      rw [hr] at h
      simp only at h
      by_cases c : mayP g = true
      · rw [if_pos c] at h
        rcases List.mem_cons.1 h with rfl | h
        · exact rdF_bd hr
        · exact gaF_bd k r f h
      · rw [if_neg c] at h; simp at h
theorem guF_bd (b : List UInt8) : ∀ f ∈ (guF b).1, FcB f := by
  cases b with
  | nil => simp [guF]
  | cons c b =>
    rw [guF]
    by_cases e : c = 2
    · rw [if_pos e]; simp
    · rw [if_neg e]; exact gaF_bd 16 _
theorem rdR_some {b : List UInt8} {fs : List Fc} {m : Int} (h : rdR b = some (fs, m)) : rightR fs m = true ∧ (∀ f ∈ fs, FcB f) ∧ wrR fs m = b := by
  unfold rdR at h
  by_cases c : rightR (guF b).1 (guF b).2 = true ∧ wrR (guF b).1 (guF b).2 = b
  · rw [if_pos c] at h
    have e := Option.some.inj h
    have hb := guF_bd b
    rw [e] at c hb
    exact ⟨c.1, hb, c.2⟩
  · rw [if_neg c] at h; cases h
theorem rdR_iff {b : List UInt8} {fs : List Fc} {m : Int} : rdR b = some (fs, m) ↔ rightR fs m = true ∧ (∀ f ∈ fs, FcB f) ∧ wrR fs m = b :=
  ⟨rdR_some, fun h => by rw [← h.2.2]; exact rdR_wr h.1 h.2.1⟩
theorem rdR_none {b : List UInt8} (h : ∀ fs m, rightR fs m = true → (∀ f ∈ fs, FcB f) → wrR fs m ≠ b) : rdR b = none := by
  cases e : rdR b with
  | none => rfl
  | some q => obtain ⟨h1, h2, h3⟩ := rdR_some (fs := q.1) (m := q.2) e; exact absurd h3 (h _ _ h1 h2)
theorem tx_le (l : List UInt8) : (tx l).length ≤ 2 * l.length + 2 := tx_len l
theorem wrD_len : ∀ (D : List ByteArray), (∀ s ∈ D, s.size ≤ 16) → (wrD D).length ≤ 34 * D.length
  | [], _ => by simp [wrD]
  | s :: D, h => by
    have ih := wrD_len D (fun t ht => h t (List.mem_cons_of_mem _ ht))
    have h1 := tx_len s.data.toList
    have h2 := h s (List.mem_cons_self ..)
    have h3 : s.data.toList.length = s.size := Array.length_toList
    have e : wrD (s :: D) = tx s.data.toList ++ wrD D := by simp [wrD]
    rw [e, List.length_append, List.length_cons]; omega
theorem wrF_len {f : Fc} (h : mayP f = true) : (wrF f).length ≤ 162 := by
  have h4 := mayP_4 h
  unfold mayP at h
  rw [Bool.and_eq_true] at h
  have h1 := wrD_len f.D (mayB_iff.1 h.1).2
  have h2 := sh_len10 (n := f.D.length) (by omega)
  unfold wrF
  simp only [List.length_append, nb_len]
  omega
theorem flat_len : ∀ (fs : List Fc), fs.all mayP = true → (fs.flatMap wrF).length ≤ 162 * fs.length
  | [], _ => by simp
  | f :: fs, h => by
    simp only [List.all_cons, Bool.and_eq_true] at h
    have := wrF_len h.1
    have := flat_len fs h.2
    simp only [List.flatMap_cons, List.length_append, List.length_cons]
    omega
theorem wrR_len {fs : List Fc} {m : Int} (h : rightR fs m = true) : (wrR fs m).length ≤ 2700 := by
  obtain ⟨h1, h2⟩ := rightR_all h
  have h3 := flat_len fs h2
  have h4 := sh_len10 (n := fs.length) (by omega)
  unfold wrR
  by_cases e : fs.length = 0
  · rw [if_pos e]; simp [nb_len]
  · rw [if_neg e]; simp only [List.length_cons, List.length_append]; omega
end Go.Proofs.YtegcomopcoapjaaGreatDoor

/- Facts and records in memory. -/
namespace Go.Proofs.YtegcomopcoapjaaGreatDoor
open Go.ChangeShapes Go.WideShapes Go.ChangeAt Go.RowKit Go.Joins

theorem cells64 : Tryz.prog.cellsOf 2 = 1 := by kernel_rfl
theorem some_of_len {α : Type} {xs : List α} {n i : Nat} (h : xs.length = n) (hi : i < n) : ∃ y, xs[i]? = some y := ⟨xs[i], by rw [List.getElem?_eq_getElem (by omega)]⟩
/-- A fact. -/
structure Fa where
  v : Value
  D : List ByteArray
  t : Int
  x : Int
def c3 (f : Fa) : List Value := [f.v, .int .i64 f.t, .int .i64 f.x]
structure FaB (f : Fa) : Prop where
  t1 : -9223372036854775808 ≤ f.t
  t2 : f.t ≤ 9223372036854775807
  x1 : -9223372036854775808 ≤ f.x
  x2 : f.x ≤ 9223372036854775807
/-- A slice reads these facts. -/
def FReads (w : World) (v : Value) (fs : List Fa) : Prop :=
  ∃ a cap, v = .slice a fs.length cap ∧ fs.length ≤ cap ∧ cap ≤ maxLen ∧ (fs = [] ∨ ∃ b off, a = some ⟨b, off, none⟩ ∧ b < w.heap.size ∧ ∀ j (hj : j < fs.length), (∀ i (hi : i < 3), w.cell? ⟨b, off + j * 3 + i, none⟩ = some ((c3 fs[j])[i]'hi)) ∧ SReads w fs[j].v fs[j].D ∧ FaB fs[j])
theorem FReads.below {w w' : World} {v : Value} {fs : List Fa} (h : FReads w v fs) (hb : Below w.heap.size w w') : FReads w' v fs := by
  obtain ⟨a, cap, rfl, h1, h2, h3⟩ := h
  refine ⟨a, cap, rfl, h1, h2, ?_⟩
  rcases h3 with h3 | ⟨b, off, h4, h5, h6⟩
  · exact .inl h3
  · refine .inr ⟨b, off, h4, Nat.lt_of_lt_of_le h5 hb.size, fun j hj => ?_⟩
    obtain ⟨g1, g2, g3⟩ := h6 j hj
    exact ⟨fun i hi => (hb.cell (p := ⟨b, off + j * 3 + i, none⟩) h5).trans (g1 i hi), g2.below hb, g3⟩
theorem FReads.form {w : World} {v : Value} {fs : List Fa} (h : FReads w v fs) : ∃ a cap, v = .slice a fs.length cap ∧ fs.length ≤ cap ∧ cap ≤ maxLen := by
  obtain ⟨a, cap, rfl, h1, h2, _⟩ := h
  exact ⟨a, cap, rfl, h1, h2⟩
theorem FReads.at {w : World} {a : Option Addr} {n cap : Nat} {fs : List Fa} (h : FReads w (.slice a n cap) fs) {j : Nat} (hj : j < fs.length) : ∃ b off, a = some ⟨b, off, none⟩ ∧ b < w.heap.size ∧ (∀ i (hi : i < 3), w.cell? ⟨b, off + j * 3 + i, none⟩ = some ((c3 fs[j])[i]'hi)) ∧ SReads w fs[j].v fs[j].D ∧ FaB fs[j] := by
  obtain ⟨a', cap', hv, _, _, h3⟩ := h
  simp at hv
  obtain ⟨rfl, rfl, rfl⟩ := hv
  rcases h3 with rfl | ⟨b, off, rfl, h5, h6⟩
  · simp at hj
  · exact ⟨b, off, rfl, h5, (h6 j hj).1, (h6 j hj).2.1, (h6 j hj).2.2⟩
theorem threeF {α : Type} : ∀ {l : List α}, l.length = 3 → ∃ c0 c1 c2, l = [c0, c1, c2]
  | [c0, c1, c2], _ => ⟨c0, c1, c2, rfl⟩
theorem cellsS : Tryz.prog.cellsOf 51 = 1 := by kernel_rfl
set_option maxRecDepth 100000 in
theorem openF' {H : Type} {enc : TypeId × Value → H} {W : World} {base : Nat} {spare : Nat → Bool} {held : Bool} {c0 c1 c2 : Value} {x : DataW H × List MemPlace} {fuel : Nat}
    (hf : DataW.trod enc Tryz.prog W base spare held fuel 60 [c0, c1, c2] = some x) : ∃ f : Fa, [c0, c1, c2] = c3 f ∧ SReads W f.v f.D ∧ FaB f := by
  obtain ⟨xs, n, _, _, _, hlen, hfs⟩ := DataW.trod_struct Tryz.underlying60 hf
  obtain ⟨y0, g0⟩ := some_of_len (i := 0) hlen (by decide)
  obtain ⟨y1, g1⟩ := some_of_len (i := 1) hlen (by decide)
  obtain ⟨y2, g2⟩ := some_of_len (i := 2) hlen (by decide)
  have e0 := (hfs 0 _ rfl).trans g0
  have e1 := (hfs 1 _ rfl).trans g1
  have e2 := (hfs 2 _ rfl).trans g2
  simp [cellsS] at e0
  simp [cells64] at e1
  simp [cells64] at e2
  obtain ⟨D, hD⟩ := openS' e0
  obtain ⟨t, q1, _, w1⟩ := DataW.trod_int Tryz.underlying2 e1
  obtain ⟨v, q2, _, w2⟩ := DataW.trod_int Tryz.underlying2 e2
  simp at q1 q2
  subst q1 q2
  have b1 := bounds_i64 w1
  have b2 := bounds_i64 w2
  exact ⟨⟨c0, D, t, v⟩, rfl, hD, b1.1, b1.2, b2.1, b2.2⟩
set_option maxRecDepth 100000 in
theorem openF2 {H : Type} {enc : TypeId × Value → H} {W : World} {base : Nat} {spare : Nat → Bool} {held : Bool} {v : Value} {d : DataW H × List MemPlace} {fuel : Nat}
    (hf : DataW.trod enc Tryz.prog W base spare held fuel 35 [v] = some d) : ∃ fs : List Fa, FReads W v fs := by
  rcases Go.Deep.open_slice Tryz.underlying35 hf with ⟨hcs, _⟩ | ⟨x, len, cap, m, n, D, Pl, hcs, _, hl, hm, hz, _, hcell⟩
  · simp at hcs
    subst hcs
    exact ⟨[], none, 0, rfl, by simp, by simp, .inl rfl⟩
  · simp at hcs
    subst hcs
    have hzl : len ≤ m := by rw [hz]; split <;> omega
    have hce : Tryz.prog.cellsOf 60 = 3 := by kernel_rfl
    rw [hce] at hcell
    have hall : ∀ j, ∃ (y : Fa), j < len → (∀ i (hi : i < 3), W.cell? (x.add (j * 3 + i)) = some ((c3 y)[i]'hi)) ∧ SReads W y.v y.D ∧ FaB y := by
      intro j
      by_cases hj : j < len
      · obtain ⟨cs', hc1, hc2⟩ := hcell j (by omega)
        obtain ⟨_, hl7, hq⟩ := World.cells?_some hc1
        obtain ⟨c0, c1, c2, rfl⟩ := threeF hl7
        obtain ⟨f, e, hr, ha⟩ := openF' hc2
        refine ⟨f, fun _ => ⟨fun i hi => ?_, hr, ha⟩⟩
        have h1 := hq i hi
        rw [e, List.getElem?_eq_getElem (show i < (c3 f).length from hi)] at h1
        have ea : (x.add (j * 3)).add i = x.add (j * 3 + i) := by
          obtain ⟨xb, xo, xs⟩ := x
          by_cases h1 : j = 0
          · subst h1; simp [Addr.add]
          · have h2 : j * 3 ≠ 0 := by omega
            have h3 : j * 3 + i ≠ 0 := by omega
            by_cases h4 : i = 0
            · subst h4; simp [Addr.add]
            · have h5 : xo + j * 3 + i = xo + (j * 3 + i) := by omega
              unfold Addr.add
              rw [if_neg h2, if_neg h4, if_neg h3]
              simp only [h5]
        rw [ea] at h1
        exact h1
      · exact ⟨⟨.bool false, [], 0, 0⟩, fun h => absurd h hj⟩
    obtain ⟨ys, hys⟩ := Classical.axiomOfChoice hall
    rcases Nat.eq_zero_or_pos len with h0 | h0
    · subst h0
      exact ⟨[], _, cap, rfl, by simp, hm, .inl rfl⟩
    · have k0 := (hys 0 h0).1 0 (by decide)
      have e0 : x.add (0 * 3 + 0) = x := by simp [Addr.add]
      rw [e0] at k0
      obtain ⟨hb, hs⟩ := cell_block k0
      obtain ⟨b, off, spot⟩ := x
      simp only at hb hs
      subst hs
      refine ⟨(List.range len).map fun j => ys j, _, cap, by simp, by simpa using hl, hm, .inr ⟨b, off, rfl, hb, fun j hj => ?_⟩⟩
      simp at hj
      obtain ⟨g1, g2, g3⟩ := hys j hj
      have ej : ((List.range len).map fun j => ys j)[j]'(by simpa using hj) = ys j := by simp
      rw [ej]
      refine ⟨fun i hi => ?_, g2, g3⟩
      have ea : (⟨b, off, none⟩ : Addr).add (j * 3 + i) = ⟨b, off + j * 3 + i, none⟩ := by rw [Nat.add_assoc]; simp [Addr.add]
      have := g1 i hi
      rw [ea] at this
      exact this
set_option maxRecDepth 100000 in
theorem openF {H : Type} {enc : TypeId × Value → H} {W : World} {r : Reach} {b0 base : Nat} {spare : Nat → Bool} {held : Bool} {v : Value} {d : DataW H} {p : List MemPlace}
    (hv : Value.okWide Tryz.prog W r b0 35 v) (h : DataW.Trod enc Tryz.prog W base spare held 35 v d p) : ∃ fs : List Fa, FReads W v fs := by
  obtain ⟨a, len, cap, rfl⟩ := okWide_slice Tryz.underlying35 hv
  obtain ⟨fuel, hf⟩ := h
  exact openF2 (by simpa [Value.cells] using hf)
def Fa.p (f : Fa) : Fc := ⟨f.D, f.t, f.x⟩
def Fa.val (f : Fa) : Value := .agg #[f.v, .int .i64 f.t, .int .i64 f.x]
theorem FaB.p {f : Fa} (h : FaB f) : FcB f.p := ⟨h.t1, h.t2, h.x1, h.x2⟩
theorem arr3 {α : Type} {cs : Array α} (h : cs.size = 3) : ∃ c0 c1 c2, cs = #[c0, c1, c2] := by
  obtain ⟨l⟩ := cs
  match l, h with
  | [c0, c1, c2], _ => exact ⟨c0, c1, c2, rfl⟩
set_option maxRecDepth 100000 in
theorem openFc {H : Type} {enc : TypeId × Value → H} {W : World} {r : Reach} {b0 base : Nat} {spare : Nat → Bool} {held : Bool} {v : Value} {d : DataW H} {p : List MemPlace}
    (hv : Value.okWide Tryz.prog W r b0 60 v) (h : DataW.Trod enc Tryz.prog W base spare held 60 v d p) : ∃ f : Fa, v = f.val ∧ SReads W f.v f.D ∧ FaB f := by
  obtain ⟨cs, rfl, hsz⟩ := okWide_struct Tryz.underlying60 hv
  obtain ⟨c0, c1, c2, rfl⟩ := arr3 (hsz.trans (by kernel_rfl))
  obtain ⟨fuel, hf⟩ := h
  obtain ⟨f, e, hr, hb⟩ := openF' hf
  refine ⟨f, ?_, hr, hb⟩
  have e' : #[c0, c1, c2] = #[f.v, .int .i64 f.t, .int .i64 f.x] := congrArg List.toArray e
  rw [e']; rfl
/-- A record. -/
structure Rc where
  v : Value
  fs : List Fa
  m : Int
def Rc.val (r : Rc) : Value := .agg #[r.v, .int .i64 r.m]
def Rc.p (r : Rc) : List Fc := r.fs.map Fa.p
def c2r (r : Rc) : List Value := [r.v, .int .i64 r.m]
structure RcOk (w : World) (r : Rc) : Prop where
  f : FReads w r.v r.fs
  m1 : -9223372036854775808 ≤ r.m
  m2 : r.m ≤ 9223372036854775807
theorem RcOk.below {w w' : World} {r : Rc} (h : RcOk w r) (hb : Below w.heap.size w w') : RcOk w' r := ⟨h.f.below hb, h.m1, h.m2⟩
theorem FReads.fb {w : World} {v : Value} {fs : List Fa} (h : FReads w v fs) : ∀ f ∈ fs, FaB f := by
  intro f hf
  obtain ⟨j, hj, rfl⟩ := List.getElem_of_mem hf
  obtain ⟨a, cap, rfl, _⟩ := h.form
  obtain ⟨_, _, _, _, _, _, hb⟩ := h.at hj
  exact hb
theorem RcOk.pb {w : World} {r : Rc} (h : RcOk w r) : ∀ f ∈ r.p, FcB f := by
  intro f hf
  obtain ⟨g, hg, rfl⟩ := List.mem_map.1 hf
  exact (h.f.fb g hg).p
theorem cellsFs : Tryz.prog.cellsOf 35 = 1 := by kernel_rfl
set_option maxRecDepth 100000 in
theorem openRc' {H : Type} {enc : TypeId × Value → H} {W : World} {base : Nat} {spare : Nat → Bool} {held : Bool} {c0 c1 : Value} {x : DataW H × List MemPlace} {fuel : Nat}
    (hf : DataW.trod enc Tryz.prog W base spare held fuel 37 [c0, c1] = some x) : ∃ r : Rc, [c0, c1] = c2r r ∧ RcOk W r := by
  obtain ⟨xs, n, _, _, _, hlen, hfs⟩ := DataW.trod_struct Tryz.underlying37 hf
  obtain ⟨y0, g0⟩ := some_of_len (i := 0) hlen (by decide)
  obtain ⟨y1, g1⟩ := some_of_len (i := 1) hlen (by decide)
  have e0 := (hfs 0 _ rfl).trans g0
  have e1 := (hfs 1 _ rfl).trans g1
  simp [cellsFs] at e0
  simp [cells64] at e1
  obtain ⟨fs, hF⟩ := openF2 e0
  obtain ⟨m, q1, _, w1⟩ := DataW.trod_int Tryz.underlying2 e1
  simp at q1
  subst q1
  have b1 := bounds_i64 w1
  exact ⟨⟨c0, fs, m⟩, rfl, hF, b1.1, b1.2⟩
theorem arr2 {α : Type} {cs : Array α} (h : cs.size = 2) : ∃ c0 c1, cs = #[c0, c1] := by
  obtain ⟨l⟩ := cs
  match l, h with
  | [c0, c1], _ => exact ⟨c0, c1, rfl⟩
set_option maxRecDepth 100000 in
theorem openRc {H : Type} {enc : TypeId × Value → H} {W : World} {r : Reach} {b0 base : Nat} {spare : Nat → Bool} {held : Bool} {v : Value} {d : DataW H} {p : List MemPlace}
    (hv : Value.okWide Tryz.prog W r b0 37 v) (h : DataW.Trod enc Tryz.prog W base spare held 37 v d p) : ∃ r : Rc, v = r.val ∧ RcOk W r := by
  obtain ⟨cs, rfl, hsz⟩ := okWide_struct Tryz.underlying37 hv
  obtain ⟨c0, c1, rfl⟩ := arr2 (hsz.trans (by kernel_rfl))
  obtain ⟨fuel, hf⟩ := h
  obtain ⟨o, e, hr⟩ := openRc' hf
  refine ⟨o, ?_, hr⟩
  have e' : #[c0, c1] = #[o.v, .int .i64 o.m] := congrArg List.toArray e
  rw [e']; rfl
def RsR (w : World) (v : Value) (L : List Rc) : Prop :=
  ∃ a cap, v = .slice a L.length cap ∧ L.length ≤ maxLen ∧ (L = [] ∨ ∃ b off, a = some ⟨b, off, none⟩ ∧ b < w.heap.size ∧ ∀ j (hj : j < L.length), (∀ i (hi : i < 2), w.cell? ⟨b, off + (j * 2 + i), none⟩ = some ((c2r L[j])[i]'hi)) ∧ RcOk w L[j])
theorem RsR.below {w w' : World} {v : Value} {L : List Rc} (h : RsR w v L) (hb : Below w.heap.size w w') : RsR w' v L := by
  obtain ⟨a, cap, rfl, h2, h3⟩ := h
  refine ⟨a, cap, rfl, h2, ?_⟩
  rcases h3 with h3 | ⟨b, off, h4, h5, h6⟩
  · exact .inl h3
  · refine .inr ⟨b, off, h4, Nat.lt_of_lt_of_le h5 hb.size, fun j hj => ?_⟩
    obtain ⟨g1, g2⟩ := h6 j hj
    exact ⟨fun i hi => (hb.cell (p := ⟨b, off + (j * 2 + i), none⟩) h5).trans (g1 i hi), g2.below hb⟩
theorem RsR.form {w : World} {v : Value} {L : List Rc} (h : RsR w v L) : ∃ a cap, v = .slice a L.length cap ∧ L.length ≤ maxLen := by
  obtain ⟨a, cap, rfl, h1, _⟩ := h
  exact ⟨a, cap, rfl, h1⟩
theorem RsR.at {w : World} {a : Option Addr} {n cap : Nat} {L : List Rc} (h : RsR w (.slice a n cap) L) {j : Nat} (hj : j < L.length) : ∃ b off, a = some ⟨b, off, none⟩ ∧ b < w.heap.size ∧ (∀ i (hi : i < 2), w.cell? ⟨b, off + (j * 2 + i), none⟩ = some ((c2r L[j])[i]'hi)) ∧ RcOk w L[j] := by
  obtain ⟨a', cap', e, h1, h2⟩ := h
  cases e
  rcases h2 with h2 | ⟨b, off, h3, h4, h5⟩
  · subst h2; simp at hj
  · exact ⟨b, off, h3, h4, (h5 j hj).1, (h5 j hj).2⟩
set_option maxRecDepth 100000 in
theorem openRs {H : Type} {enc : TypeId × Value → H} {W : World} {r : Reach} {b0 base : Nat} {spare : Nat → Bool} {held : Bool} {v : Value} {d : DataW H} {p : List MemPlace}
    (hv : Value.okWide Tryz.prog W r b0 33 v) (h : DataW.Trod enc Tryz.prog W base spare held 33 v d p) : ∃ L : List Rc, RsR W v L := by
  obtain ⟨a, len, cap, rfl⟩ := okWide_slice Tryz.underlying33 hv
  obtain ⟨fuel, hf⟩ := h
  rcases Go.Deep.open_slice Tryz.underlying33 hf with ⟨hcs, _⟩ | ⟨x, l, c, m, n, D, Pl, hcs, _, hl, hm, hz, _, hcell⟩
  · simp [Value.cells] at hcs
    obtain ⟨rfl, rfl, rfl⟩ := hcs
    exact ⟨[], none, 0, rfl, by simp, .inl rfl⟩
  · simp [Value.cells] at hcs
    obtain ⟨rfl, rfl, rfl⟩ := hcs
    have hzl : len ≤ m := by rw [hz]; split <;> omega
    have hce : Tryz.prog.cellsOf 37 = 2 := by kernel_rfl
    rw [hce] at hcell
    have hall : ∀ j, ∃ (y : Rc), j < len → (∀ i (hi : i < 2), W.cell? ((x.add (j * 2)).add i) = some ((c2r y)[i]'hi)) ∧ RcOk W y := by
      intro j
      by_cases hj : j < len
      · obtain ⟨cs', hc1, hc2⟩ := hcell j (by omega)
        obtain ⟨_, hl2, hq⟩ := World.cells?_some hc1
        obtain ⟨c0, c1, rfl⟩ : ∃ c0 c1, cs' = [c0, c1] := by
          match cs', hl2 with
          | [c0, c1], _ => exact ⟨c0, c1, rfl⟩
        obtain ⟨q, hr, hk⟩ := openRc' hc2
        refine ⟨q, fun _ => ⟨fun i hi => ?_, hk⟩⟩
        have h0 := hq i (by simpa using hi)
        rw [h0, hr, List.getElem?_eq_getElem (show i < (c2r q).length from hi)]
        rfl
      · exact ⟨⟨.bool false, [], 0⟩, fun h => absurd h hj⟩
    obtain ⟨ys, hys⟩ := Classical.axiomOfChoice hall
    have hmx : len ≤ maxLen := by omega
    rcases Nat.eq_zero_or_pos len with h0 | h0
    · subst h0
      exact ⟨[], _, cap, rfl, by simp, .inl rfl⟩
    · have k0 := (hys 0 h0).1 0 (by decide)
      have e0 : (x.add (0 * 2)).add 0 = x := by simp [Addr.add]
      rw [e0] at k0
      obtain ⟨hb, hs⟩ := cell_block k0
      obtain ⟨b, off, spot⟩ := x
      simp only at hb hs
      subst hs
      refine ⟨(List.range len).map ys, _, cap, by simp, by simpa using hmx, .inr ⟨b, off, rfl, hb, fun j hj => ?_⟩⟩
      simp at hj
      obtain ⟨g1, g2⟩ := hys j hj
      have e : ((List.range len).map ys)[j]'(by simpa using hj) = ys j := by simp
      rw [e]
      refine ⟨fun i hi => ?_, g2⟩
      have g := g1 i hi
      have ea : (⟨b, off, none⟩ : Addr).add (j * 2) = ⟨b, off + j * 2, none⟩ := by simp [Addr.add]
      have eb : (⟨b, off + j * 2, none⟩ : Addr).add i = ⟨b, off + j * 2 + i, none⟩ := by simp [Addr.add]
      rw [ea, eb, Nat.add_assoc] at g
      exact g
end Go.Proofs.YtegcomopcoapjaaGreatDoor

/- wal: which facts and records may be. -/
namespace Go.Proofs.YtegcomopcoapjaaGreatDoor
open Go.RowKit Go.Shelf

set_option maxRecDepth 100000 in
theorem isTime_any (t : Int) (w : World) : Calls Tryz.prog 57 #[.int .i64 t] w fun e w' => e = .returned (.bool (isTm t)) ∧ w' = w := by
  by_cases h1 : 0 ≤ t
  · by_cases h2 : t ≤ 1099511627776
    · have HF : Hid (isTm t = true) := isTm_iff.2 ⟨h1, h2⟩
      go_enter Tryz.func57, Tryz.ntmps57
      go_wp2_with fail
      go_ret
      exact ⟨by rw [HF.out]; first | rfl | (exact ret_bool (by simp; omega)), rfl⟩
    · have HF : Hid (isTm t = false) := by unfold Hid isTm; simp; omega
      have d2 : decide (t ≤ 1099511627776) = false := decide_eq_false h2
      go_enter Tryz.func57, Tryz.ntmps57
      go_wp2_with fail
      go_ret
      exact ⟨by rw [HF.out]; first | rfl | (exact ret_bool (by assumption)), rfl⟩
  · have HF : Hid (isTm t = false) := by unfold Hid isTm; simp; omega
    have d1 : decide (0 ≤ t) = false := decide_eq_false h1
    go_enter Tryz.func57, Tryz.ntmps57
    go_wp2_with fail
    go_ret
    exact ⟨by rw [HF.out]; first | rfl | (exact ret_bool (by assumption)), rfl⟩
def isNo (n : Int) : Bool := decide (1 ≤ n ∧ n ≤ 1099511627776)
theorem isNo_iff {n : Int} : isNo n = true ↔ 1 ≤ n ∧ n ≤ 1099511627776 := by simp [isNo]
set_option maxRecDepth 100000 in
theorem isNumber_any (t : Int) (w : World) : Calls Tryz.prog 18 #[.int .i64 t] w fun e w' => e = .returned (.bool (isNo t)) ∧ w' = w := by
  by_cases h1 : 1 ≤ t
  · by_cases h2 : t ≤ 1099511627776
    · have HF : Hid (isNo t = true) := isNo_iff.2 ⟨h1, h2⟩
      go_enter Tryz.func18, Tryz.ntmps18
      go_wp2_with fail
      go_ret
      exact ⟨by rw [HF.out]; first | rfl | (exact ret_bool (by simp; omega)), rfl⟩
    · have HF : Hid (isNo t = false) := by unfold Hid isNo; simp; omega
      have d2 : decide (t ≤ 1099511627776) = false := decide_eq_false h2
      go_enter Tryz.func18, Tryz.ntmps18
      go_wp2_with fail
      go_ret
      exact ⟨by rw [HF.out]; first | rfl | (exact ret_bool (by assumption)), rfl⟩
  · have HF : Hid (isNo t = false) := by unfold Hid isNo; simp; omega
    have d1 : decide (1 ≤ t) = false := decide_eq_false h1
    go_enter Tryz.func18, Tryz.ntmps18
    go_wp2_with fail
    go_ret
    exact ⟨by rw [HF.out]; first | rfl | (exact ret_bool (by assumption)), rfl⟩
/-- A fact's value in memory. -/
structure FaR (w : World) (f : Fa) : Prop where
  r : SReads w f.v f.D
  b : FaB f
theorem FaR.below {w w' : World} {f : Fa} (h : FaR w f) (hb : Below w.heap.size w w') : FaR w' f := ⟨h.r.below hb, h.b⟩
theorem key0 {L : List ByteArray} : rightB L 0 0 = mayB L := by unfold rightB; simp
set_option maxRecDepth 100000 in
theorem may_any (f : Fa) (w : World) (h : FaR w f) : Calls Tryz.prog 73 #[f.val] w fun e w' => e = .returned (.bool (mayP f.p)) ∧ Below w.heap.size w w' := by
  obtain ⟨v, D, t, x⟩ := f
  obtain ⟨hr, hb⟩ := h
  simp only at hr
  obtain ⟨a, cap, rfl, hm⟩ := hr.form
  have HP : Hid (mayP (Fa.p ⟨.slice a D.length cap, D, t, x⟩) = (mayB D && isTm t)) := rfl
  unfold Fa.val
  simp only
  obtain ⟨q, Hq⟩ := hid_ex (mayP (Fa.p ⟨.slice a D.length cap, D, t, x⟩))
  rw [← Hq.out] at HP ⊢
  have HB : Hid (Below w.heap.size w (w.alloc (.cells #[.slice a D.length cap, .int .i64 t, .int .i64 x] 60))) := (Below.refl _ _).alloc (Nat.le_refl _) _
  have HK : Hid (KLies ⟨.slice a D.length cap, D, 0, 0⟩ (w.alloc (.cells #[.slice a D.length cap, .int .i64 t, .int .i64 x] 60))) := ⟨hr.below HB.out, by simp, by simp, by simp, by simp⟩
  clear hr hb Hq
  go_enter Tryz.func73, Tryz.ntmps73
  go_wp2_with fail
  refine (right_any ⟨.slice a D.length cap, D, 0, 0⟩ _ HK.out).mono ?_
  rintro e w1 ⟨rfl, hb1⟩
  simp only [key0]
  have c1 := hb1.cell (p := ⟨w.heap.size, 1, none⟩) (by simp)
  simp [go_sem] at c1
  have HB1 : Hid (Below w.heap.size w w1) := HB.out.trans (hb1.mono (by simp))
  clear hb1
  cases hmb : mayB D with
  | false =>
    rw [hmb] at HP
    go_wp2_with fail
    go_ret
    exact ⟨by rw [HP.out]; rfl, HB1.out⟩
  | true =>
    rw [hmb] at HP
    go_wp2_with fail
    refine (isTime_any t w1).mono ?_
    rintro e w2 ⟨rfl, hw⟩
    subst w2
    go_wp2_with fail
    go_ret
    exact ⟨by rw [HP.out]; rfl, HB1.out⟩
set_option maxRecDepth 100000 in
theorem mayNot_any (f : Fa) (w : World) (h : FaR w f) : Calls Tryz.prog 59 #[f.val] w fun e w' => e = .returned (.bool (!mayP f.p)) ∧ Below w.heap.size w w' := by
  have HF : Hid (FaR (w.alloc (.cells #[f.v, .int .i64 f.t, .int .i64 f.x] 60)) f) := h.below ((Below.refl _ _).alloc (Nat.le_refl _) _)
  obtain ⟨a, cap, hv, _⟩ := h.r.form
  obtain ⟨q, Hq⟩ := hid_ex (mayP f.p)
  rw [← Hq.out]
  have HM : Hid (Calls Tryz.prog 73 #[f.val] (w.alloc (.cells #[f.v, .int .i64 f.t, .int .i64 f.x] 60)) fun e w' => e = .returned (.bool q) ∧ Below (w.alloc (.cells #[f.v, .int .i64 f.t, .int .i64 f.x] 60)).heap.size (w.alloc (.cells #[f.v, .int .i64 f.t, .int .i64 f.x] 60)) w') := by rw [Hq.out]; exact may_any f _ HF.out
  unfold Fa.val at HM ⊢
  rw [hv] at HM ⊢
  clear Hq HF h
  go_enter Tryz.func59, Tryz.ntmps59
  go_wp2_with fail
  refine HM.out.mono ?_
  rintro e w1 ⟨rfl, hb1⟩
  go_wp2_with fail
  go_ret
  exact ⟨rfl, ((Below.refl _ w).alloc (Nat.le_refl _) _).trans (hb1.mono (by simp))⟩
theorem enMayNot : ∀ args w, (callFunc 59 args).run Tryz.prog w = .ok (.enter 59 args) w := enters_of Tryz.func59 (by kernel_rfl) rfl
theorem FReads.three {w : World} {b off n cap : Nat} {fs : List Fa} (h : FReads w (.slice (some ⟨b, off, none⟩) n cap) fs) {k : Nat} (hk : k < fs.length) (f : Fa) (hf : f = fs[k]) :
    w.cell? ⟨b, off + k * 3, none⟩ = some f.v ∧ w.cell? ⟨b, off + k * 3 + 1, none⟩ = some (.int .i64 f.t) ∧ w.cell? ⟨b, off + k * 3 + 2, none⟩ = some (.int .i64 f.x) ∧ FaR w f := by
  obtain ⟨b', off', e, h1, h2, h3, h4⟩ := h.at hk
  cases e
  subst hf
  exact ⟨h2 0 (by decide), h2 1 (by decide), h2 2 (by decide), h3, h4⟩
theorem FReads.ptr {w : World} {a : Option Addr} {n cap : Nat} {fs : List Fa} (h : FReads w (.slice a n cap) fs) (h0 : 0 < fs.length) : ∃ b off, a = some ⟨b, off, none⟩ ∧ b < w.heap.size := by
  obtain ⟨b, off, e, h1, _⟩ := h.at h0
  exact ⟨b, off, e, h1⟩
set_option maxRecDepth 100000 in
theorem indexFa_any (v : Value) (L : List Fa) (w : World) (hR : FReads w v L) :
    Calls Tryz.prog 72 #[v, .func (.func 59) #[] #[]] w fun e w' => Below w.heap.size w w' ∧ ((∃ k : Nat, e = .returned (.int .i64 (k : Int)) ∧ L.all (fun f => mayP f.p) = false) ∨ (e = .returned (.int .i64 (-1)) ∧ L.all (fun f => mayP f.p) = true)) := by
  have HR : Hid (FReads w v L) := hR
  have eg := enMayNot
  obtain ⟨a, cap, rfl, hl1, hl2⟩ := hR.form
  clear hR
  unfold maxLen at hl2
  go_enter Tryz.func72, Tryz.ntmps72
  go_wp2_with fail
  go_loopw [8] (fun i wr => ∃ k : Nat, k ≤ L.length ∧ i = .int .i64 (k : Int) ∧ Hid (∀ j (hj : j < L.length), j < k → mayP L[j].p = true) ∧ Hid (Below w.heap.size w wr)) (fun i _ => L.length - (intOf i).toNat)
  case atStart => exact ⟨0, by omega, rfl, fun j hj h => absurd h (by omega), Below.refl _ _⟩
  case round =>
    obtain ⟨k, hk, rfl, HP, HB⟩ := hrel
    by_cases hlt : k < L.length
    · obtain ⟨b, off, rfl, hb⟩ := HR.out.ptr (by omega)
      obtain ⟨r, Hr⟩ := hid_ex L[k]
      obtain ⟨c0, c1, c2, hfr⟩ := (HR.out.below HB.out).three hlt r Hr.out
      obtain ⟨ra, rcp, hrv, _⟩ := hfr.r.form
      have HM : Hid (Calls Tryz.prog 59 #[.agg #[.slice ra r.D.length rcp, .int .i64 r.t, .int .i64 r.x]] wr fun e w' => e = .returned (.bool (!mayP r.p)) ∧ Below wr.heap.size wr w') := by
        have := mayNot_any r wr hfr
        unfold Fa.val at this
        rw [hrv] at this
        exact this
      rw [hrv] at c0
      clear hfr hrv
      go_wp2_with fail
      refine HM.out.mono ?_
      rintro e w' ⟨rfl, hb'⟩
      have HBn : Hid (Below w.heap.size w w') := HB.out.trans (hb'.mono HB.out.size)
      clear hb' c0 c1 c2 HM
      obtain ⟨q, Hq⟩ := hid_ex (mayP r.p)
      rw [← Hq.out]
      cases q with
      | false =>
        have HT : Hid (L.all (fun f => mayP f.p) = false) := by
          unfold Hid
          rw [List.all_eq_false]
          exact ⟨L[k], List.getElem_mem hlt, by rw [← Hr.out, ← Hq.out]; simp⟩
        go_wp2_with fail
        go_ret
        exact ⟨HBn.out, .inl ⟨k, rfl, HT.out⟩⟩
      | true =>
        have HN : Hid (∀ j (hj : j < L.length), j < k + 1 → mayP L[j].p = true) := by
          intro j hj hjk
          rcases Nat.lt_or_ge j k with h9 | h9
          · exact HP.out j hj h9
          · obtain rfl : j = k := by omega
            rw [← Hr.out, ← Hq.out]
        go_wp2_with fail
        go_roundw
        case rel => exact ⟨k + 1, by omega, by go_num, HN.out, HBn.out⟩
        case measure => simp [intOf]; omega
    · have HN : Hid (L.all (fun f => mayP f.p) = true) := by
        unfold Hid
        rw [List.all_eq_true]
        intro r hr
        obtain ⟨j, hj, rfl⟩ := List.getElem_of_mem hr
        exact HP.out j hj (by omega)
      go_wp2_with fail
      go_ret
      exact ⟨HB.out, .inr ⟨rfl, HN.out⟩⟩
set_option maxRecDepth 100000 in
theorem containsFa_any (v : Value) (L : List Fa) (w : World) (hR : FReads w v L) :
    Calls Tryz.prog 58 #[v, .func (.func 59) #[] #[]] w fun e w' => e = .returned (.bool (!L.all fun f => mayP f.p)) ∧ Below w.heap.size w w' := by
  have HR : Hid (FReads w v L) := hR
  obtain ⟨a, cap, rfl, hl1, hl2⟩ := hR.form
  clear hR
  obtain ⟨q, Hq⟩ := hid_ex (L.all fun f => mayP f.p)
  rw [← Hq.out]
  go_enter Tryz.func58, Tryz.ntmps58
  go_wp2_with fail
  refine (indexFa_any _ L _ HR.out).mono ?_
  rintro e w' ⟨hb, ⟨k, rfl, h1⟩ | ⟨rfl, h1⟩⟩
  · have HB : Hid (Below w.heap.size w w') := hb
    have HT : Hid (q = false) := Hq.out.trans h1
    clear hb h1 Hq
    go_wp2_with fail
    go_ret
    exact ⟨by rw [HT.out]; rfl, HB.out⟩
  · have HB : Hid (Below w.heap.size w w') := hb
    have HT : Hid (q = true) := Hq.out.trans h1
    clear hb h1 Hq
    go_wp2_with fail
    go_ret
    exact ⟨by rw [HT.out]; rfl, HB.out⟩
theorem all_p {fs : List Fa} : (fs.all fun f => mayP f.p) = (fs.map Fa.p).all mayP := by rw [List.all_map]; rfl
theorem rightR_0 {r : Rc} (h : r.fs.length = 0) : rightR r.p r.m = isTm r.m := by unfold rightR Rc.p; rw [if_pos (by simpa using h)]
theorem rightR_1 {r : Rc} (h : ¬ r.fs.length = 0) : rightR r.p r.m = (r.m == -1 && decide (r.fs.length ≤ 16) && r.fs.all fun f => mayP f.p) := by
  unfold rightR Rc.p; rw [if_neg (by simpa using h), all_p, List.length_map]
set_option maxRecDepth 100000 in
theorem walRight_any (r : Rc) (w : World) (h : RcOk w r) : Calls Tryz.prog 41 #[r.val] w fun e w' => e = .returned (.bool (rightR r.p r.m)) ∧ Below w.heap.size w w' := by
  obtain ⟨a, cap, hv, hl1, hl2⟩ := h.f.form
  unfold maxLen at hl2
  obtain ⟨q, Hq⟩ := hid_ex (rightR r.p r.m)
  rw [← Hq.out]
  have H0 : Hid (r.fs.length = 0 → q = isTm r.m) := fun z => Hq.out.trans (rightR_0 z)
  have H1 : Hid (¬ r.fs.length = 0 → q = (r.m == -1 && decide (r.fs.length ≤ 16) && r.fs.all fun f => mayP f.p)) := fun z => Hq.out.trans (rightR_1 z)
  have HF : Hid (FReads (w.alloc (.cells #[.slice a r.fs.length cap, .int .i64 r.m] 37)) (.slice a r.fs.length cap) r.fs) := by
    have := h.f.below ((Below.refl w.heap.size w).alloc (Nat.le_refl _) (.cells #[.slice a r.fs.length cap, .int .i64 r.m] 37))
    rw [hv] at this
    exact this
  have HB : Hid (Below w.heap.size w (w.alloc (.cells #[.slice a r.fs.length cap, .int .i64 r.m] 37))) := (Below.refl _ _).alloc (Nat.le_refl _) _
  unfold Rc.val
  rw [hv]
  clear hv h Hq
  obtain ⟨rv, fs, m⟩ := r
  simp only at *
  by_cases h0 : fs.length = 0
  · have HQ : Hid (q = isTm m) := H0.out h0
    clear H0 H1 HF
    rw [h0] at HB ⊢
    clear h0
    go_enter Tryz.func41, Tryz.ntmps41
    go_wp2_with fail
    refine (isTime_any m _).mono ?_
    rintro e w1 ⟨rfl, hw⟩
    subst w1
    rw [← HQ.out]
    go_wp2_with fail
    go_ret
    exact ⟨rfl, HB.out⟩
  · have HQ : Hid (q = (m == -1 && decide (fs.length ≤ 16) && fs.all fun f => mayP f.p)) := H1.out h0
    have h0' : ¬ (fs.length : Int) = 0 := by omega
    clear H0 H1
    by_cases h1 : m = -1
    · have b1 : (m == -1) = true := by simpa using h1
      have HQ1 : Hid (q = (decide (fs.length ≤ 16) && fs.all fun f => mayP f.p)) := by have := HQ.out; rw [b1] at this; simpa [Hid] using this
      clear HQ
      by_cases h2 : fs.length ≤ 16
      · have h2' : (fs.length : Int) ≤ 16 := by omega
        have HQ2 : Hid (q = fs.all fun f => mayP f.p) := by have := HQ1.out; rw [decide_eq_true h2] at this; simpa [Hid] using this
        subst h1
        go_enter Tryz.func41, Tryz.ntmps41
        go_wp2_with fail
        refine (containsFa_any _ fs _ HF.out).mono ?_
        rintro e w1 ⟨rfl, hb1⟩
        rw [← HQ2.out]
        go_wp2_with fail
        go_ret
        exact ⟨by simp, HB.out.trans (hb1.mono (by simp))⟩
      · have h2' : ¬ (fs.length : Int) ≤ 16 := by omega
        have d2 : decide ((fs.length : Int) ≤ 16) = false := decide_eq_false h2'
        have HQ2 : Hid (q = false) := by have := HQ1.out; rw [decide_eq_false h2] at this; simpa [Hid] using this
        subst h1
        go_enter Tryz.func41, Tryz.ntmps41
        go_wp2_with fail
        go_ret
        exact ⟨by rw [HQ2.out]; first | rfl | exact ret_bool (by assumption), HB.out⟩
    · have b1 : (m == -1) = false := by simpa using h1
      have HQ : Hid (q = false) := by have := HQ.out; rw [b1] at this; simpa [Hid] using this
      go_enter Tryz.func41, Tryz.ntmps41
      go_wp2_with fail
      go_ret
      exact ⟨by rw [HQ.out]; first | rfl | exact ret_bool (by assumption), HB.out⟩
end Go.Proofs.YtegcomopcoapjaaGreatDoor

/- Texts of one's own; the contract of key.Part. -/
namespace Go.Proofs.YtegcomopcoapjaaGreatDoor
open Go.RowKit

theorem infoS : (Tryz.prog.info? 9).map (fun i => (i.zero, i.size, i.bytes)) = some (some (.string ByteArray.empty), 1, 16) := by kernel_rfl
/-- Texts of one's own: their slice's array was made since base. -/
def SOwn (w : World) (base : Nat) (v : Value) (L : List ByteArray) : Prop := w.ownsRow base 9 1 v L.length (L.map Value.string) ∧ ∀ s ∈ L, s.size ≤ maxLen
theorem SOwn.nil (w : World) (base : Nat) : SOwn w base (.slice none 0 0) [] := ⟨World.ownsRow_nil _ _ _ _, by intro s hs; simp at hs⟩
theorem SOwn.mono {w : World} {base base' : Nat} {v : Value} {l : List ByteArray} (h : SOwn w base v l) (hb : base' ≤ base) : SOwn w base' v l := ⟨own_mono h.1 hb, h.2⟩
theorem SOwn.below {w w' : World} {base : Nat} {v : Value} {l : List ByteArray} (h : SOwn w base v l) (hb : Below w.heap.size w w') : SOwn w' base v l := by
  have hlt := World.ownsRow.lt h.1
  obtain ⟨⟨h1, h2⟩, h3⟩ := h
  refine ⟨⟨h1, ?_⟩, h3⟩
  rcases h2 with h2 | ⟨g, cap, cur, hv, hg, hw, r⟩
  · exact .inl h2
  · exact .inr ⟨g, cap, cur, hv, hg, (hb.block g (hlt g (by rw [hv]; rfl)).2).trans hw, r⟩
theorem SOwn.reads {w : World} {base : Nat} {v : Value} {L : List ByteArray} (h : SOwn w base v L) : SReads w v L := by
  obtain ⟨h, hs⟩ := h
  obtain ⟨h1, h2⟩ := h
  simp at h1
  rcases h2 with ⟨rfl, h0⟩ | ⟨g, cap, cur, rfl, hg, hw, hn, hm, hs1, ht⟩
  · left
    exact ⟨List.length_eq_zero_iff.1 (by omega), none, 0, rfl, fun _ => rfl⟩
  · rcases Nat.eq_zero_or_pos L.length with h0 | h0
    · left; exact ⟨List.length_eq_zero_iff.1 h0, _, cap, by rw [h0], fun h => by cases h⟩
    · right
      have hown : w.ownsRow base 9 1 (.slice (some ⟨g, 0, none⟩) L.length cap) L.length (L.map Value.string) := ⟨by simp, .inr ⟨g, cap, cur, rfl, hg, hw, hn, hm, hs1, ht⟩⟩
      refine ⟨g, 0, cap, rfl, h0, by omega, hm, (hown.lt g rfl).2, fun j hj => ?_, hs⟩
      have := hown.cells (g := g) rfl j (.string L[j]) (by simp [hj])
      have ea : (⟨g, 0, none⟩ : Addr).add j = ⟨g, 0 + j, none⟩ := by simp [Addr.add]; omega
      rw [ea] at this
      exact this
theorem wpList_sapp1 {w0 : World} {ops : Array Oper} {rest : List Oper} {o : Oper} {a : Act} {Q : Exit → Act → World → Prop} {t : TypeId} {y : ByteArray} (hgd : o.guard = none) (s x : Operand)
    (ho : o.op = .call { callee := .builtin .append, args := #[s, x], argTypes := #[51, 51] })
    (base : Nat) (v : Value) (L M : List ByteArray) (hM : M = L ++ [y]) (hy : y.size ≤ maxLen) (hs : a.eval s = v) (hx : a.eval x = .slice (some ⟨w0.heap.size, 0, none⟩) 1 1) (hown : SOwn w0 base v L)
    (hlen : L.length + 1 ≤ 8796093022208) (hbase : base ≤ w0.heap.size)
    (h : ∀ v' w', SOwn w' base v' M → Hid (Below base w0 w') → wpList Tryz.prog ops Q rest (a.put o.dst v') w') : wpList Tryz.prog ops Q (o :: rest) a (w0.alloc (.cells #[.string y] t)) := by
  subst hM
  obtain ⟨i0, hi, hz0, hz1, hz2⟩ := info_parts infoS
  refine wpList_append_own (w0.alloc (.cells #[.string y] t)) hgd s x 51 ho base 9 i0 (.string ByteArray.empty) 1 16 Tryz.underlying51 hi hz0 hz1 hz2 rfl (by decide) v L.length (L.map Value.string) hs (hown.1.alloc _) ⟨w0.heap.size, 0, none⟩ 1 1 [.string y] hx rfl news1 (by intro u hu; simp at hu; subst hu; rfl) (by simp [maxLen]; omega) (by omega) (by simp; omega) ?_
  intro v' w' hown' hgrow _
  refine h v' w' ⟨?_, ?_⟩ (((Below.refl _ _).alloc hbase _).grown hgrow (by simp; omega) (own_block hown.1))
  · rw [List.length_append, List.map_append]; exact hown'
  · intro u hu
    rcases List.mem_append.1 hu with hu | hu
    · exact hown.2 u hu
    · simp at hu; subst hu; exact hy
/-- A part of dimensions. -/
def pt : List ByteArray → Nat → List ByteArray
  | [], _ => []
  | s :: L, m => (if m % 2 = 1 then [s] else []) ++ pt L (m / 2)
theorem pt_snoc (L : List ByteArray) (s : ByteArray) : ∀ m, pt (L ++ [s]) m = pt L m ++ (if m / 2 ^ L.length % 2 = 1 then [s] else []) := by
  induction L with
  | nil => intro m; simp [pt]
  | cons x L ih =>
    intro m
    simp only [List.cons_append, pt, ih, List.length_cons, List.append_assoc]
    have e : m / 2 / 2 ^ L.length = m / 2 ^ (L.length + 1) := by rw [Nat.div_div_eq_div_mul, Nat.pow_succ, Nat.mul_comm 2]
    simp only [e]
theorem pt_len (L : List ByteArray) : ∀ m, (pt L m).length ≤ L.length := by
  induction L with
  | nil => intro m; simp [pt]
  | cons x L ih => intro m; have := ih (m / 2); simp only [pt, List.length_append, List.length_cons]; split <;> simp <;> omega
theorem i64_and_one (a : Nat) (h : a < 9223372036854775808) : bits .and .i64 (a : Int) 1 = ((a % 2 : Nat) : Int) := by
  show IntKind.i64.wrap ((BitVec.ofInt 64 (a : Int) &&& BitVec.ofInt 64 ((1 : Nat) : Int)).toNat : Int) = _
  rw [BitVec.toNat_and, ofInt_u64 a (by omega), ofInt_u64 1 (by omega), Nat.and_one_is_mod]
  simp [IntKind.wrap, IntKind.bits, IntKind.signed]
  omega
theorem shr_min (m k : Nat) (h : m < 9223372036854775808) : m / 2 ^ min k 64 = m / 2 ^ k := by
  rcases Nat.le_total k 64 with h1 | h1
  · rw [Nat.min_eq_left h1]
  · rw [Nat.min_eq_right h1, Nat.div_eq_of_lt (by omega), Nat.div_eq_of_lt (Nat.lt_of_lt_of_le (by omega : m < 2 ^ 64) (Nat.pow_le_pow_right (by decide) h1))]
theorem shr_and (m k : Nat) (h : m < 9223372036854775808) : bits .and .i64 ((m : Int) / 2 ^ min k 64) 1 = ((m / 2 ^ k % 2 : Nat) : Int) := by
  have := i64_and_one (m / 2 ^ min k 64) (Nat.lt_of_le_of_lt (Nat.div_le_self _ _) h)
  rw [shr_min m k h] at this
  rw [← this, ← shr_min m k h]
  push_cast; rfl
end Go.Proofs.YtegcomopcoapjaaGreatDoor

/- Pieces of bytes that a slice reads. -/
namespace Go.Proofs.YtegcomopcoapjaaGreatDoor
open Go.RowKit

theorem Reads.take {w : World} {a : Option Addr} {cap : Nat} {l : List UInt8} (h : Reads w (.slice a l.length cap) l) {c : Nat} (hc : c ≤ l.length) : Reads w (.slice a c cap) (l.take c) := by
  rcases h with ⟨rfl, a', cap', hv, hn⟩ | ⟨b, off, cap', hv, h2, h3, h4, h5, h6⟩
  · have : c = 0 := by simpa using hc
    subst this
    simp at hv
    obtain ⟨rfl, rfl⟩ := hv
    exact .inl ⟨rfl, _, _, rfl, hn⟩
  · simp at hv
    obtain ⟨rfl, rfl⟩ := hv
    exact reads_take c hc h3 h4 h5 h6
theorem Reads.cap {w : World} {a : Option Addr} {n cap : Nat} {l : List UInt8} (h : Reads w (.slice a n cap) l) (h0 : 0 < l.length) : l.length ≤ cap := by
  rcases h with ⟨rfl, _⟩ | ⟨b, off, cap', hv, h2, h3, h4, h5, h6⟩
  · simp at h0
  · simp at hv; omega
theorem Reads.drop {w : World} {a : Option Addr} {cap : Nat} {l : List UInt8} (h : Reads w (.slice a l.length cap) l) {c : Nat} (hc : c ≤ l.length) (b off : Nat) (ha : a = some ⟨b, off, none⟩) :
    (c < cap → Reads w (.slice (some ⟨b, off + c, none⟩) (l.length - c) (cap - c)) (l.drop c)) ∧ (¬ c < cap → l.drop c = []) := by
  rcases h with ⟨rfl, a', cap', hv, hn⟩ | ⟨b', off', cap', hv, h2, h3, h4, h5, h6⟩
  · have : c = 0 := by simpa using hc
    subst this
    refine ⟨fun _ => .inl ⟨rfl, _, _, rfl, fun h => by cases h⟩, fun _ => rfl⟩
  · simp at hv
    obtain ⟨hv1, rfl⟩ := hv
    rw [ha] at hv1
    simp at hv1
    obtain ⟨rfl, rfl⟩ := hv1
    have hl : (l.drop c).length = l.length - c := by simp
    refine ⟨fun hcc => ?_, fun hcc => List.drop_eq_nil_of_le (by omega)⟩
    rcases Nat.eq_zero_or_pos (l.length - c) with h0 | h0
    · left; exact ⟨List.length_eq_zero_iff.1 (by omega), _, _, by rw [h0], fun h => by cases h⟩
    · right
      refine ⟨b, off + c, cap - c, by rw [hl], by omega, by omega, by omega, h5, fun j hj => ?_⟩
      rw [Nat.add_assoc, h6 (c + j) (by omega)]
      simp
theorem reads_nil {w : World} {a : Option Addr} {cap : Nat} (h : a = none → cap = 0) : Reads w (.slice a 0 cap) [] := .inl ⟨rfl, _, _, rfl, h⟩
end Go.Proofs.YtegcomopcoapjaaGreatDoor
