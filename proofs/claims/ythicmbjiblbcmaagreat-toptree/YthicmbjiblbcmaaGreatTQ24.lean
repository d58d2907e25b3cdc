/- FL3 FL4 FL5 FL6 FL7, joined. -/
import Derived.Test.YthicmbjiblbcmaaGreatTQ21
import Derived.Test.YthicmbjiblbcmaaGreatTQ34
import Derived.Test.YthicmbjiblbcmaaGreatTQ23
import Derived.Laws.MakeOwn
import Derived.Laws.OwnMore
import Derived.BigQuiet
import Derived.Deep.QuietTactic
import Derived.Laws.CopyRow
import Derived.Lib.Overlaps
import Derived.Lib.AppendZerosOnto
import Derived.Laws.Externs
/- Items in memory; the contract of fold.read. -/
namespace Go.Proofs.YthicmbjiblbcmaaGreat
open Go.RowKit

/-- An entry whose key was read. -/
structure It where
  v : Value
  D : List ByteArray
  f : Int
  g : Nat
  a : Ag
def c9 (x : It) : List Value := [x.v, .int .i64 x.f, .int .i64 (x.g : Int), .int .u64 x.a.c, .bool x.a.o, .int .i64 (hi x.a.s), .int .u64 (lo x.a.s), .int .i64 x.a.mn, .int .i64 x.a.mx]
def itE (x : It) : En := (kb x.D x.f (x.g : Int), x.a)
theorem c9_len (x : It) : (c9 x).length = 9 := rfl
theorem flat9 : ∀ (xs : List It) (j i : Nat) (hj : j < xs.length), i < 9 → (xs.flatMap c9)[9 * j + i]? = (c9 xs[j])[i]?
  | [], j, i, hj, _ => by simp at hj
  | x :: xs, 0, i, _, hi => by
    rw [List.flatMap_cons, List.getElem?_append_left (by rw [c9_len]; omega)]; simp
  | x :: xs, j + 1, i, hj, hi => by
    rw [List.flatMap_cons, List.getElem?_append_right (by rw [c9_len]; omega), c9_len, show 9 * (j + 1) + i - 9 = 9 * j + i by omega]
    exact flat9 xs j i (by simpa using hj) hi
theorem flat9_len : ∀ xs : List It, (xs.flatMap c9).length = xs.length * 9
  | [] => rfl
  | x :: xs => by rw [List.flatMap_cons, List.length_append, flat9_len xs, c9_len]; simp; omega
/-- A slice reads these items. -/
def TReads (w : World) (v : Value) (xs : List It) : Prop :=
  ∃ a cap, v = .slice a xs.length cap ∧ xs.length ≤ cap ∧ cap ≤ maxLen ∧ (xs = [] ∨ ∃ b off, a = some ⟨b, off, none⟩ ∧ b < w.heap.size ∧ ∀ j (hj : j < xs.length), (∀ i (hi : i < 9), w.cell? ⟨b, off + j * 9 + i, none⟩ = some ((c9 xs[j])[i]'hi)) ∧ SReads w xs[j].v xs[j].D)
theorem TReads.below {w w' : World} {v : Value} {xs : List It} (h : TReads w v xs) (hb : Below w.heap.size w w') : TReads w' v xs := by
  obtain ⟨a, cap, rfl, h1, h2, h3⟩ := h
  refine ⟨a, cap, rfl, h1, h2, ?_⟩
  rcases h3 with h3 | ⟨b, off, h4, h5, h6⟩
  · exact .inl h3
  · refine .inr ⟨b, off, h4, Nat.lt_of_lt_of_le h5 hb.size, fun j hj => ?_⟩
    obtain ⟨g1, g2⟩ := h6 j hj
    exact ⟨fun i hi => (hb.cell (p := ⟨b, off + j * 9 + i, none⟩) h5).trans (g1 i hi), g2.below hb⟩
theorem TReads.form {w : World} {v : Value} {xs : List It} (h : TReads w v xs) : ∃ a cap, v = .slice a xs.length cap ∧ xs.length ≤ cap ∧ cap ≤ maxLen := by
  obtain ⟨a, cap, rfl, h1, h2, _⟩ := h
  exact ⟨a, cap, rfl, h1, h2⟩
theorem tReads_of {w : World} {base g n cap : Nat} {xs : List It} (h : w.ownsRow base 75 9 (.slice (some ⟨g, 0, none⟩) n cap) n (xs.flatMap c9)) (hn : xs.length = n) (hs : ∀ x ∈ xs, SReads w x.v x.D) : TReads w (.slice (some ⟨g, 0, none⟩) n cap) xs := by
  have hlt := World.ownsRow.lt h g rfl
  have h0 := h
  rcases h.2 with ⟨q, _⟩ | ⟨g', cap', cur, q, _, _, hc, hm, _⟩
  · simp at q
  · simp at q
    obtain ⟨rfl, rfl⟩ := q
    refine ⟨_, cap, by rw [hn], by omega, hm, ?_⟩
    rcases Nat.eq_zero_or_pos xs.length with hz | hz
    · exact .inl (List.length_eq_zero_iff.1 hz)
    · refine .inr ⟨g, 0, rfl, hlt.2, fun j hj => ⟨fun i hi => ?_, hs _ (List.getElem_mem hj)⟩⟩
      rw [show 0 + j * 9 + i = 9 * j + i by omega, World.ownsRow.cellAt h0 _ (by omega), flat9 xs j i hj hi, List.getElem?_eq_getElem (show i < (c9 xs[j]).length from hi)]
      rfl
theorem one9 {x : It} (h : x.v.oneCell' = true) : ∀ u ∈ c9 x, u.oneCell' = true := by
  intro u hu
  simp only [c9, List.mem_cons, List.not_mem_nil, or_false] at hu
  rcases hu with rfl | rfl | rfl | rfl | rfl | rfl | rfl | rfl | rfl
  · exact h
  all_goals rfl
theorem infoIt : (Tryz.prog.info? 75).map (fun i => (i.zero, i.size, i.bytes)) = some (some (.agg #[.slice none 0 0, .int .i64 0, .int .i64 0, .int .u64 0, .bool false, .int .i64 0, .int .u64 0, .int .i64 0, .int .i64 0]), 9, 88) := by kernel_rfl
/-- Does an entry fit rules, which are not asked themselves? -/
def fitB (R : Rl) (x : En) : Bool := match rdF x.1 with
  | none => false
  | some (_, f, g) => begB R f g.toNat && !(x.2.c == 0) && rightB x.2
theorem fitB_no {R : Rl} {x : En} (h : rdF x.1 = none) : fitB R x = false := by unfold fitB; rw [h]
theorem fitB_of {R : Rl} {x : En} {D : List ByteArray} {f g : Int} (h : rdF x.1 = some (D, f, g)) : fitB R x = (begB R f g.toNat && !(x.2.c == 0) && rightB x.2) := by unfold fitB; rw [h]
theorem fitB_iff {R : Rl} (hR : RightP R) {x : En} : fitB R x = true ↔ FitE R x := by
  constructor
  · intro h
    cases hr : rdF x.1 with
    | none => rw [fitB_no hr] at h; cases h
    | some q =>
      obtain ⟨D, f, g⟩ := q
      rw [fitB_of hr] at h
      simp only [Bool.and_eq_true, Bool.not_eq_true', beq_eq_false_iff_ne, ne_eq] at h
      exact ⟨⟨D, f, g, hr, (begB_iff hR).1 h.1.1⟩, h.1.2, h.2⟩
  · intro h
    obtain ⟨D, f, g, hr, hb⟩ := h.k
    rw [fitB_of hr, (begB_iff hR).2 hb, h.r]
    simp [h.c]
def fitsB (R : Rl) (L : List En) : Bool := L.all (fitB R)
theorem fitsB_iff {R : Rl} (hR : RightP R) {L : List En} : fitsB R L = true ↔ FitL R L := by
  unfold fitsB FitL
  rw [List.all_eq_true]
  exact ⟨fun h x hx => (fitB_iff hR).1 (h x hx), fun h x hx => (fitB_iff hR).2 (h x hx)⟩
theorem fitsB_bad {R : Rl} {L : List En} {k : Nat} (hk : k < L.length) (h : fitB R L[k] = false) : fitsB R L = false := by
  unfold fitsB
  rw [List.all_eq_false]
  exact ⟨_, List.getElem_mem hk, by rw [h]; simp⟩
theorem fitsB_all {R : Rl} {L : List En} (h : ∀ j (hj : j < L.length), fitB R L[j] = true) : fitsB R L = true := by
  unfold fitsB
  rw [List.all_eq_true]
  intro x hx
  obtain ⟨j, hj, rfl⟩ := List.getElem_of_mem hx
  exact h j hj
/-- What is known of an item. -/
structure ItOk (R : Rl) (x : It) : Prop where
  r : rightBK x.D x.f (x.g : Int) = true
  b : begB R x.f x.g = true
  c : CnOk x.a
  n : x.a.c ≠ 0
  g : rightB x.a = true
/-- What the loop of read keeps. -/
structure RdI (R : Rl) (L : List En) (w : World) (k : Nat) (its : List It) (wr : World) : Prop where
  l : its.length = k
  m : its.map itE = L.take k
  ok : ∀ x ∈ its, ItOk R x
  fb : ∀ j (hj : j < L.length), j < k → fitB R L[j] = true
  r : wr.ownsRow w.heap.size 75 9 (.slice (some ⟨w.heap.size + 1, 0, none⟩) k L.length) k (its.flatMap c9)
  s : ∀ x ∈ its, SReads wr x.v x.D ∧ ∀ b, x.v.ownBlock = some b → w.heap.size + 1 < b
  b : Below w.heap.size w wr
  x : RBox R w.heap.size wr
  z : w.heap.size + 1 < wr.heap.size
theorem row_below {A B : World} {base : Nat} {e : TypeId} {size : Nat} {v : Value} {k : Nat} {xs : List Value} (h : A.ownsRow base e size v k xs) (hb : Below A.heap.size A B) : B.ownsRow base e size v k xs := by
  obtain ⟨h1, h2⟩ := h
  refine ⟨h1, ?_⟩
  rcases h2 with h2 | ⟨g, cap, cur, hv, hg, hw, r⟩
  · exact .inl h2
  · exact .inr ⟨g, cap, cur, hv, hg, (hb.block _ (Array.getElem?_eq_some_iff.1 hw).1).trans hw, r⟩
theorem RdI.below {R : Rl} {L : List En} {w : World} {k : Nat} {its : List It} {wr W : World} (h : RdI R L w k its wr) (hb : Below wr.heap.size wr W) : RdI R L w k its W :=
  ⟨h.l, h.m, h.ok, h.fb, row_below h.r hb, fun x hx => ⟨(h.s x hx).1.below hb, (h.s x hx).2⟩, h.b.trans (hb.mono h.b.size), h.x.below hb, Nat.lt_of_lt_of_le h.z hb.size⟩
theorem sreads_grown {A B : World} {v : Value} {D : List ByteArray} {row : Option Nat} (h : SReads A v D) (hg : A.grownBy B row) (hne : ∀ k, v.ownBlock = some k → row ≠ some k) : SReads B v D := by
  rcases h with h | ⟨b, off, cap, h1, h2, h3, h4, h5, h6, h7⟩
  · exact .inl h
  · refine .inr ⟨b, off, cap, h1, h2, h3, h4, Nat.lt_of_lt_of_le h5 hg.size, fun j hj => ?_, h7⟩
    have hk := hg.block b h5 (Ne.symm (hne b (by rw [h1]; rfl)))
    rw [← h6 j hj]
    exact World.cell?_of_block hk
theorem RdI.snoc {R : Rl} {L : List En} {w : World} {k : Nat} {its : List It} {wr W : World} {y : It} {o : Obj} (h : RdI R L w k its wr) (hk : k < L.length) (hy : itE y = L[k]) (hyo : ItOk R y) (hf : fitB R L[k] = true) (hys : SReads wr y.v y.D) (hyb : ∀ b, y.v.ownBlock = some b → w.heap.size + 1 < b)
    (hown : W.ownsRow w.heap.size 75 9 (.slice (some ⟨w.heap.size + 1, 0, none⟩) (k + 1) L.length) (k + 1) (its.flatMap c9 ++ c9 y)) (hg : (wr.alloc o).grownBy W (some (w.heap.size + 1))) : RdI R L w (k + 1) (its ++ [y]) W := by
  have hsz : wr.heap.size ≤ W.heap.size := by have := hg.size; simp at this; omega
  have hal := (Below.refl wr.heap.size wr).alloc (Nat.le_refl _) o
  have hsr : ∀ {v : Value} {D : List ByteArray}, SReads wr v D → (∀ b, v.ownBlock = some b → w.heap.size + 1 < b) → SReads W v D := fun {v D} h1 h2 => sreads_grown (h1.below hal) hg (fun k hk e => by have := h2 k hk; simp at e; omega)
  refine ⟨by simp [h.l], by rw [List.map_append, h.m, List.take_add_one, List.getElem?_eq_getElem hk, ← hy]; rfl, fun x hx => ?_, fun j hj hjk => ?_, by rw [List.flatMap_append]; simpa using hown, fun x hx => ?_, ?_, ?_, Nat.lt_of_lt_of_le h.z hsz⟩
  · rcases List.mem_append.1 hx with hx | hx
    · exact h.ok x hx
    · obtain rfl : x = y := by simpa using hx
      exact hyo
  · rcases Nat.lt_or_ge j k with h1 | h1
    · exact h.fb j hj h1
    · have : j = k := by omega
      subst this; exact hf
  · rcases List.mem_append.1 hx with hx | hx
    · exact ⟨hsr (h.s x hx).1 (h.s x hx).2, (h.s x hx).2⟩
    · obtain rfl : x = y := by simpa using hx
      exact ⟨hsr hys hyb, hyb⟩
  · exact (h.b.alloc h.b.size o).grown hg (by have := h.z; simp; omega) (fun k hk => by simp at hk; omega)
  · obtain ⟨h1, h2, h3⟩ := h.x.below hal
    have hk := hg.block w.heap.size h1 (by simp)
    exact ⟨Nat.lt_of_lt_of_le h1 hg.size, (World.cell?_of_block hk).trans h2, (World.cell?_of_block hk).trans h3⟩
def RdPost (R : Rl) (L : List En) (w : World) (e : Ending) (w' : World) : Prop :=
  Below w.heap.size w w' ∧ ((fitsB R L = false ∧ e = .returned (.tuple #[.slice none 0 0, .bool false])) ∨ (fitsB R L = true ∧ ∃ a cap xs, e = .returned (.tuple #[.slice a L.length cap, .bool true]) ∧ TReads w' (.slice a L.length cap) xs ∧ xs.map itE = L ∧ ∀ x ∈ xs, ItOk R x))
set_option maxRecDepth 100000 in
set_option maxHeartbeats 4000000 in
theorem read15_any (R : Rl) (v : Value) (L : List En) (w : World) (hL : Lies R w.heap.size w) (hE : EReads w v L) (hl : L.length ≤ 100000) (hk : ∀ x ∈ L, x.1.length ≤ 1000) :
    Calls Tryz.prog 36 #[.agg #[.slice R.a R.len R.cap, .int .i64 R.kp], v] w (RdPost R L w) := by
  have HE : Hid (EReads w v L) := hE
  have HL : Hid (Lies R w.heap.size w) := hL
  have HK : Hid _ := hk
  obtain ⟨a, cap, rfl, hm1, hm2⟩ := hE.form
  unfold maxLen at hm2
  clear hE hL hk
  obtain ⟨w1, HW1⟩ := hid_ex (w.alloc (.cells #[.slice R.a R.len R.cap, .int .i64 R.kp] 24))
  have hb1 : Below w.heap.size w w1 := by rw [HW1.out]; exact new_below _ _
  have hx1 : RBox R w.heap.size w1 := by rw [HW1.out]; exact RBox.new R w _
  have hz1s : w1.heap.size = w.heap.size + 1 := by rw [HW1.out]; simp
  obtain ⟨i0, hinf, hz0, hz1, hz2⟩ := info_parts infoIt
  obtain ⟨w2, hr2, hown2, hg2⟩ := run_make_own (P := Tryz.prog) w1 w.heap.size 68 75 i0 _ 9 Tryz.underlying68 hinf hz0 hz1 .i64 .i64 L.length (by rw [hz2]; omega) (by unfold maxLen; omega) (by omega)
  rw [hz1s] at hr2 hown2
  have hb12 : Below w1.heap.size w1 w2 := (Below.refl _ _).grown hg2 (Nat.le_refl _) (fun k e => by cases e)
  have HI0 : Hid (RdI R L w 0 [] w2) := ⟨rfl, rfl, fun x hx => (by cases hx), fun j hj h => by omega, hown2, fun x hx => (by cases hx), hb1.trans (hb12.mono (by omega)), hx1.below hb12, (World.ownsRow.lt hown2 _ rfl).2⟩
  clear hown2 hg2 hb1 hx1 hb12 hz2 hz0
  rw [HW1.out] at hr2
  clear HW1 hz1s
  go_enter Tryz.func36, Tryz.ntmps36
  go_wp2_with fail
  go_loopw [6, 16] (fun iv i wr => ∃ (k : Nat) (its : List It), k ≤ L.length ∧ i = .int .i64 (k : Int) ∧ iv = .slice (some ⟨w.heap.size + 1, 0, none⟩) k L.length ∧ Hid (RdI R L w k its wr)) (fun _ i _ => L.length - (intOf i).toNat)
  case atStart => exact ⟨0, [], by omega, rfl, rfl, HI0⟩
  case round =>
    clear HI0 hr2
    obtain ⟨k, its, hk, rfl, rfl, HC⟩ := hrel
    by_cases hlt : k < L.length
    · obtain ⟨b, off, cap', hv, hbw⟩ := eReads_some HE.out (by omega)
      simp at hv
      obtain ⟨rfl, rfl⟩ := hv
      obtain ⟨kv, hcw, hRw, hA⟩ := eReads_at HE.out hlt rfl
      have hc : ∀ i (hi : i < 7), wr.cell? ⟨b, off + k * 7 + i, none⟩ = some ((c7 ⟨kv, L[k].1, L[k].2⟩)[i]'hi) := fun i hi => (HC.out.b.cell (p := ⟨b, off + k * 7 + i, none⟩) hbw).trans (hcw i hi)
      have hR := hRw.below HC.out.b
      have hkl := HK.out L[k] (List.getElem_mem hlt)
      have HBAD : Hid (fitB R L[k] = false → fitsB R L = false) := fun h => fitsB_bad hlt h
      have HSN : Hid (∀ {W wr' : World} {y : It} {o : Obj}, RdI R L w k its wr' → itE y = L[k] → ItOk R y → fitB R L[k] = true → SReads wr' y.v y.D → (∀ b, y.v.ownBlock = some b → w.heap.size + 1 < b) → W.ownsRow w.heap.size 75 9 (.slice (some ⟨w.heap.size + 1, 0, none⟩) (k + 1) L.length) (k + 1) (its.flatMap c9 ++ c9 y) → (wr'.alloc o).grownBy W (some (w.heap.size + 1)) → RdI R L w (k + 1) (its ++ [y]) W) := fun h1 h2 h3 h4 h5 h6 h7 h8 => h1.snoc hlt h2 h3 h4 h5 h6 h7 h8
      obtain ⟨X, HX⟩ := hid_ex L[k]
      rw [← HX.out] at hR hRw hA hc hkl HBAD HSN
      clear hcw
      have c0 := hc 0 (by decide)
      have c1 := hc 1 (by decide)
      have c2 := hc 2 (by decide)
      have c3 := hc 3 (by decide)
      have c4 := hc 4 (by decide)
      have c5 := hc 5 (by decide)
      have c6 := hc 6 (by decide)
      simp only [c7, List.getElem_cons_zero, List.getElem_cons_succ, Nat.add_zero] at c0 c1 c2 c3 c4 c5 c6
      obtain ⟨ak, ck, hkv, _⟩ := hR.form
      subst hkv
      obtain ⟨w2, HW2⟩ := hid_ex (wr.alloc (.cells #[.slice ak X.1.length ck, .int .u64 X.2.c, .bool X.2.o, .int .i64 (hi X.2.s), .int .u64 (lo X.2.s), .int .i64 X.2.mn, .int .i64 X.2.mx] 56))
      have hb2 : Below wr.heap.size wr w2 := by rw [HW2.out]; exact (Below.refl _ _).alloc (Nat.le_refl _) _
      have HB2 : Hid (Below wr.heap.size wr w2) := hb2
      have HR2 : Hid (Reads w2 (.slice ak X.1.length ck) X.1) := hR.below hb2
      have HBX : Hid (w2.heap[wr.heap.size]? = some (.cells #[.slice ak X.1.length ck, .int .u64 X.2.c, .bool X.2.o, .int .i64 (hi X.2.s), .int .u64 (lo X.2.s), .int .i64 X.2.mn, .int .i64 X.2.mx] 56)) := by rw [HW2.out]; exact heap_alloc_new _ _
      have HC2 : Hid (RdI R L w k its w2) := HC.out.below hb2
      obtain ⟨kn, Hkn⟩ := hid_ex X.1.length
      rw [← Hkn.out] at c0 HW2 HR2 HBX
      clear hc hR hRw hb2 HC
      go_wp2_with fail
      rw [← HW2.out]
      clear c0 c1 c2 c3 c4 c5 c6 HW2
      refine (read_own _ X.1 hkl _ HR2.out).mono ?_
      rintro e w3 (⟨D, f, gI, vd, hrd, rfl, hkl3, hown3, hb3⟩ | ⟨hrd, rfl, hb3⟩)
      · have hkey := rdF_key hrd
        obtain ⟨g, rfl⟩ : ∃ g : Nat, gI = (g : Int) := ⟨gI.toNat, by omega⟩
        have hg3 : g ≤ 255 := by omega
        have HTK : Hid _ := rdF_taken hrd
        have HFB : Hid (fitB R X = (begB R f g && !(X.2.c == 0) && rightB X.2)) := by have := fitB_of (R := R) hrd; rw [Int.toNat_natCast] at this; exact this
        have HC3 : Hid (RdI R L w k its w3) := HC2.out.below hb3
        have HX3 : Hid (w3.heap[wr.heap.size]? = some (.cells #[.slice ak kn ck, .int .u64 X.2.c, .bool X.2.o, .int .i64 (hi X.2.s), .int .u64 (lo X.2.s), .int .i64 X.2.mn, .int .i64 X.2.mx] 56)) := (hb3.block _ (Array.getElem?_eq_some_iff.1 HBX.out).1).trans HBX.out
        obtain ⟨va, vc, hvd, _⟩ := hkl3.r.form
        simp only at hvd
        subst hvd
        have HSR3 : Hid (SReads w3 (.slice va D.length vc) D) := hkl3.r
        have HOW : Hid (∀ b, (Value.slice va D.length vc).ownBlock = some b → w.heap.size + 1 < b) := fun b hb => by have h1 := hown3 b hb; have h2 := HC2.out.z; omega
        obtain ⟨dn, Hdn⟩ := hid_ex D.length
        rw [← Hdn.out] at HSR3 HOW ⊢
        obtain ⟨w4, HW4⟩ := hid_ex (w3.alloc (.cells #[.slice va dn vc, .int .i64 f, .int .i64 (g : Int)] 73))
        have hb4 : Below w3.heap.size w3 w4 := by rw [HW4.out]; exact new_below _ _
        have HC4 : Hid (RdI R L w k its w4) := HC3.out.below hb4
        have HX4 : Hid (w4.heap[wr.heap.size]? = some (.cells #[.slice ak kn ck, .int .u64 X.2.c, .bool X.2.o, .int .i64 (hi X.2.s), .int .u64 (lo X.2.s), .int .i64 X.2.mn, .int .i64 X.2.mx] 56)) := (hb4.block _ (Array.getElem?_eq_some_iff.1 HX3.out).1).trans HX3.out
        have HY4 : Hid (w4.heap[w3.heap.size]? = some (.cells #[.slice va dn vc, .int .i64 f, .int .i64 (g : Int)] 73)) := by rw [HW4.out]; exact heap_alloc_new _ _
        have HSR4 : Hid (SReads w4 (.slice va dn vc) D) := HSR3.out.below hb4
        have HL4 : Hid (Lies R w4.heap.size w4) := HL.out.at HC4.out.b
        obtain ⟨_, r0, r1⟩ := HC3.out.x
        clear hrd hkl3 hown3 hb3 hb4 HC3 HX3 HSR3 HBX HC2 HB2 HR2 hkey
        go_wp2_with fail
        rw [← HW4.out]
        clear HW4 r0 r1
        refine (begins_any R va dn vc f g hg3 _ HL4.out).mono ?_
        rintro e w5 ⟨rfl, hb5⟩
        have HC5 : Hid (RdI R L w k its w5) := HC4.out.below hb5
        have HX5 : Hid (w5.heap[wr.heap.size]? = some (.cells #[.slice ak kn ck, .int .u64 X.2.c, .bool X.2.o, .int .i64 (hi X.2.s), .int .u64 (lo X.2.s), .int .i64 X.2.mn, .int .i64 X.2.mx] 56)) := (hb5.block _ (Array.getElem?_eq_some_iff.1 HX4.out).1).trans HX4.out
        have HY5 : Hid (w5.heap[w3.heap.size]? = some (.cells #[.slice va dn vc, .int .i64 f, .int .i64 (g : Int)] 73)) := (hb5.block _ (Array.getElem?_eq_some_iff.1 HY4.out).1).trans HY4.out
        have HSR5 : Hid (SReads w5 (.slice va dn vc) D) := HSR4.out.below hb5
        clear hb5 HC4 HX4 HY4 HSR4 HL4
        cases hbg : begB R f g with
        | false =>
          have HEnd : Hid (RdPost R L w (.returned (.tuple #[.slice none 0 0, .bool false])) w5) := ⟨HC5.out.b, .inl ⟨HBAD.out (by rw [HFB.out, hbg]; rfl), rfl⟩⟩
          clear hbg
          go_wp2_with fail
          go_ret2
          exact HEnd.out
        | true =>
          by_cases hc0 : X.2.c = 0
          · have HEnd : Hid (RdPost R L w (.returned (.tuple #[.slice none 0 0, .bool false])) w5) := ⟨HC5.out.b, .inl ⟨HBAD.out (by rw [HFB.out, hc0]; simp), rfl⟩⟩
            have d1 := (cell_row HX5.out 1 (by simp)).1
            simp only [List.getElem_toArray, List.getElem_cons_zero, List.getElem_cons_succ] at d1
            rw [hc0] at d1
            clear hbg hc0
            go_wp2_with fail
            go_ret2
            exact HEnd.out
          · have HC0 : Hid (X.2.c ≠ 0) := hc0
            have hcb : (X.2.c == 0) = false := by simp [hc0]
            have d1 := (cell_row HX5.out 1 (by simp)).1
            have d2 := (cell_row HX5.out 2 (by simp)).1
            have d3 := (cell_row HX5.out 3 (by simp)).1
            have d4 := (cell_row HX5.out 4 (by simp)).1
            have d5 := (cell_row HX5.out 5 (by simp)).1
            have d6 := (cell_row HX5.out 6 (by simp)).1
            simp only [List.getElem_toArray, List.getElem_cons_zero, List.getElem_cons_succ] at d1 d2 d3 d4 d5 d6
            have HBG : Hid (begB R f g = true) := hbg
            clear hbg hc0
            go_wp2_with fail
            refine (right_any X.2 _).mono ?_
            rintro e w6 ⟨rfl, hb6⟩
            have HC6 : Hid (RdI R L w k its w6) := HC5.out.below hb6
            have HX6 : Hid (w6.heap[wr.heap.size]? = some (.cells #[.slice ak kn ck, .int .u64 X.2.c, .bool X.2.o, .int .i64 (hi X.2.s), .int .u64 (lo X.2.s), .int .i64 X.2.mn, .int .i64 X.2.mx] 56)) := (hb6.block _ (Array.getElem?_eq_some_iff.1 HX5.out).1).trans HX5.out
            have HY6 : Hid (w6.heap[w3.heap.size]? = some (.cells #[.slice va dn vc, .int .i64 f, .int .i64 (g : Int)] 73)) := (hb6.block _ (Array.getElem?_eq_some_iff.1 HY5.out).1).trans HY5.out
            have HSR6 : Hid (SReads w6 (.slice va dn vc) D) := HSR5.out.below hb6
            clear hb6 HC5 HX5 HY5 HSR5 d1 d2 d3 d4 d5 d6
            cases hrb : rightB X.2 with
            | false =>
              have HEnd : Hid (RdPost R L w (.returned (.tuple #[.slice none 0 0, .bool false])) w6) := ⟨HC6.out.b, .inl ⟨HBAD.out (by rw [HFB.out, hrb]; simp), rfl⟩⟩
              clear hrb
              go_wp2_with fail
              go_ret2
              exact HEnd.out
            | true =>
              have d1 := (cell_row HX6.out 1 (by simp)).1
              have d2 := (cell_row HX6.out 2 (by simp)).1
              have d3 := (cell_row HX6.out 3 (by simp)).1
              have d4 := (cell_row HX6.out 4 (by simp)).1
              have d5 := (cell_row HX6.out 5 (by simp)).1
              have d6 := (cell_row HX6.out 6 (by simp)).1
              have e0 := (cell_row HY6.out 0 (by simp)).1
              have e1 := (cell_row HY6.out 1 (by simp)).1
              have e2 := (cell_row HY6.out 2 (by simp)).1
              simp only [List.getElem_toArray, List.getElem_cons_zero, List.getElem_cons_succ] at d1 d2 d3 d4 d5 d6 e0 e1 e2
              obtain ⟨w7, hrun, hown7, hg7⟩ := run_append_fits (P := Tryz.prog) (w6.alloc (.cells (c9 ⟨.slice va dn vc, D, f, g, X.2⟩).toArray 75)) w.heap.size 68 68 75 i0 9 Tryz.underlying68 hinf hz1 (w.heap.size + 1) k L.length (its.flatMap c9) (HC6.out.r.alloc _) ⟨w6.heap.size, 0, none⟩ 1 1 (c9 ⟨.slice va dn vc, D, f, g, X.2⟩) rfl (news7 w6 _) (one9 rfl) (by omega)
              have HN : Hid (RdI R L w (k + 1) (its ++ [⟨.slice va dn vc, D, f, g, X.2⟩]) w7) := HSN.out HC6.out (by unfold itE; dsimp only; rw [HTK.out.2]) ⟨HTK.out.1, HBG.out, hA, HC0.out, hrb⟩ (by rw [HFB.out, HBG.out, hcb, hrb]; rfl) HSR6.out HOW.out hown7 hg7
              unfold c9 at hrun
              dsimp only at hrun
              clear hrb hown7 hg7
              go_wp2_with (at_builtin; refine wpList_app_run rfl _ _ _ _ rfl rfl _ _ _ rfl rfl hrun ?_)
              clear hrun d1 d2 d3 d4 d5 d6 e0 e1 e2
              (try go_wp2_with fail)
              go_roundw
              case rel => exact ⟨k + 1, _, by omega, by go_num, rfl, HN⟩
              case measure => simp [intOf]; omega
      · have HEnd : ∀ W, Hid (Below w.heap.size w W) → RdPost R L w (.returned (.tuple #[.slice none 0 0, .bool false])) W := fun W hW => ⟨hW.out, .inl ⟨HBAD.out (fitB_no hrd), rfl⟩⟩
        have HB3 : Hid (Below w.heap.size w (w3.alloc (.cells #[.slice none 0 0, .int .i64 0, .int .i64 0] 73))) := ((HC2.out.below hb3).b).alloc ((HC2.out.below hb3).b).size _
        have HE2 : Hid (RdPost R L w (.returned (.tuple #[.slice none 0 0, .bool false])) (w3.alloc (.cells #[.slice none 0 0, .int .i64 0, .int .i64 0] 73))) := HEnd _ HB3
        clear hrd hb3 HEnd
        go_wp2_with fail
        go_ret2
        exact HE2.out
    · obtain rfl : k = L.length := by omega
      have HEnd : Hid (RdPost R L w (.returned (.tuple #[.slice (some ⟨w.heap.size + 1, 0, none⟩) L.length L.length, .bool true])) wr) := ⟨HC.out.b, .inr ⟨fitsB_all (fun j hj => HC.out.fb j hj hj), _, _, its, rfl, tReads_of HC.out.r HC.out.l (fun x hx => (HC.out.s x hx).1), by rw [HC.out.m, List.take_length], HC.out.ok⟩⟩
      go_wp2_with fail
      go_ret2
      exact HEnd.out
end Go.Proofs.YthicmbjiblbcmaaGreat

/- The contracts of fold's checked, Stale and Fits. -/
namespace Go.Proofs.YthicmbjiblbcmaaGreat
open Go.RowKit

def ChPost (R : Rl) (wm : Int) (L : List En) (w : World) (e : Ending) (w' : World) : Prop :=
  Below w.heap.size w w' ∧ ((chkF R wm L ≠ 0 ∧ e = .returned (.tuple #[.slice none 0 0, .int .i64 (chkF R wm L)])) ∨ (chkF R wm L = 0 ∧ ∃ a cap xs, e = .returned (.tuple #[.slice a L.length cap, .int .i64 0]) ∧ TReads w' (.slice a L.length cap) xs ∧ xs.map itE = L ∧ ∀ x ∈ xs, ItOk R x))
theorem chkF_e {R : Rl} {wm : Int} {L : List En} (h : fE R 0 wm ≠ 0) : chkF R wm L = fE R 0 wm := by unfold chkF; rw [if_pos h]
theorem chkF_50 {R : Rl} {wm : Int} {L : List En} (h : fE R 0 wm = 0) (hs : ¬ SrtE L) : chkF R wm L = 50 := by unfold chkF; rw [if_neg (fun h2 => h2 h), if_neg hs]
theorem chkF_3 {R : Rl} {wm : Int} {L : List En} (h : fE R 0 wm = 0) (hs : SrtE L) (hf : ¬ FitL R L) : chkF R wm L = 3 := by unfold chkF; rw [if_neg (fun h2 => h2 h), if_pos hs, if_neg hf]
theorem srt_bad {L : List En} {k : Nat} (hk : k + 1 < L.length) (h : ¬ ltK (L[k]'(by omega)).1 L[k + 1].1) : ¬ SrtE L := by
  intro hp
  have := List.pairwise_iff_getElem.1 hp k (k + 1) (by simp [keysE]; omega) (by simpa [keysE] using hk) (by omega)
  simp only [keysE, List.getElem_map] at this
  exact h this
theorem RBox.at {R : Rl} {b : Nat} {w : World} (h : RBox R b w) : w.cell? ⟨b, 0, none⟩ = some (.slice R.a R.len R.cap) ∧ w.cell? ⟨b, 1, none⟩ = some (.int .i64 R.kp) := h.2
set_option maxRecDepth 100000 in
set_option maxHeartbeats 4000000 in
theorem checked_any (R : Rl) (wm : Int) (v : Value) (L : List En) (w : World) (hL : Lies R w.heap.size w) (hE : EReads w v L) (hl : L.length ≤ 100000) (hk : ∀ x ∈ L, x.1.length ≤ 1000) :
    Calls Tryz.prog 20 #[.agg #[.slice R.a R.len R.cap, .int .i64 R.kp], .int .i64 wm, v] w (ChPost R wm L w) := by
  have HE : Hid (EReads w v L) := hE
  have HL : Hid (Lies R w.heap.size w) := hL
  have HK : Hid _ := hk
  obtain ⟨a, cap, rfl, hm1, hm2⟩ := hE.form
  unfold maxLen at hm2
  clear hE hL hk
  obtain ⟨w1, HW1⟩ := hid_ex (w.alloc (.cells #[.slice R.a R.len R.cap, .int .i64 R.kp] 24))
  have hb1 : Below w.heap.size w w1 := by rw [HW1.out]; exact new_below _ _
  have HX1 : Hid (RBox R w.heap.size w1) := by rw [HW1.out]; exact RBox.new R w _
  have HL1 : Hid (Lies R w1.heap.size w1) := HL.out.at hb1
  have HB1 : Hid _ := hb1
  clear hb1
  go_enter Tryz.func20, Tryz.ntmps20
  go_wp2_with fail
  rw [← HW1.out]
  clear HW1
  refine (fault15_any R wm _ HL1.out).mono ?_
  rintro e w2 ⟨rfl, hb2⟩
  have HB2 : Hid (Below w.heap.size w w2) := HB1.out.trans (hb2.mono HB1.out.size)
  have HX2 : Hid (RBox R w.heap.size w2) := HX1.out.below hb2
  clear hb2 HB1 HX1 HL1
  by_cases hf : fE R 0 wm = 0
  · have HF : Hid (fE R 0 wm = 0) := hf
    have HR : Hid (RightP R) := (fE_ok hf).1
    rw [hf]
    clear hf
    go_wp2_with fail
    go_loopw [9] (fun i wr => ∃ k : Nat, i = .int .i64 ((k + 1 : Nat) : Int) ∧ (k = 0 ∨ k + 1 ≤ L.length) ∧ Hid (((keysE L).take (k + 1)).Pairwise ltK) ∧ Hid (Below w.heap.size w wr) ∧ Hid (RBox R w.heap.size wr)) (fun i _ => L.length - (intOf i).toNat)
    case atStart =>
      refine ⟨0, rfl, .inl rfl, ?_, HB2, HX2⟩
      cases hk0 : keysE L with
      | nil => exact List.Pairwise.nil
      | cons x l => exact List.pairwise_singleton _ _
    case round =>
      obtain ⟨k, rfl, hk, HP, HB, HX⟩ := hrel
      clear HB2 HX2
      by_cases hlt : k + 1 < L.length
      · obtain ⟨b, off, cap', hv, hbw⟩ := eReads_some HE.out (by omega)
        simp at hv
        obtain ⟨rfl, rfl⟩ := hv
        obtain ⟨kv, hcw, hRw, _⟩ := eReads_at HE.out (k := k) (by omega) rfl
        obtain ⟨kv', hcw', hRw', _⟩ := eReads_at HE.out hlt rfl
        have c0 : wr.cell? ⟨b, off + k * 7, none⟩ = some kv := (HB.out.cell (p := ⟨b, off + k * 7, none⟩) hbw).trans (hcw 0 (by decide))
        have c1 : wr.cell? ⟨b, off + (k + 1) * 7, none⟩ = some kv' := (HB.out.cell (p := ⟨b, off + (k + 1) * 7, none⟩) hbw).trans (hcw' 0 (by decide))
        have HKL : Hid (k + 1 < (keysE L).length) := by unfold Hid keysE; simpa using hlt
        have HPN : Hid (ltK (L[k]'(by omega)).1 L[k + 1].1 → ((keysE L).take (k + 1 + 1)).Pairwise ltK) := fun h => pw_snoc HKL.out HP.out (fun h0 => by simpa [keysE] using h)
        have HBD : Hid (¬ ltK (L[k]'(by omega)).1 L[k + 1].1 → chkF R wm L = 50) := fun h => chkF_50 HF.out (srt_bad hlt h)
        have hR0 := hRw.below HB.out
        have hR1 := hRw'.below HB.out
        obtain ⟨Y, HY⟩ := hid_ex (L[k]'(by omega)).1
        obtain ⟨Z, HZ⟩ := hid_ex (L[k + 1]'hlt).1
        rw [← HY.out] at hR0 HPN HBD
        rw [← HZ.out] at hR1 HPN HBD
        obtain ⟨ay, cy, hkv, _⟩ := hR0.form
        subst hkv
        obtain ⟨az, cz, hkv, _⟩ := hR1.form
        subst hkv
        have HR0 : Hid (Reads wr (.slice ay Y.length cy) Y) := hR0
        have HR1 : Hid (Reads wr (.slice az Z.length cz) Z) := hR1
        obtain ⟨yn, Hyn⟩ := hid_ex Y.length
        obtain ⟨zn, Hzn⟩ := hid_ex Z.length
        rw [← Hyn.out] at c0 HR0
        rw [← Hzn.out] at c1 HR1
        obtain ⟨cc, HC⟩ := hid_ex (Lib.compareBytes Y Z)
        clear hcw hcw' hRw hRw' hR0 hR1 HKL HY HZ Hyn Hzn
        by_cases hlk : ltK Y Z
        · have hcc : decide (0 ≤ cc) = false := by rw [HC.out]; unfold ltK at hlk; rw [hlk]; rfl
          have HPP : Hid _ := HPN.out hlk
          clear hlk HBD HPN
          go_wp2_with fail
          go_quiet (exact (cmp_any _ _ Y Z _ (HR0.out.below (below_drewN (Below.refl _ _) _)) (HR1.out.below (below_drewN (Below.refl _ _) _))).mono (fun e w h => ⟨by rw [h.1, ← HC.out], _, h.2⟩))
          have HB3 : Hid (Below w.heap.size w (wr.drewN nq)) := below_drewN HB.out nq
          have HX3 : Hid (RBox R w.heap.size (wr.drewN nq)) := HX.out
          clear c0 c1
          go_wp2_with fail
          go_roundw
          case rel => exact ⟨k + 1, by go_num, .inr (by omega), HPP, HB3, HX3⟩
          case measure => simp [intOf]; omega
        · have hcc : decide (0 ≤ cc) = true := by rw [HC.out]; exact decide_eq_true (cmp_ge.2 hlk)
          have HEnd : Hid (∀ W, Below w.heap.size w W → ChPost R wm L w (.returned (.tuple #[.slice none 0 0, .int .i64 50])) W) := fun W hW => by
            have h5 := HBD.out hlk
            refine ⟨hW, .inl ⟨by rw [h5]; decide, by rw [h5]⟩⟩
          clear hlk HBD HPN
          go_wp2_with fail
          go_quiet (exact (cmp_any _ _ Y Z _ (HR0.out.below (below_drewN (Below.refl _ _) _)) (HR1.out.below (below_drewN (Below.refl _ _) _))).mono (fun e w h => ⟨by rw [h.1, ← HC.out], _, h.2⟩))
          have HE3 : Hid (ChPost R wm L w (.returned (.tuple #[.slice none 0 0, .int .i64 50])) (wr.drewN nq)) := HEnd.out _ (below_drewN HB.out nq)
          clear c0 c1
          go_wp2_with fail
          go_ret2
          exact HE3.out
      · have HSR : Hid (SrtE L) := by
          have := HP.out
          rw [List.take_of_length_le (by unfold keysE; simp; omega)] at this
          exact this
        obtain ⟨r0, r1⟩ := HX.out.at
        have HLr : Hid (Lies R wr.heap.size wr) := HL.out.at HB.out
        have HEr : Hid (EReads wr (.slice a L.length cap) L) := HE.out.below HB.out
        go_wp2_with fail
        refine (read15_any R _ L _ HLr.out HEr.out hl HK.out).mono ?_
        rintro e w4 ⟨hb4, ⟨hfb, rfl⟩ | ⟨hfb, xa, xc, xs, rfl, ht, hm, hok⟩⟩
        · have hn : ¬ FitL R L := fun h => by rw [(fitsB_iff HR.out).2 h] at hfb; cases hfb
          have h3 := chkF_3 HF.out HSR.out hn
          have HEnd : Hid (ChPost R wm L w (.returned (.tuple #[.slice none 0 0, .int .i64 3])) w4) := ⟨HB.out.trans (hb4.mono HB.out.size), .inl ⟨by rw [h3]; decide, by rw [h3]⟩⟩
          clear hfb hn h3 hb4 r0 r1
          go_wp2_with fail
          go_ret2
          exact HEnd.out
        · have h0 := chkF_of HF.out HSR.out ((fitsB_iff HR.out).1 hfb)
          have HEnd : Hid (ChPost R wm L w (.returned (.tuple #[.slice xa L.length xc, .int .i64 0])) w4) := ⟨HB.out.trans (hb4.mono HB.out.size), .inr ⟨h0, xa, xc, xs, rfl, ht, hm, hok⟩⟩
          clear hfb h0 hb4 r0 r1 ht hm hok
          go_wp2_with fail
          go_ret2
          exact HEnd.out
  · have hb0 : (fE R 0 wm == 0) = false := by simp [hf]
    have h3 := chkF_e (L := L) hf
    have HEnd : Hid (ChPost R wm L w (.returned (.tuple #[.slice none 0 0, .int .i64 (fE R 0 wm)])) w2) := ⟨HB2.out, .inl ⟨by rw [h3]; exact hf, by rw [h3]⟩⟩
    clear hf h3
    generalize fE R 0 wm = rr at *
    go_wp2_with fail
    go_ret2
    exact HEnd.out
end Go.Proofs.YthicmbjiblbcmaaGreat

/- The contracts of fold's Stale and Fits. -/
namespace Go.Proofs.YthicmbjiblbcmaaGreat
open Go.RowKit

theorem TReads.at {w : World} {a : Option Addr} {n cap : Nat} {xs : List It} (h : TReads w (.slice a n cap) xs) {j : Nat} (hj : j < xs.length) : ∃ b off, a = some ⟨b, off, none⟩ ∧ b < w.heap.size ∧ (∀ i (hi : i < 9), w.cell? ⟨b, off + j * 9 + i, none⟩ = some ((c9 xs[j])[i]'hi)) ∧ SReads w xs[j].v xs[j].D := by
  obtain ⟨a', cap', hv, _, _, h3⟩ := h
  simp at hv
  obtain ⟨rfl, rfl, rfl⟩ := hv
  rcases h3 with rfl | ⟨b, off, rfl, h5, h6⟩
  · simp at hj
  · exact ⟨b, off, rfl, h5, (h6 j hj).1, (h6 j hj).2⟩
/-- Is what comes of an item something else? -/
noncomputable def itS (R : Rl) (wm : Int) (x : It) : Bool := !((flq R wm x.f x.g == x.f) && ((((stq R wm x.f x.g : Nat) : Int) == (x.g : Int)) && (goneB R wm x.f == false)))
theorem ItOk.beg {R : Rl} (hR : RightP R) {x : It} (h : ItOk R x) : Beg R x.f x.g := (begB_iff hR).1 h.b
theorem itS_iff {R : Rl} (hR : RightP R) {wm : Int} {x : It} (h : ItOk R x) : itS R wm x = decide (fk R wm (itE x).1 ≠ some (itE x).1) := by
  have h1 := rdF_kb x.D x.f (x.g : Int) h.r
  have h2 := fk_stale hR (w := wm) h1 (by rw [Int.toNat_natCast]; exact (h.beg hR).gl)
  rw [Int.toNat_natCast] at h2
  unfold itS itE
  dsimp only
  rw [Bool.eq_iff_iff]
  simp only [Bool.not_eq_true', Bool.and_eq_false_imp, beq_iff_eq, decide_eq_true_eq, ne_eq, h2]
  constructor
  · intro h3 h4
    have := h3 h4.1 h4.2.1
    rw [h4.2.2] at this
    simp at this
  · intro h3 h4 h5
    have : goneB R wm x.f ≠ false := fun h6 => h3 ⟨h4, h5, h6⟩
    simpa using this
theorem stale_its {R : Rl} (hR : RightP R) {wm : Int} {xs : List It} {L : List En} (hm : xs.map itE = L) (hok : ∀ x ∈ xs, ItOk R x) : staleF R wm L = xs.any (itS R wm) := by
  subst hm
  unfold staleF
  rw [List.any_map]
  induction xs with
  | nil => rfl
  | cons x xs ih =>
    rw [List.any_cons, List.any_cons, ih (fun y hy => hok y (List.mem_cons_of_mem _ hy)), itS_iff hR (hok x (List.mem_cons_self ..))]
    rfl
noncomputable def stB (R : Rl) (wm : Int) (L : List En) : Bool := if chkF R wm L = 0 then staleF R wm L else false
def SlPost (R : Rl) (wm : Int) (L : List En) (w : World) (e : Ending) (w' : World) : Prop := e = .returned (.tuple #[.bool (stB R wm L), .int .i64 (chkF R wm L)]) ∧ Below w.heap.size w w'
set_option maxRecDepth 100000 in
set_option maxHeartbeats 4000000 in
theorem stale_any (R : Rl) (wm : Int) (v : Value) (L : List En) (w : World) (hL : Lies R w.heap.size w) (hE : EReads w v L) (hl : L.length ≤ 100000) (hk : ∀ x ∈ L, x.1.length ≤ 1000) :
    Calls Tryz.prog 11 #[.agg #[.slice R.a R.len R.cap, .int .i64 R.kp], .int .i64 wm, v] w (SlPost R wm L w) := by
  have HE : Hid (EReads w v L) := hE
  have HL : Hid (Lies R w.heap.size w) := hL
  have HK : Hid _ := hk
  obtain ⟨a, cap, rfl, hm1, hm2⟩ := hE.form
  unfold maxLen at hm2
  clear hE hL hk
  obtain ⟨w1, HW1⟩ := hid_ex (w.alloc (.cells #[.slice R.a R.len R.cap, .int .i64 R.kp] 24))
  have hb1 : Below w.heap.size w w1 := by rw [HW1.out]; exact new_below _ _
  have HX1 : Hid (RBox R w.heap.size w1) := by rw [HW1.out]; exact RBox.new R w _
  have HL1 : Hid (Lies R w1.heap.size w1) := HL.out.at hb1
  have HE1 : Hid (EReads w1 (.slice a L.length cap) L) := HE.out.below hb1
  have HB1 : Hid _ := hb1
  clear hb1
  go_enter Tryz.func11, Tryz.ntmps11
  go_wp2_with fail
  rw [← HW1.out]
  clear HW1
  refine (checked_any R wm _ L _ HL1.out HE1.out hl HK.out).mono ?_
  rintro e w2 ⟨hb2, ⟨hne, rfl⟩ | ⟨hz, xa, xc, xs, rfl, ht, hm, hok⟩⟩
  · have hb0 : (chkF R wm L == 0) = false := by simp [hne]
    have HS : Hid (stB R wm L = false) := by unfold Hid stB; rw [if_neg hne]
    have HB2 : Hid (Below w.heap.size w w2) := HB1.out.trans (hb2.mono HB1.out.size)
    have HEnd : Hid (SlPost R wm L w (.returned (.tuple #[.bool false, .int .i64 (chkF R wm L)])) w2) := ⟨by rw [HS.out], HB2.out⟩
    clear hne hb2 HS
    generalize chkF R wm L = rr at *
    go_wp2_with fail
    go_ret2
    exact HEnd.out
  · obtain ⟨_, hR, hwt, _, _⟩ := chkF_ok hz
    have HS : Hid (stB R wm L = xs.any (itS R wm)) := by unfold Hid stB; rw [if_pos hz]; exact stale_its hR hm hok
    have HB2 : Hid (Below w.heap.size w w2) := HB1.out.trans (hb2.mono HB1.out.size)
    have HX2 : Hid (RBox R w.heap.size w2) := HX1.out.below hb2
    have HT : Hid (TReads w2 (.slice xa L.length xc) xs) := ht
    have hxl : xs.length = L.length := by rw [← hm]; simp
    have HOK : Hid _ := hok
    have HR : Hid (RightP R) := hR
    have HEnd : Hid (∀ W b, xs.any (itS R wm) = b → Below w2.heap.size w2 W → SlPost R wm L w (.returned (.tuple #[.bool b, .int .i64 0])) W) := fun W b h1 h2 => ⟨by rw [HS.out, hz, h1], HB2.out.trans (h2.mono HB2.out.size)⟩
    clear hz hb2 ht hm hok hR HB1 HX1 HL1 HE1 HS
    rw [← hxl] at HT ⊢
    go_wp2_with fail
    go_loopw [24] (fun i wr => ∃ k : Nat, i = .int .i64 (k : Int) ∧ k ≤ xs.length ∧ Hid ((xs.take k).any (itS R wm) = false) ∧ Hid (Below w2.heap.size w2 wr)) (fun i _ => xs.length - (intOf i).toNat)
    case atStart => exact ⟨0, rfl, by omega, rfl, Below.refl _ _⟩
    case round =>
      obtain ⟨k, rfl, hk, HP, HW⟩ := hrel
      by_cases hlt : k < xs.length
      · obtain ⟨b, off, rfl, hbw, hcw, hsr⟩ := HT.out.at hlt
        have hok := HOK.out xs[k] (List.getElem_mem hlt)
        have HN : Hid ((xs.take (k + 1)).any (itS R wm) = itS R wm xs[k]) := by
          unfold Hid
          rw [List.take_add_one, List.getElem?_eq_getElem hlt, List.any_append, HP.out]; simp
        have HA : Hid (itS R wm xs[k] = true → xs.any (itS R wm) = true) := fun h => List.any_eq_true.2 ⟨_, List.getElem_mem hlt, h⟩
        have hc : ∀ i (hi : i < 9), wr.cell? ⟨b, off + k * 9 + i, none⟩ = some ((c9 xs[k])[i]'hi) := fun i hi => (HW.out.cell (p := ⟨b, off + k * 9 + i, none⟩) hbw).trans (hcw i hi)
        obtain ⟨X, HX⟩ := hid_ex xs[k]
        rw [← HX.out] at hc hok HN HA hsr
        have hbeg := hok.beg HR.out
        obtain ⟨va, vc, hvd, _⟩ := hsr.form
        obtain ⟨dn, Hdn⟩ := hid_ex X.D.length
        rw [← Hdn.out] at hvd
        have c0 := hc 0 (by decide)
        have c1 := hc 1 (by decide)
        have c2 := hc 2 (by decide)
        have c3 := hc 3 (by decide)
        have c4 := hc 4 (by decide)
        have c5 := hc 5 (by decide)
        have c6 := hc 6 (by decide)
        have c7 := hc 7 (by decide)
        have c8 := hc 8 (by decide)
        simp only [c9, List.getElem_cons_zero, List.getElem_cons_succ, Nat.add_zero] at c0 c1 c2 c3 c4 c5 c6 c7 c8
        rw [hvd] at c0
        obtain ⟨w3, HW3⟩ := hid_ex (wr.alloc (.cells #[.slice va dn vc, .int .i64 X.f, .int .i64 (X.g : Int), .int .u64 X.a.c, .bool X.a.o, .int .i64 (hi X.a.s), .int .u64 (lo X.a.s), .int .i64 X.a.mn, .int .i64 X.a.mx] 75))
        have hb3 : Below wr.heap.size wr w3 := by rw [HW3.out]; exact new_below _ _
        have HB3 : Hid (Below w2.heap.size w2 w3) := HW.out.trans (hb3.mono HW.out.size)
        have HBX : Hid (w3.heap[wr.heap.size]? = some (.cells #[.slice va dn vc, .int .i64 X.f, .int .i64 (X.g : Int), .int .u64 X.a.c, .bool X.a.o, .int .i64 (hi X.a.s), .int .u64 (lo X.a.s), .int .i64 X.a.mn, .int .i64 X.a.mx] 75)) := by rw [HW3.out]; exact heap_alloc_new _ _
        have HLI : Hid (∀ W, Below w3.heap.size w3 W → Lies R W.heap.size W ∧ RBox R w.heap.size W) := fun W hW => by
          have h1 : Below w2.heap.size w2 W := HB3.out.trans (hW.mono HB3.out.size)
          exact ⟨HL.out.at (HB2.out.trans (h1.mono HB2.out.size)), HX2.out.below h1⟩
        have HFO : Hid (∀ W, Lies R W.heap.size W → Calls Tryz.prog 21 #[.agg #[.slice R.a R.len R.cap, .int .i64 R.kp], .int .i64 wm, .agg #[.slice va dn vc, .int .i64 X.f, .int .i64 (X.g : Int)]] W fun e w' => e = .returned (fateV R wm X.f X.g) ∧ Below W.heap.size W w') := fun W hW => fateOf_any R HR.out wm hwt va dn vc X.f X.g hbeg.t hbeg.gl W hW
        unfold itS at HN HA
        unfold fateV at HFO
        obtain ⟨fr, Hfr⟩ := hid_ex (flq R wm X.f X.g)
        obtain ⟨q, Hq⟩ := hid_ex (stq R wm X.f X.g)
        obtain ⟨gn, Hgn⟩ := hid_ex (goneB R wm X.f)
        rw [← Hfr.out, ← Hq.out, ← Hgn.out] at HN HA
        rw [← Hfr.out, ← Hq.out, ← Hgn.out] at HFO
        clear hc hcw hsr hb3 hok hbeg Hfr Hq Hgn HX
        go_wp2_with fail
        rw [← HW3.out]
        clear HW3 c0 c1 c2 c3 c4 c5 c6 c7 c8
        refine wp_region_noPanic ?_
        refine wp_region_held_drew (S := (fun w' => Below w3.heap.size w3 w')) (by kernel_rfl) ?_ (fun hHeld => ?_)
        · exact (Below.refl _ _).drew
        refine wpAnyH_take (i := 0) (v := .agg #[.slice R.a R.len R.cap, .int .i64 R.kp]) rfl (by kernel_rfl) (by kernel_rfl) (by kernel_rfl) (fun _ _ _ h => h) (Or.inl ⟨by rfl, ?_⟩) (by assumption) ?_
        · (intro w1 hSw; (try dsimp only at hSw); obtain ⟨r0, r1⟩ := (HLI.out _ hSw).2.at; go_simp)
        simp only [List.getElem_toArray, List.getElem_cons_zero, Act.put, List.setIfInBounds_toArray, List.set_cons_zero, List.set_cons_succ]
        refine wpAnyH_take (i := 1) (v := .int .i64 wm) rfl (by kernel_rfl) (by kernel_rfl) (by kernel_rfl) (fun _ _ _ h => h) (Or.inl ⟨by rfl, ?_⟩) (by assumption) ?_
        · (intro w1 hSw; (try dsimp only at hSw); go_simp)
        simp only [List.getElem_toArray, List.getElem_cons_succ, List.getElem_cons_zero, Act.put, List.setIfInBounds_toArray, List.set_cons_zero, List.set_cons_succ]
        refine wpAnyH_take (i := 2) (v := .pointer (some ⟨wr.heap.size, 0, none⟩)) rfl (by kernel_rfl) (by kernel_rfl) (by kernel_rfl) (fun _ _ _ h => h) (Or.inl ⟨by rfl, ?_⟩) (by assumption) ?_
        · (intro w1 hSw; (try dsimp only at hSw); go_simp)
        simp only [List.getElem_toArray, List.getElem_cons_succ, List.getElem_cons_zero, Act.put, List.setIfInBounds_toArray, List.set_cons_zero, List.set_cons_succ]
        refine wpAnyH_take (i := 3) (v := .agg #[.slice va dn vc, .int .i64 X.f, .int .i64 (X.g : Int)]) rfl (by kernel_rfl) (by kernel_rfl) (by kernel_rfl) (fun _ _ _ h => h) (Or.inl ⟨by rfl, ?_⟩) (by assumption) ?_
        · (intro w1 hSw; (try dsimp only at hSw); have hxx := (hSw.block _ (Array.getElem?_eq_some_iff.1 HBX.out).1).trans HBX.out; have h0 := (cell_row hxx 0 (by simp)).1; have h1 := (cell_row hxx 1 (by simp)).1; have h2 := (cell_row hxx 2 (by simp)).1; simp only [List.getElem_toArray, List.getElem_cons_succ, List.getElem_cons_zero] at h0 h1 h2; go_simp)
        simp only [List.getElem_toArray, List.getElem_cons_succ, List.getElem_cons_zero, Act.put, List.setIfInBounds_toArray, List.set_cons_zero, List.set_cons_succ]
        refine wpAnyH_take (i := 5) (v := .pointer (some ⟨wr.heap.size, 0, none⟩)) rfl (by kernel_rfl) (by kernel_rfl) (by kernel_rfl) (fun _ _ _ h => h) (Or.inl ⟨by rfl, ?_⟩) (by assumption) ?_
        · (intro w1 hSw; (try dsimp only at hSw); go_simp)
        simp only [List.getElem_toArray, List.getElem_cons_succ, List.getElem_cons_zero, Act.put, List.setIfInBounds_toArray, List.set_cons_zero, List.set_cons_succ]
        refine wpAnyH_take (i := 6) (v := .pointer (some ⟨wr.heap.size, 1, none⟩)) rfl (by kernel_rfl) (by kernel_rfl) (by kernel_rfl) (fun _ _ _ h => h) (Or.inl ⟨by rfl, ?_⟩) (by assumption) ?_
        · (intro w1 hSw; (try dsimp only at hSw); go_simp)
        simp only [List.getElem_toArray, List.getElem_cons_succ, List.getElem_cons_zero, Act.put, List.setIfInBounds_toArray, List.set_cons_zero, List.set_cons_succ]
        refine wpAnyH_take (i := 7) (v := .int .i64 X.f) rfl (by kernel_rfl) (by kernel_rfl) (by kernel_rfl) (fun _ _ _ h => h) (Or.inl ⟨by rfl, ?_⟩) (by assumption) ?_
        · (intro w1 hSw; (try dsimp only at hSw); have hxx := (hSw.block _ (Array.getElem?_eq_some_iff.1 HBX.out).1).trans HBX.out; have h1 := (cell_row hxx 1 (by simp)).1; simp only [List.getElem_toArray, List.getElem_cons_succ, List.getElem_cons_zero] at h1; go_simp)
        simp only [List.getElem_toArray, List.getElem_cons_succ, List.getElem_cons_zero, Act.put, List.setIfInBounds_toArray, List.set_cons_zero, List.set_cons_succ]
        refine wpAnyH_take (i := 8) (v := .pointer (some ⟨wr.heap.size, 0, none⟩)) rfl (by kernel_rfl) (by kernel_rfl) (by kernel_rfl) (fun _ _ _ h => h) (Or.inl ⟨by rfl, ?_⟩) (by assumption) ?_
        · (intro w1 hSw; (try dsimp only at hSw); go_simp)
        simp only [List.getElem_toArray, List.getElem_cons_succ, List.getElem_cons_zero, Act.put, List.setIfInBounds_toArray, List.set_cons_zero, List.set_cons_succ]
        refine wpAnyH_take (i := 9) (v := .pointer (some ⟨wr.heap.size, 2, none⟩)) rfl (by kernel_rfl) (by kernel_rfl) (by kernel_rfl) (fun _ _ _ h => h) (Or.inl ⟨by rfl, ?_⟩) (by assumption) ?_
        · (intro w1 hSw; (try dsimp only at hSw); go_simp)
        simp only [List.getElem_toArray, List.getElem_cons_succ, List.getElem_cons_zero, Act.put, List.setIfInBounds_toArray, List.set_cons_zero, List.set_cons_succ]
        refine wpAnyH_take (i := 10) (v := .int .i64 (X.g : Int)) rfl (by kernel_rfl) (by kernel_rfl) (by kernel_rfl) (fun _ _ _ h => h) (Or.inl ⟨by rfl, ?_⟩) (by assumption) ?_
        · (intro w1 hSw; (try dsimp only at hSw); have hxx := (hSw.block _ (Array.getElem?_eq_some_iff.1 HBX.out).1).trans HBX.out; have h2 := (cell_row hxx 2 (by simp)).1; simp only [List.getElem_toArray, List.getElem_cons_succ, List.getElem_cons_zero] at h2; go_simp)
        simp only [List.getElem_toArray, List.getElem_cons_succ, List.getElem_cons_zero, Act.put, List.setIfInBounds_toArray, List.set_cons_zero, List.set_cons_succ]
        refine wpAnyH_take (i := 11) (v := .agg #[.int .i64 X.f, .int .i64 (X.g : Int), .bool false]) rfl (by kernel_rfl) (by kernel_rfl) (by kernel_rfl) (fun _ _ _ h => h) (Or.inl ⟨by rfl, ?_⟩) (by assumption) ?_
        · (intro w1 hSw; (try dsimp only at hSw); go_simp)
        simp only [List.getElem_toArray, List.getElem_cons_succ, List.getElem_cons_zero, Act.put, List.setIfInBounds_toArray, List.set_cons_zero, List.set_cons_succ]
        refine wpAnyH_ready (rs := [4]) (by kernel_rfl) (by simp) ?_
        refine AllReadyH.cons (o := _) rfl (fun K hK => ?_) AllReadyH.nil
        go_simp
        refine (HFO.out _ (HLI.out _ (Below.refl _ _).drew).1).mono ?_
        rintro e w4 ⟨rfl, hb4⟩
        have HW4 : Hid (Below w3.heap.size w3 w4) := (Below.refl w3.heap.size w3).drew.trans hb4
        clear hb4
        refine hK.out _ _ ?_ (fun hHeld => ?_)
        · exact HW4.out
        clear hK K
        refine wpAnyH_take (i := 12) (v := .bool (!((fr == X.f) && (((q : Int) == (X.g : Int)) && (gn == false))))) rfl (by kernel_rfl) (by kernel_rfl) (by kernel_rfl) (fun _ _ _ h => h) (Or.inl ⟨by rfl, ?_⟩) (by assumption) ?_
        · (intro w1 hSw; (try dsimp only at hSw); go_simp; (by_cases h1 : fr = X.f <;> by_cases h2 : ((q : Nat) : Int) = ((X.g : Nat) : Int) <;> cases gn <;> simp [h1, h2]))
        simp only [List.getElem_toArray, List.getElem_cons_succ, List.getElem_cons_zero, Act.put, List.setIfInBounds_toArray, List.set_cons_zero, List.set_cons_succ]
        clear hHeld
        refine wpAnyH_done (by kernel_rfl) ?_ _
        refine NoPanic.normal ?_
        obtain ⟨d, Hd⟩ := hid_ex (!((fr == X.f) && (((q : Int) == (X.g : Int)) && (gn == false))))
        rw [← Hd.out] at HN HA ⊢
        clear Hd
        cases d with
        | true =>
          have HE4 : Hid (SlPost R wm L w (.returned (.tuple #[.bool true, .int .i64 0])) w4) := HEnd.out _ _ (HA.out rfl) (HB3.out.trans (HW4.out.mono HB3.out.size))
          go_wp2_with fail
          go_ret2
          exact HE4.out
        | false =>
          have HB4 : Hid (Below w2.heap.size w2 w4) := HB3.out.trans (HW4.out.mono HB3.out.size)
          go_wp2_with fail
          go_roundw
          case rel => exact ⟨k + 1, by go_num, by omega, HN, HB4⟩
          case measure => simp [intOf]; omega
      · obtain rfl : k = xs.length := by omega
        have HE4 : Hid (SlPost R wm L w (.returned (.tuple #[.bool false, .int .i64 0])) wr) := HEnd.out _ _ (by have := HP.out; rw [List.take_length] at this; exact this) HW.out
        go_wp2_with fail
        go_ret2
        exact HE4.out
end Go.Proofs.YthicmbjiblbcmaaGreat

/- The contract of slices.Insert of one entry. -/
namespace Go.Proofs.YthicmbjiblbcmaaGreat
open Go.RowKit

/-- A copy of elements of several cells, within rows. -/
theorem run_copy_rowK (w : World) (dT sT ty elem : TypeId) (size g o dLen dCap : Nat) (a : Addr) (sLen sCap m : Nat) (cur : Array Value) (t : TypeId) (cs : List Value)
    (hu : Tryz.prog.underlying dT = some (.slice elem)) (hs : (Tryz.prog.info? elem).map (·.size) = some size)
    (hg : w.heap[g]? = some (.cells cur t (0, 0))) (hm : Nat.min sLen dLen = m) (hn : cs.length = m * size)
    (hsrc : ∀ j v, cs[j]? = some v → w.cell? (a.add j) = some v) (hfit : o + cs.length ≤ cur.size) (h1 : ∀ v ∈ cs, v.oneCell' = true) :
    (Builtin.copy_ #[dT, sT] ty #[.slice (some ⟨g, o, none⟩) dLen dCap, .slice (some a) sLen sCap]).run Tryz.prog w =
      .ok (goInt m) (w.setRow g (cur.toList.take o ++ cs ++ cur.toList.drop (o + cs.length)).toArray) := by
  subst hm
  have hl := run_loadCells_list (P := Tryz.prog) w a cs hsrc
  have hst := run_storeCells_at Tryz.prog g o t cs 0 cur w hg (by simpa using hfit) h1
  rw [hn] at hl
  cases hq : Tryz.prog.info? elem with
  | none => simp [hq] at hs
  | some i =>
    have hi : i.size = size := by simpa [hq] using hs
    simp [Builtin.copy_, run_underlying hu, Builtin.lenOf, Builtin.firstCells, sizeOf, typeInfo, hq, hi, hl, hst]
theorem wp_copy_run {w w' : World} {o : Oper} {a : Act} {K : Act → World → Prop} {Q : Exit → Act → World → Prop} (d s : Operand) (t t' ty : TypeId) (ho : o.op = .call { callee := .builtin .copy, args := #[d, s], argTypes := #[t, t'] }) (hty : o.type = ty) (v u v' : Value) (hd : a.eval d = v) (hs : a.eval s = u)
    (hrun : (Builtin.copy_ #[t, t'] ty #[v, u]).run Tryz.prog w = .ok v' w') (h : K (a.put o.dst v') w') : o.wp Tryz.prog a w K Q := by
  subst hty
  unfold Oper.wp
  simp [execOp, ho, resolve, invoke, builtin, hd, hs, hrun, Result.andThen]
  exact h
theorem wpList_copy_run {w w' : World} {ops : Array Oper} {rest : List Oper} {o : Oper} {a : Act} {Q : Exit → Act → World → Prop} (hgd : o.guard = none) (d s : Operand) (t t' ty : TypeId) (ho : o.op = .call { callee := .builtin .copy, args := #[d, s], argTypes := #[t, t'] }) (hty : o.type = ty) (v u v' : Value) (hd : a.eval d = v) (hs : a.eval s = u)
    (hrun : (Builtin.copy_ #[t, t'] ty #[v, u]).run Tryz.prog w = .ok v' w') (h : wpList Tryz.prog ops Q rest (a.put o.dst v') w') : wpList Tryz.prog ops Q (o :: rest) a w :=
  wpList_plain hgd fun _ hK => wp_copy_run d s t t' ty ho hty v u v' hd hs hrun (hK _ _ h)
theorem wpList_appZ_run {w w' : World} {ops : Array Oper} {rest : List Oper} {o : Oper} {a : Act} {Q : Exit → Act → World → Prop} (hgd : o.guard = none) (s x : Operand) (t t' ty : TypeId) (ho : o.op = .call { callee := .builtin .append, args := #[s, x], argTypes := #[t, t'] }) (hty : o.type = ty) (v vx v' : Value) (hs : a.eval s = v) (hx : a.eval x = vx)
    (hrun : (Builtin.append_ #[t, t'] ty #[v, vx]).run Tryz.prog w = .ok v' w') (h : wpList Tryz.prog ops Q rest (a.put o.dst v') w') : wpList Tryz.prog ops Q (o :: rest) a w :=
  wpList_plain hgd fun _ hK => by
    subst hty
    unfold Oper.wp
    simp [execOp, ho, resolve, invoke, builtin, hs, hx, hrun, Result.andThen]
    exact hK _ _ h
theorem sizeE (w : World) : (sizeOf 56).run Tryz.prog w = .ok 7 w := by
  simp [sizeOf]
  rfl
theorem elemE : Tryz.prog.elem 31 = 56 := by kernel_rfl
theorem undE : Tryz.prog.underlying 31 = some (.slice (Tryz.prog.elem 31)) := by rw [elemE]; exact Tryz.underlying31
theorem esl_from (a : Option Addr) (n cap c : Nat) (hc : c ≤ n) (w : World) : (Instr.slice 31 (.slice a n cap) (some (.int .i64 (c : Int))) none none).run Tryz.prog w = .ok (sliced a c n cap 7) w := by
  rw [run_slice_l _ _ _ _ _ undE _ _ (by omega) (by omega), elemE, sizeE]
  rfl
theorem esl_upto (a : Option Addr) (n cap d : Nat) (hd : d ≤ cap) (w : World) : (Instr.slice 31 (.slice a n cap) none (some (.int .i64 (d : Int))) none).run Tryz.prog w = .ok (sliced a 0 d cap 7) w := by
  rw [run_slice_h _ _ _ _ _ undE _ _ (by omega) (by omega), elemE, sizeE]
  rfl
theorem sliced_some (g c d cap : Nat) (h : c < cap) : sliced (some ⟨g, 0, none⟩) c d cap 7 = .slice (some ⟨g, c * 7, none⟩) (d - c) (cap - c) := by
  unfold sliced
  rw [if_neg (by omega)]
  simp [Addr.add]
  omega
theorem flat7_take : ∀ (xs : List Ev) (i : Nat), (xs.flatMap c7).take (i * 7) = (xs.take i).flatMap c7
  | [], _ => by simp
  | x :: xs, 0 => by simp
  | x :: xs, i + 1 => by
    rw [List.take_succ_cons, List.flatMap_cons, List.flatMap_cons, ← flat7_take xs i, List.take_append, List.take_of_length_le (by rw [c7_len]; omega), c7_len, show (i + 1) * 7 - 7 = i * 7 by omega]
theorem flat7_drop : ∀ (xs : List Ev) (i : Nat), (xs.flatMap c7).drop (i * 7) = (xs.drop i).flatMap c7
  | [], _ => by simp
  | x :: xs, 0 => by simp
  | x :: xs, i + 1 => by
    rw [List.drop_succ_cons, List.flatMap_cons, ← flat7_drop xs i, List.drop_append, List.drop_of_length_le (by rw [c7_len]; omega), c7_len, show (i + 1) * 7 - 7 = i * 7 by omega]
    simp
/-- One more at a place. -/
def insE (xs : List Ev) (i : Nat) (y : Ev) : List Ev := xs.take i ++ y :: xs.drop i
theorem insE_flat (xs : List Ev) (i : Nat) (y : Ev) : (insE xs i y).flatMap c7 = (xs.flatMap c7).take (i * 7) ++ (c7 y ++ (xs.flatMap c7).drop (i * 7)) := by
  unfold insE
  rw [List.flatMap_append, List.flatMap_cons, flat7_take, flat7_drop]
theorem insE_len {xs : List Ev} {i : Nat} {y : Ev} (h : i ≤ xs.length) : (insE xs i y).length = xs.length + 1 := by
  unfold insE; simp; omega
theorem grown_setRow {A B : World} {row : Option Nat} {g : Nat} (h : A.grownBy B row) (hg : some g = row ∨ A.heap.size ≤ g) (cs : Array Value) : A.grownBy (B.setRow g cs) row :=
  ⟨h.os, h.tape, h.output, by simpa using h.size, fun k hk hne => by
    rw [setRow_other B g k cs (by rcases hg with e | e; exact fun e2 => hne (by rw [e2, e]); omega)]
    exact h.block k hk hne⟩
theorem grown_drew {A B : World} {row : Option Nat} (h : A.grownBy B row) : A.grownBy B.drew row := ⟨h.os, h.tape, h.output, h.size, h.block⟩
theorem grown_refl (A : World) (row : Option Nat) : A.grownBy A row := ⟨rfl, rfl, rfl, Nat.le_refl _, fun _ _ _ => rfl⟩
def InPost (w : World) (base : Nat) (v : Value) (xs : List Ev) (i : Nat) (y : Ev) (e : Ending) (w' : World) : Prop :=
  ∃ v', e = .returned v' ∧ w'.ownsRow base 56 7 v' (xs.length + 1) ((insE xs i y).flatMap c7) ∧ w.grownBy w' v.ownBlock
/-- At the end. -/
theorem insert_end (v : Value) (xs : List Ev) (y : Ev) (w : World) (base vb : Nat) (hr : w.ownsRow base 56 7 v xs.length (xs.flatMap c7)) (hl : xs.length ≤ 1000000) (hb : base ≤ w.heap.size) (hy : y.kv.oneCell' = true)
    (hv : w.heap[vb]? = some (.cells (c7 y).toArray 56)) :
    Calls Tryz.prog 41 #[v, .int .i64 (xs.length : Int), .slice (some ⟨vb, 0, none⟩) 1 1] w (InPost w base v xs xs.length y) := by
  obtain ⟨a, cap, rfl⟩ := row_form hr
  obtain ⟨i0, hinf, hz0, hz1, hz2⟩ := info_parts infoEn
  have hnews : ∀ j u, (c7 y)[j]? = some u → w.cell? ((⟨vb, 0, none⟩ : Addr).add j) = some u := by
    intro j u hj
    have ea : (⟨vb, 0, none⟩ : Addr).add j = ⟨vb, j, none⟩ := by simp [Addr.add]; omega
    rw [ea, Go.Joins.cell_of_block hv]
    simpa using hj
  obtain ⟨v6, w6, hrun, hown6, hg6, _⟩ := run_append_own (P := Tryz.prog) w base 31 31 56 i0 _ 7 72 Tryz.underlying31 hinf hz0 hz1 hz2 rfl (by decide) (.slice a xs.length cap) xs.length (xs.flatMap c7) hr ⟨vb, 0, none⟩ 1 1 (c7 y) rfl hnews (one7 y hy) (by unfold maxLen; omega) (by omega) hb
  have HEnd : Hid (InPost w base (.slice a xs.length cap) xs xs.length y (.returned v6) w6) := ⟨v6, rfl, by rw [insE_flat, List.take_of_length_le (by rw [flat7_len]; omega), List.drop_of_length_le (by rw [flat7_len]; omega)]; simpa using hown6, hg6⟩
  have hsl : ∀ W, (Instr.slice 31 (.slice a xs.length cap) (some (.int .i64 (xs.length : Int))) none none).run Tryz.prog W = .ok (sliced a xs.length xs.length cap 7) W := fun W => esl_from a xs.length cap xs.length (Nat.le_refl _) W
  obtain ⟨sv, Hsv⟩ := hid_ex (sliced a xs.length xs.length cap 7)
  rw [← Hsv.out] at hsl
  clear hr hnews hown6 hg6 hv Hsv
  obtain ⟨n, Hn⟩ := hid_ex xs.length
  rw [← Hn.out] at hrun hsl HEnd hl ⊢
  clear Hn
  go_enter Tryz.func41, Tryz.ntmps41
  go_wp2_with (at_builtin; refine wpList_app_run rfl _ _ _ _ rfl rfl _ _ _ rfl rfl hrun ?_)
  go_ret
  exact HEnd.out
end Go.Proofs.YthicmbjiblbcmaaGreat

/- The contract of slices.Insert of one entry, where what stands behind is moved. -/
namespace Go.Proofs.YthicmbjiblbcmaaGreat
open Go.RowKit

theorem rows_shift {Z F c : List Value} {i n : Nat} (hF : F.length = n * 7) (hc : c.length = 7) (hi : i ≤ n) (hZ : (n + 1) * 7 ≤ Z.length) (hp : Z.take (n * 7) = F) :
    let r1 := Z.take ((i + 1) * 7) ++ F.drop (i * 7) ++ Z.drop ((i + 1) * 7 + (F.drop (i * 7)).length)
    let r2 := r1.take (i * 7) ++ c ++ r1.drop (i * 7 + c.length)
    r1.length = Z.length ∧ r2.length = Z.length ∧ r2.take ((n + 1) * 7) = F.take (i * 7) ++ (c ++ F.drop (i * 7)) := by
  intro r1 r2
  have l1 : r1.length = Z.length := by simp [r1]; omega
  have l2 : r2.length = Z.length := by simp only [r2, List.length_append, List.length_take, List.length_drop, l1, hc]; omega
  refine ⟨l1, l2, ?_⟩
  have e1 : r1.take (i * 7) = F.take (i * 7) := by
    simp only [r1]
    rw [List.append_assoc, List.take_append_of_le_length (by simp; omega), List.take_take, Nat.min_eq_left (by omega), ← hp, List.take_take, Nat.min_eq_left (by omega)]
  have e2 : r1.drop (i * 7 + c.length) = F.drop (i * 7) ++ Z.drop ((i + 1) * 7 + (F.drop (i * 7)).length) := by
    simp only [r1]
    rw [hc, List.append_assoc, List.drop_append_of_le_length (by simp; omega), List.drop_of_length_le (by simp; omega), List.nil_append]
  simp only [r2]
  rw [e1, e2, List.append_assoc, ← List.append_assoc c, ← List.append_assoc, List.take_append_of_le_length (by simp; omega), List.take_of_length_le (by simp; omega)]
theorem rows_grow {Z F c : List Value} {i n : Nat} (hF : F.length = n * 7) (hc : c.length = 7) (hi : i ≤ n) (hZ : (n + 1) * 7 ≤ Z.length) (hp : Z.take (i * 7) = F.take (i * 7)) :
    let r2 := Z.take (i * 7) ++ c ++ Z.drop (i * 7 + c.length)
    let r3 := r2.take ((i + 1) * 7) ++ F.drop (i * 7) ++ r2.drop ((i + 1) * 7 + (F.drop (i * 7)).length)
    r2.length = Z.length ∧ r3.length = Z.length ∧ r3.take ((n + 1) * 7) = F.take (i * 7) ++ (c ++ F.drop (i * 7)) := by
  intro r2 r3
  have l2 : r2.length = Z.length := by simp only [r2, List.length_append, List.length_take, List.length_drop, hc]; omega
  have l3 : r3.length = Z.length := by simp only [r3, List.length_append, List.length_take, List.length_drop, l2]; omega
  refine ⟨l2, l3, ?_⟩
  have e1 : r2.take ((i + 1) * 7) = F.take (i * 7) ++ c := by
    simp only [r2]
    rw [List.take_append_of_le_length (by simp; omega), List.take_of_length_le (by simp; omega), hp]
  simp only [r3]
  rw [e1, List.take_append_of_le_length (by simp; omega), List.take_of_length_le (by simp; omega), List.append_assoc]
theorem ovl_any (w : World) (vb g o lb cb : Nat) (cv cg : Array Value) (hne : vb ≠ g) (hv : w.heap[vb]? = some (.cells cv 56)) (hg : w.heap[g]? = some (.cells cg 56)) (hsz : cg.size ≠ 0) :
    (callFunc 71 #[.slice (some ⟨vb, 0, none⟩) 1 1, .slice (some ⟨g, o, none⟩) lb cb]).run Tryz.prog w = .ok (.value (.bool false)) w := by
  rw [run_callFunc_extern Tryz.func71 (by kernel_rfl) (by kernel_rfl) (by kernel_rfl) (e := Extern.SlicesOverlaps.overlaps #[31, 31] #[4]) (by kernel_rfl),
    Lib.run_overlaps_apart w 31 4 56 Tryz.underlying31 7 sizeE ⟨vb, 0, none⟩ ⟨g, o, none⟩ 1 1 lb cb hne 56 56 cv.size cg.size (by simp [World.shape?, hv]) (by simp [World.shape?, hg]) hsz (by simp [World.frozen?, hv]) (by simp [World.frozen?, hv])]
  rfl
theorem infoE7 : (Tryz.prog.info? 56).map (·.size) = some 7 := by
  obtain ⟨i0, hinf, hz0, hz1, hz2⟩ := info_parts infoEn
  rw [hinf]; simp [hz1]
theorem one_flat7 {xs : List Ev} (h : ∀ x ∈ xs, x.kv.oneCell' = true) : ∀ u ∈ xs.flatMap c7, u.oneCell' = true := by
  intro u hu
  obtain ⟨x, hx, hux⟩ := List.mem_flatMap.1 hu
  exact one7 x (h x hx) u hux
set_option maxRecDepth 100000 in
set_option maxHeartbeats 2000000 in
theorem insert_shift (g cap : Nat) (xs : List Ev) (i : Nat) (y : Ev) (w : World) (base vb : Nat) (hr : w.ownsRow base 56 7 (.slice (some ⟨g, 0, none⟩) xs.length cap) xs.length (xs.flatMap c7)) (hl : xs.length ≤ 1000000) (hi : i < xs.length) (hroom : xs.length + 1 ≤ cap) (hne : vb ≠ g)
    (hy : ∀ x ∈ xs, x.kv.oneCell' = true) (hyy : y.kv.oneCell' = true) (hv : w.heap[vb]? = some (.cells (c7 y).toArray 56)) :
    Calls Tryz.prog 41 #[.slice (some ⟨g, 0, none⟩) xs.length cap, .int .i64 (i : Int), .slice (some ⟨vb, 0, none⟩) 1 1] w (InPost w base (.slice (some ⟨g, 0, none⟩) xs.length cap) xs i y) := by
  obtain ⟨cur, hcur, hbg, hcm, hcs, htk⟩ : ∃ cur : Array Value, w.heap[g]? = some (.cells cur 56) ∧ base ≤ g ∧ cap ≤ maxLen ∧ cur.size = cap * 7 ∧ cur.toList.take (xs.length * 7) = xs.flatMap c7 := by
    rcases hr.2 with ⟨q, _⟩ | ⟨g', cap', cur, q, hb, hw, hc, hx, hs, ht⟩
    · simp at q
    · simp at q
      obtain ⟨rfl, rfl⟩ := q
      exact ⟨cur, hw, hb, hx, hs, ht⟩
  have hFl := flat7_len xs
  obtain ⟨l1, l2, hrow⟩ := rows_shift (Z := cur.toList) (F := xs.flatMap c7) (c := c7 y) (i := i) (n := xs.length) hFl rfl (by omega) (by simp; omega) htk
  have hdl : ((xs.flatMap c7).drop (i * 7)).length = (xs.length - i) * 7 := by rw [List.length_drop, hFl]; omega
  have hcp1 := run_copy_rowK w.drew 31 31 3 56 7 g ((i + 1) * 7) (xs.length + 1 - (i + 1)) (cap - (i + 1)) ⟨g, i * 7, none⟩ (xs.length + 1 - i) (cap - i) (xs.length - i) cur 56 ((xs.flatMap c7).drop (i * 7)) Tryz.underlying31 infoE7 hcur (by show min _ _ = _; omega) hdl
    (fun j u hj => by
      rw [List.getElem?_drop] at hj
      have hlt : i * 7 + j < xs.length * 7 := by
        rw [← hFl]
        exact (List.getElem?_eq_some_iff.1 hj).1
      have ea : (⟨g, i * 7, none⟩ : Addr).add j = ⟨g, i * 7 + j, none⟩ := by simp [Addr.add]
      rw [ea, Go.Joins.cell_of_block (w := w.drew) hcur]
      rw [← htk, List.getElem?_take, if_pos hlt] at hj
      simpa using hj) (by rw [hdl, hcs]; omega) (fun u hu => one_flat7 hy u (List.mem_of_mem_drop hu))
  obtain ⟨r1, Hr1⟩ := hid_ex (cur.toList.take ((i + 1) * 7) ++ (xs.flatMap c7).drop (i * 7) ++ cur.toList.drop ((i + 1) * 7 + ((xs.flatMap c7).drop (i * 7)).length))
  rw [← Hr1.out] at hcp1 l1 hrow l2
  obtain ⟨w1, HW1⟩ := hid_ex (w.drew.setRow g r1.toArray)
  have hheap1 : w1.heap[g]? = some (.cells r1.toArray 56) := by rw [HW1.out]; exact setRow_heap w.drew g cur _ _ _ hcur
  have hv1 : w1.heap[vb]? = some (.cells (c7 y).toArray 56) := by rw [HW1.out, setRow_other _ _ _ _ hne]; exact hv
  have hg1 : w.grownBy w1 (some g) := by rw [HW1.out]; exact grown_setRow (grown_drew (grown_refl w _)) (.inl rfl) _
  rw [← HW1.out] at hcp1
  have hcp2 := run_copy_rowK w1 31 31 3 56 7 g (i * 7) (xs.length + 1 - i) (cap - i) ⟨vb, 0, none⟩ 1 1 1 r1.toArray 56 (c7 y) Tryz.underlying31 infoE7 hheap1 (by show min _ _ = _; omega) rfl
    (fun j u hj => by
      have ea : (⟨vb, 0, none⟩ : Addr).add j = ⟨vb, j, none⟩ := by simp [Addr.add]; omega
      rw [ea, Go.Joins.cell_of_block hv1]
      simpa using hj) (by rw [c7_len]; simp [l1]; omega) (one7 y hyy)
  rw [List.toList_toArray] at hcp2
  obtain ⟨r2, Hr2⟩ := hid_ex (r1.take (i * 7) ++ c7 y ++ r1.drop (i * 7 + (c7 y).length))
  rw [← Hr2.out] at hcp2
  have hl2 : r2.length = cap * 7 := by rw [Hr2.out, l2]; simp [hcs]
  have hrow2 : r2.take ((xs.length + 1) * 7) = (insE xs i y).flatMap c7 := by rw [Hr2.out, insE_flat]; exact hrow
  obtain ⟨w2, HW2⟩ := hid_ex (w1.setRow g r2.toArray)
  have hheap2 : w2.heap[g]? = some (.cells r2.toArray 56) := by rw [HW2.out]; exact setRow_heap w1 g _ _ _ _ hheap1
  have hg2 : w.grownBy w2 (some g) := by rw [HW2.out]; exact grown_setRow hg1 (.inl rfl) _
  rw [← HW2.out] at hcp2
  have HEnd : Hid (InPost w base (.slice (some ⟨g, 0, none⟩) xs.length cap) xs i y (.returned (.slice (some ⟨g, 0, none⟩) (xs.length + 1) cap)) w2) := ⟨_, rfl, ⟨by rw [flat7_len, insE_len (by omega)], .inr ⟨g, cap, r2.toArray, rfl, hbg, hheap2, hroom, hcm, by simp [hl2], by simpa using hrow2⟩⟩, hg2⟩
  have hov := fun lb cb => ovl_any w vb g ((i + 1) * 7) lb cb _ cur hne hv hcur (by omega)
  unfold maxLen at hcm
  clear hr hcur hcs htk hFl l1 l2 hrow hdl Hr1 HW1 hheap1 hv1 hg1 Hr2 hl2 hrow2 HW2 hheap2 hg2 hy hyy hv hbg
  obtain ⟨n, Hn⟩ := hid_ex xs.length
  rw [← Hn.out] at hcp1 hcp2 HEnd hl hi hroom ⊢
  clear Hn
  have hs1 : ∀ W, (Instr.slice 31 (.slice (some ⟨g, 0, none⟩) n cap) (some (.int .i64 (i : Int))) none none).run Tryz.prog W = .ok (.slice (some ⟨g, i * 7, none⟩) (n - i) (cap - i)) W := fun W => by rw [esl_from _ _ _ _ (by omega), sliced_some _ _ _ _ (by omega)]
  have hs2 : ∀ W, (Instr.slice 31 (.slice (some ⟨g, 0, none⟩) n cap) none (some (.int .i64 ((n : Int) + 1))) none).run Tryz.prog W = .ok (.slice (some ⟨g, 0, none⟩) (n + 1) cap) W := fun W => by
    have := esl_upto (some ⟨g, 0, none⟩) n cap (n + 1) hroom W
    rw [sliced_some _ _ _ _ (by omega)] at this
    simpa using this
  have hs3 : ∀ W, (Instr.slice 31 (.slice (some ⟨g, 0, none⟩) (n + 1) cap) (some (.int .i64 ((i : Int) + 1))) none none).run Tryz.prog W = .ok (.slice (some ⟨g, (i + 1) * 7, none⟩) (n + 1 - (i + 1)) (cap - (i + 1))) W := fun W => by
    have := esl_from (some ⟨g, 0, none⟩) (n + 1) cap (i + 1) (by omega) W
    rw [sliced_some _ _ _ _ (by omega)] at this
    exact this
  have hs4 : ∀ W, (Instr.slice 31 (.slice (some ⟨g, 0, none⟩) (n + 1) cap) (some (.int .i64 (i : Int))) none none).run Tryz.prog W = .ok (.slice (some ⟨g, i * 7, none⟩) (n + 1 - i) (cap - i)) W := fun W => by rw [esl_from _ _ _ _ (by omega), sliced_some _ _ _ _ (by omega)]
  obtain ⟨d1, Hd1⟩ := hid_ex (n + 1 - (i + 1))
  obtain ⟨d2, Hd2⟩ := hid_ex (n + 1 - i)
  obtain ⟨e1, He1⟩ := hid_ex (cap - (i + 1))
  obtain ⟨e2, He2⟩ := hid_ex (cap - i)
  obtain ⟨d3, Hd3⟩ := hid_ex (n - i)
  obtain ⟨o1, Ho1⟩ := hid_ex ((i + 1) * 7)
  obtain ⟨o2, Ho2⟩ := hid_ex (i * 7)
  rw [← Hd3.out, ← He2.out, ← Ho2.out] at hs1
  rw [← Hd1.out, ← He1.out, ← Ho1.out] at hs3
  rw [← Hd2.out, ← He2.out, ← Ho2.out] at hs4
  rw [← Hd1.out, ← Hd2.out, ← He1.out, ← He2.out, ← Ho1.out, ← Ho2.out, ← Hd3.out] at hcp1
  rw [← Hd2.out, ← He2.out, ← Ho2.out] at hcp2
  rw [← Ho1.out] at hov
  clear Hd1 Hd2 He1 He2 Hd3 Ho1 Ho2
  go_enter Tryz.func41, Tryz.ntmps41
  go_wp2_with (simp only [hov])
  refine wp_region_noPanic ?_
  refine wp_region_held_drew (S := (fun _ => True)) (by kernel_rfl) ?_ (fun hHeld => ?_)
  · trivial
  refine wpAnyH_take (i := 0) (v := .slice (some ⟨g, 0, none⟩) (n + 1) cap) rfl (by kernel_rfl) (by kernel_rfl) (by kernel_rfl) (fun _ _ _ h => h) (Or.inl ⟨by rfl, ?_⟩) (by assumption) ?_
  · (intro w1 hSw; (try dsimp only at hSw); go_simp)
  simp only [List.getElem_toArray, List.getElem_cons_zero, Act.put, List.setIfInBounds_toArray, List.set_cons_zero, List.set_cons_succ]
  refine wpAnyH_take (i := 1) (v := .int .i64 (i : Int)) rfl (by kernel_rfl) (by kernel_rfl) (by kernel_rfl) (fun _ _ _ h => h) (Or.inl ⟨by rfl, ?_⟩) (by assumption) ?_
  · (intro w1 hSw; (try dsimp only at hSw); go_simp)
  simp only [List.getElem_toArray, List.getElem_cons_succ, List.getElem_cons_zero, Act.put, List.setIfInBounds_toArray, List.set_cons_zero, List.set_cons_succ]
  refine wpAnyH_take (i := 2) (v := .int .i64 1) rfl (by kernel_rfl) (by kernel_rfl) (by kernel_rfl) (fun _ _ _ h => h) (Or.inl ⟨by rfl, ?_⟩) (by assumption) ?_
  · (intro w1 hSw; (try dsimp only at hSw); go_simp)
  simp only [List.getElem_toArray, List.getElem_cons_succ, List.getElem_cons_zero, Act.put, List.setIfInBounds_toArray, List.set_cons_zero, List.set_cons_succ]
  refine wpAnyH_take (i := 3) (v := .int .i64 ((i : Int) + 1)) rfl (by kernel_rfl) (by kernel_rfl) (by kernel_rfl) (fun _ _ _ h => h) (Or.inl ⟨by rfl, ?_⟩) (by assumption) ?_
  · (intro w1 hSw; (try dsimp only at hSw); go_simp; (rw [IntKind.wrap_i64]; omega))
  simp only [List.getElem_toArray, List.getElem_cons_succ, List.getElem_cons_zero, Act.put, List.setIfInBounds_toArray, List.set_cons_zero, List.set_cons_succ]
  refine wpAnyH_take (i := 4) (v := .slice (some ⟨g, o1, none⟩) d1 e1) rfl (by kernel_rfl) (by kernel_rfl) (by kernel_rfl) (fun _ _ _ h => h) (Or.inl ⟨by rfl, ?_⟩) (by assumption) ?_
  · (intro w1 hSw; (try dsimp only at hSw); go_simp)
  simp only [List.getElem_toArray, List.getElem_cons_succ, List.getElem_cons_zero, Act.put, List.setIfInBounds_toArray, List.set_cons_zero, List.set_cons_succ]
  refine wpAnyH_take (i := 5) (v := .slice (some ⟨g, 0, none⟩) (n + 1) cap) rfl (by kernel_rfl) (by kernel_rfl) (by kernel_rfl) (fun _ _ _ h => h) (Or.inl ⟨by rfl, ?_⟩) (by assumption) ?_
  · (intro w1 hSw; (try dsimp only at hSw); go_simp)
  simp only [List.getElem_toArray, List.getElem_cons_succ, List.getElem_cons_zero, Act.put, List.setIfInBounds_toArray, List.set_cons_zero, List.set_cons_succ]
  refine wpAnyH_take (i := 6) (v := .int .i64 (i : Int)) rfl (by kernel_rfl) (by kernel_rfl) (by kernel_rfl) (fun _ _ _ h => h) (Or.inl ⟨by rfl, ?_⟩) (by assumption) ?_
  · (intro w1 hSw; (try dsimp only at hSw); go_simp)
  simp only [List.getElem_toArray, List.getElem_cons_succ, List.getElem_cons_zero, Act.put, List.setIfInBounds_toArray, List.set_cons_zero, List.set_cons_succ]
  refine wpAnyH_take (i := 7) (v := .slice (some ⟨g, o2, none⟩) d2 e2) rfl (by kernel_rfl) (by kernel_rfl) (by kernel_rfl) (fun _ _ _ h => h) (Or.inl ⟨by rfl, ?_⟩) (by assumption) ?_
  · (intro w1 hSw; (try dsimp only at hSw); go_simp)
  simp only [List.getElem_toArray, List.getElem_cons_succ, List.getElem_cons_zero, Act.put, List.setIfInBounds_toArray, List.set_cons_zero, List.set_cons_succ]
  refine wpAnyH_ready (rs := [8]) (by kernel_rfl) (by simp) ?_
  refine AllReadyH.cons (o := _) rfl (fun K hK => ?_) AllReadyH.nil
  refine wp_copy_run _ _ _ _ _ rfl rfl _ _ _ rfl rfl hcp1 ?_
  refine hK.out _ _ ?_ (fun hHeld => ?_)
  · trivial
  clear hK K
  clear hHeld
  refine wpAnyH_done (by kernel_rfl) ?_ _
  refine NoPanic.normal ?_
  go_wp2_with (at_builtin; refine wpList_copy_run rfl _ _ _ _ _ rfl rfl _ _ _ rfl rfl hcp2 ?_)
  go_ret
  exact HEnd.out
theorem zero_cells (k : Nat) : (Builtin.zeroCells (Value.agg #[.slice none 0 0, .int .u64 0, .bool false, .int .i64 0, .int .u64 0, .int .i64 0, .int .i64 0]).cells k).size = k * 7 := by
  simp [Builtin.zeroCells, Value.cells]
set_option maxRecDepth 100000 in
set_option maxHeartbeats 2000000 in
theorem insert_grow (g cap : Nat) (xs : List Ev) (i : Nat) (y : Ev) (w : World) (base vb : Nat) (hr : w.ownsRow base 56 7 (.slice (some ⟨g, 0, none⟩) xs.length cap) xs.length (xs.flatMap c7)) (hl : xs.length ≤ 1000000) (hi : i < xs.length) (hroom : cap < xs.length + 1) (hbs : base ≤ w.heap.size)
    (hy : ∀ x ∈ xs, x.kv.oneCell' = true) (hyy : y.kv.oneCell' = true) (hv : w.heap[vb]? = some (.cells (c7 y).toArray 56)) :
    Calls Tryz.prog 41 #[.slice (some ⟨g, 0, none⟩) xs.length cap, .int .i64 (i : Int), .slice (some ⟨vb, 0, none⟩) 1 1] w (InPost w base (.slice (some ⟨g, 0, none⟩) xs.length cap) xs i y) := by
  obtain ⟨cur, hcur, hbg, hcap, hcm, hcs, htk⟩ : ∃ cur : Array Value, w.heap[g]? = some (.cells cur 56) ∧ base ≤ g ∧ xs.length ≤ cap ∧ cap ≤ maxLen ∧ cur.size = cap * 7 ∧ cur.toList.take (xs.length * 7) = xs.flatMap c7 := by
    rcases hr.2 with ⟨q, _⟩ | ⟨g', cap', cur, q, hb, hw, hc, hx, hs, ht⟩
    · simp at q
    · simp at q
      obtain ⟨rfl, rfl⟩ := q
      exact ⟨cur, hw, hb, hc, hx, hs, ht⟩
  obtain ⟨i0, hinf, hz0, hz1, hz2⟩ := info_parts infoEn
  have hFl := flat7_len xs
  have hgl : g < w.heap.size := (Array.getElem?_eq_some_iff.1 hcur).1
  have hvl : vb < w.heap.size := (Array.getElem?_eq_some_iff.1 hv).1
  have hsrc : ∀ (W : World), W.heap[g]? = w.heap[g]? → ∀ (o : Nat) j u, ((xs.flatMap c7).drop o)[j]? = some u → W.cell? ((⟨g, o, none⟩ : Addr).add j) = some u := fun W hW o j u hj => by
    rw [List.getElem?_drop] at hj
    have hlt : o + j < xs.length * 7 := by
      rw [← hFl]
      exact (List.getElem?_eq_some_iff.1 hj).1
    have ea : (⟨g, o, none⟩ : Addr).add j = ⟨g, o + j, none⟩ := by simp [Addr.add]
    rw [ea, Go.Joins.cell_of_block (hW.trans hcur)]
    rw [← htk, List.getElem?_take, if_pos hlt] at hj
    simpa using hj
  have hold : (Builtin.firstCells i0.size i (.slice (some ⟨g, 0, none⟩) i cap)).run Tryz.prog w.drew = .ok ((xs.flatMap c7).take (i * 7)).toArray w.drew := by
    rw [hz1]
    refine run_firstCells_some w.drew 7 i ⟨g, 0, none⟩ i cap _ (by rw [List.length_take, hFl]; omega) (fun j u hj => ?_)
    rw [List.getElem?_take] at hj
    split at hj
    · exact hsrc w.drew rfl 0 j u (by simpa using hj)
    · cases hj
  have hrz := Lib.run_append_grow_zeros w 31 3 31 56 i0 _ .i64 .i64 Tryz.underlying31 Tryz.underlying3 hinf hz0 (some ⟨g, 0, none⟩) i cap _ hold (xs.length + 1 - i) (by omega) (by rw [hz1]; omega) (by omega) (by omega) (by rw [hz2]; omega) (by rw [hz2, show i + (xs.length + 1 - i) = xs.length + 1 by omega]; exact growslice_fits hroom (by omega))
  rw [show i + (xs.length + 1 - i) = xs.length + 1 by omega] at hrz
  have hGn : xs.length + 1 ≤ grownCap w (xs.length + 1) cap 56 := grownCap_ge w _ _ _
  have hG63 : grownCap w (xs.length + 1) cap 56 ≤ maxLen := grownCap_le_maxLen w _ _ _ (by unfold maxLen; omega)
  obtain ⟨G, HG⟩ := hid_ex (grownCap w (xs.length + 1) cap 56)
  rw [← HG.out] at hrz hGn hG63
  obtain ⟨Z, HZ⟩ : ∃ Z : List Value, Hid (Z.toArray = ((xs.flatMap c7).take (i * 7)).toArray ++ Builtin.zeroCells (Value.agg #[.slice none 0 0, .int .u64 0, .bool false, .int .i64 0, .int .u64 0, .int .i64 0, .int .i64 0]).cells (xs.length + 1 - i) ++ Builtin.zeroCells (Value.agg #[.slice none 0 0, .int .u64 0, .bool false, .int .i64 0, .int .u64 0, .int .i64 0, .int .i64 0]).cells (G - (xs.length + 1))) := ⟨_, Array.toArray_toList⟩
  rw [← HZ.out] at hrz
  have hZl : Z.length = G * 7 := by
    have := congrArg Array.size HZ.out
    rw [Array.size_append, Array.size_append, zero_cells, zero_cells] at this
    simp only [List.size_toArray, List.length_take, hFl] at this
    omega
  have hZt : Z.take (i * 7) = (xs.flatMap c7).take (i * 7) := by
    have := congrArg Array.toList HZ.out
    simp only [Array.toList_append] at this
    rw [this, List.append_assoc, List.take_append_of_le_length (by rw [List.length_take, hFl]; omega), List.take_take, Nat.min_self]
  obtain ⟨l2, l3, hrow⟩ := rows_grow (Z := Z) (F := xs.flatMap c7) (c := c7 y) (i := i) (n := xs.length) hFl rfl (by omega) (by omega) hZt
  obtain ⟨h, Hh⟩ := hid_ex w.heap.size
  rw [← Hh.out] at hrz
  obtain ⟨w1, HW1⟩ := hid_ex (w.drew.alloc (.cells Z.toArray 56))
  rw [← HW1.out] at hrz
  have hheap1 : w1.heap[h]? = some (.cells Z.toArray 56) := by rw [HW1.out, Hh.out]; exact heap_alloc_new _ _
  have hk1 : ∀ k, k < w.heap.size → w1.heap[k]? = w.heap[k]? := fun k hk => by rw [HW1.out]; exact Below.heap_alloc w.drew _ _ hk
  have hg1 : w.grownBy w1 (some g) := by rw [HW1.out]; exact ⟨rfl, rfl, rfl, by simp, fun k hk _ => Below.heap_alloc w.drew _ _ hk⟩
  have hcp2 := run_copy_rowK w1 31 31 3 56 7 h (i * 7) (xs.length + 1 - i) (G - i) ⟨vb, 0, none⟩ 1 1 1 Z.toArray 56 (c7 y) Tryz.underlying31 infoE7 hheap1 (by show min _ _ = _; omega) rfl
    (fun j u hj => by
      have ea : (⟨vb, 0, none⟩ : Addr).add j = ⟨vb, j, none⟩ := by simp [Addr.add]; omega
      rw [ea, Go.Joins.cell_of_block ((hk1 vb hvl).trans hv)]
      simpa using hj) (by rw [c7_len]; simp [hZl]; omega) (one7 y hyy)
  rw [List.toList_toArray] at hcp2
  obtain ⟨r2, Hr2⟩ := hid_ex (Z.take (i * 7) ++ c7 y ++ Z.drop (i * 7 + (c7 y).length))
  rw [← Hr2.out] at hcp2 l2 l3 hrow
  obtain ⟨w2, HW2⟩ := hid_ex (w1.setRow h r2.toArray)
  have hheap2 : w2.heap[h]? = some (.cells r2.toArray 56) := by rw [HW2.out]; exact setRow_heap w1 h _ _ _ _ hheap1
  have hg2 : w.grownBy w2 (some g) := by rw [HW2.out]; exact grown_setRow hg1 (.inr (by rw [Hh.out]; exact Nat.le_refl _)) _
  have hk2 : w2.heap[g]? = w.heap[g]? := by rw [HW2.out, setRow_other _ _ _ _ (by rw [Hh.out]; omega)]; exact hk1 g hgl
  rw [← HW2.out] at hcp2
  have hdl : ((xs.flatMap c7).drop (i * 7)).length = (xs.length - i) * 7 := by rw [List.length_drop, hFl]; omega
  have hcp3 := run_copy_rowK w2.drew 31 31 3 56 7 h ((i + 1) * 7) (xs.length + 1 - (i + 1)) (G - (i + 1)) ⟨g, i * 7, none⟩ (xs.length - i) (cap - i) (xs.length - i) r2.toArray 56 ((xs.flatMap c7).drop (i * 7)) Tryz.underlying31 infoE7 hheap2 (by show min _ _ = _; omega) hdl (hsrc w2.drew hk2 (i * 7)) (by rw [hdl]; simp [l2]; omega) (fun u hu => one_flat7 hy u (List.mem_of_mem_drop hu))
  rw [List.toList_toArray] at hcp3
  obtain ⟨r3, Hr3⟩ := hid_ex (r2.take ((i + 1) * 7) ++ (xs.flatMap c7).drop (i * 7) ++ r2.drop ((i + 1) * 7 + ((xs.flatMap c7).drop (i * 7)).length))
  rw [← Hr3.out] at hcp3 l3 hrow
  obtain ⟨w3, HW3⟩ := hid_ex (w2.drew.setRow h r3.toArray)
  have hheap3 : w3.heap[h]? = some (.cells r3.toArray 56) := by rw [HW3.out]; exact setRow_heap w2.drew h _ _ _ _ hheap2
  have hg3 : w.grownBy w3 (some g) := by rw [HW3.out]; exact grown_setRow (grown_drew hg2) (.inr (by rw [Hh.out]; exact Nat.le_refl _)) _
  rw [← HW3.out] at hcp3
  have HEnd : Hid (InPost w base (.slice (some ⟨g, 0, none⟩) xs.length cap) xs i y (.returned (.slice (some ⟨h, 0, none⟩) (xs.length + 1) G)) w3) := ⟨_, rfl, ⟨by rw [flat7_len, insE_len (by omega)], .inr ⟨h, G, r3.toArray, rfl, by rw [Hh.out]; exact hbs, hheap3, hGn, hG63, by simp [l3, hZl], by rw [insE_flat]; simpa using hrow⟩⟩, hg3⟩
  unfold maxLen at hcm hG63
  clear hr hcur hcs htk hFl l2 l3 hrow hdl HW1 hheap1 hg1 Hr2 HW2 hheap2 hg2 hk2 hk1 Hr3 HW3 hheap3 hg3 hy hyy hv hbg hZl hZt HZ hold hsrc hinf hz0 hz1 hz2 HG Hh
  obtain ⟨n, Hn⟩ := hid_ex xs.length
  rw [← Hn.out] at hcp2 hcp3 HEnd hl hi hroom hrz hGn hcap ⊢
  clear Hn
  have hkk : ((n + 1 - i : Nat) : Int) = (n : Int) + 1 - (i : Int) := by omega
  rw [hkk] at hrz
  clear hkk
  have hs1 : ∀ W, (Instr.slice 31 (.slice (some ⟨g, 0, none⟩) n cap) (some (.int .i64 (i : Int))) none none).run Tryz.prog W = .ok (.slice (some ⟨g, i * 7, none⟩) (n - i) (cap - i)) W := fun W => by rw [esl_from _ _ _ _ (by omega), sliced_some _ _ _ _ (by omega)]
  have hs2 : ∀ W, (Instr.slice 31 (.slice (some ⟨g, 0, none⟩) n cap) none (some (.int .i64 (i : Int))) none).run Tryz.prog W = .ok (.slice (some ⟨g, 0, none⟩) i cap) W := fun W => by
    have := esl_upto (some ⟨g, 0, none⟩) n cap i (by omega) W
    rw [sliced_some _ _ _ _ (by omega)] at this
    simpa using this
  have hs3 : ∀ W, (Instr.slice 31 (.slice (some ⟨h, 0, none⟩) (n + 1) G) (some (.int .i64 ((i : Int) + 1))) none none).run Tryz.prog W = .ok (.slice (some ⟨h, (i + 1) * 7, none⟩) (n + 1 - (i + 1)) (G - (i + 1))) W := fun W => by
    have := esl_from (some ⟨h, 0, none⟩) (n + 1) G (i + 1) (by omega) W
    rw [sliced_some _ _ _ _ (by omega)] at this
    exact this
  have hs4 : ∀ W, (Instr.slice 31 (.slice (some ⟨h, 0, none⟩) (n + 1) G) (some (.int .i64 (i : Int))) none none).run Tryz.prog W = .ok (.slice (some ⟨h, i * 7, none⟩) (n + 1 - i) (G - i)) W := fun W => by rw [esl_from _ _ _ _ (by omega), sliced_some _ _ _ _ (by omega)]
  obtain ⟨d1, Hd1⟩ := hid_ex (n + 1 - (i + 1))
  obtain ⟨d2, Hd2⟩ := hid_ex (n + 1 - i)
  obtain ⟨e1, He1⟩ := hid_ex (G - (i + 1))
  obtain ⟨e2, He2⟩ := hid_ex (G - i)
  obtain ⟨e3, He3⟩ := hid_ex (cap - i)
  obtain ⟨d3, Hd3⟩ := hid_ex (n - i)
  obtain ⟨o1, Ho1⟩ := hid_ex ((i + 1) * 7)
  obtain ⟨o2, Ho2⟩ := hid_ex (i * 7)
  rw [← Hd3.out, ← He3.out, ← Ho2.out] at hs1
  rw [← Hd1.out, ← He1.out, ← Ho1.out] at hs3
  rw [← Hd2.out, ← He2.out, ← Ho2.out] at hs4
  rw [← Hd2.out, ← He2.out, ← Ho2.out] at hcp2
  rw [← Hd1.out, ← Hd3.out, ← He1.out, ← He3.out, ← Ho1.out, ← Ho2.out] at hcp3
  clear Hd1 Hd2 He1 He2 He3 Hd3 Ho1 Ho2
  go_enter Tryz.func41, Tryz.ntmps41
  go_wp2_with (at_builtin; first | refine wpList_appZ_run rfl _ _ _ _ _ rfl rfl _ _ _ rfl rfl hrz ?_ | refine wpList_copy_run rfl _ _ _ _ _ rfl rfl _ _ _ rfl rfl hcp2 ?_)
  refine wp_region_noPanic ?_
  refine wp_region_held_drew (S := (fun _ => True)) (by kernel_rfl) ?_ (fun hHeld => ?_)
  · trivial
  refine wpAnyH_take (i := 0) (v := .slice (some ⟨h, 0, none⟩) (n + 1) G) rfl (by kernel_rfl) (by kernel_rfl) (by kernel_rfl) (fun _ _ _ h => h) (Or.inl ⟨by rfl, ?_⟩) (by assumption) ?_
  · (intro w1 hSw; (try dsimp only at hSw); go_simp)
  simp only [List.getElem_toArray, List.getElem_cons_zero, Act.put, List.setIfInBounds_toArray, List.set_cons_zero, List.set_cons_succ]
  refine wpAnyH_take (i := 1) (v := .int .i64 (i : Int)) rfl (by kernel_rfl) (by kernel_rfl) (by kernel_rfl) (fun _ _ _ h => h) (Or.inl ⟨by rfl, ?_⟩) (by assumption) ?_
  · (intro w1 hSw; (try dsimp only at hSw); go_simp)
  simp only [List.getElem_toArray, List.getElem_cons_succ, List.getElem_cons_zero, Act.put, List.setIfInBounds_toArray, List.set_cons_zero, List.set_cons_succ]
  refine wpAnyH_take (i := 2) (v := .int .i64 1) rfl (by kernel_rfl) (by kernel_rfl) (by kernel_rfl) (fun _ _ _ h => h) (Or.inl ⟨by rfl, ?_⟩) (by assumption) ?_
  · (intro w1 hSw; (try dsimp only at hSw); go_simp)
  simp only [List.getElem_toArray, List.getElem_cons_succ, List.getElem_cons_zero, Act.put, List.setIfInBounds_toArray, List.set_cons_zero, List.set_cons_succ]
  refine wpAnyH_take (i := 3) (v := .int .i64 ((i : Int) + 1)) rfl (by kernel_rfl) (by kernel_rfl) (by kernel_rfl) (fun _ _ _ h => h) (Or.inl ⟨by rfl, ?_⟩) (by assumption) ?_
  · (intro w1 hSw; (try dsimp only at hSw); go_simp; (rw [IntKind.wrap_i64]; omega))
  simp only [List.getElem_toArray, List.getElem_cons_succ, List.getElem_cons_zero, Act.put, List.setIfInBounds_toArray, List.set_cons_zero, List.set_cons_succ]
  refine wpAnyH_take (i := 4) (v := .slice (some ⟨h, o1, none⟩) d1 e1) rfl (by kernel_rfl) (by kernel_rfl) (by kernel_rfl) (fun _ _ _ h => h) (Or.inl ⟨by rfl, ?_⟩) (by assumption) ?_
  · (intro w1 hSw; (try dsimp only at hSw); go_simp)
  simp only [List.getElem_toArray, List.getElem_cons_succ, List.getElem_cons_zero, Act.put, List.setIfInBounds_toArray, List.set_cons_zero, List.set_cons_succ]
  refine wpAnyH_take (i := 5) (v := .slice (some ⟨g, 0, none⟩) n cap) rfl (by kernel_rfl) (by kernel_rfl) (by kernel_rfl) (fun _ _ _ h => h) (Or.inl ⟨by rfl, ?_⟩) (by assumption) ?_
  · (intro w1 hSw; (try dsimp only at hSw); go_simp)
  simp only [List.getElem_toArray, List.getElem_cons_succ, List.getElem_cons_zero, Act.put, List.setIfInBounds_toArray, List.set_cons_zero, List.set_cons_succ]
  refine wpAnyH_take (i := 6) (v := .int .i64 (i : Int)) rfl (by kernel_rfl) (by kernel_rfl) (by kernel_rfl) (fun _ _ _ h => h) (Or.inl ⟨by rfl, ?_⟩) (by assumption) ?_
  · (intro w1 hSw; (try dsimp only at hSw); go_simp)
  simp only [List.getElem_toArray, List.getElem_cons_succ, List.getElem_cons_zero, Act.put, List.setIfInBounds_toArray, List.set_cons_zero, List.set_cons_succ]
  refine wpAnyH_take (i := 7) (v := .slice (some ⟨g, o2, none⟩) d3 e3) rfl (by kernel_rfl) (by kernel_rfl) (by kernel_rfl) (fun _ _ _ h => h) (Or.inl ⟨by rfl, ?_⟩) (by assumption) ?_
  · (intro w1 hSw; (try dsimp only at hSw); go_simp)
  simp only [List.getElem_toArray, List.getElem_cons_succ, List.getElem_cons_zero, Act.put, List.setIfInBounds_toArray, List.set_cons_zero, List.set_cons_succ]
  refine wpAnyH_ready (rs := [8]) (by kernel_rfl) (by simp) ?_
  refine AllReadyH.cons (o := _) rfl (fun K hK => ?_) AllReadyH.nil
  refine wp_copy_run _ _ _ _ _ rfl rfl _ _ _ rfl rfl hcp3 ?_
  refine hK.out _ _ ?_ (fun hHeld => ?_)
  · trivial
  clear hK K
  clear hHeld
  refine wpAnyH_done (by kernel_rfl) ?_ _
  refine NoPanic.normal ?_
  go_wp2_with fail
  go_ret
  exact HEnd.out
theorem insert_any (v : Value) (xs : List Ev) (i : Nat) (y : Ev) (w : World) (base vb : Nat) (hr : w.ownsRow base 56 7 v xs.length (xs.flatMap c7)) (hl : xs.length ≤ 1000000) (hi : i ≤ xs.length) (hbs : base ≤ w.heap.size) (hne : v.ownBlock ≠ some vb)
    (hy : ∀ x ∈ xs, x.kv.oneCell' = true) (hyy : y.kv.oneCell' = true) (hv : w.heap[vb]? = some (.cells (c7 y).toArray 56)) :
    Calls Tryz.prog 41 #[v, .int .i64 (i : Int), .slice (some ⟨vb, 0, none⟩) 1 1] w (InPost w base v xs i y) := by
  rcases Nat.lt_or_ge i xs.length with h | h
  · rcases hr.2 with ⟨_, q⟩ | ⟨g, cap, cur, rfl, _, _, hc, _⟩
    · omega
    · rcases Nat.lt_or_ge cap (xs.length + 1) with h2 | h2
      · exact insert_grow g cap xs i y w base vb hr hl h h2 hbs hy hyy hv
      · exact insert_shift g cap xs i y w base vb hr hl h h2 (fun e => hne (by rw [e]; rfl)) hy hyy hv
  · obtain rfl : i = xs.length := by omega
    exact insert_end v xs y w base vb hr hl hbs hyy hv
end Go.Proofs.YthicmbjiblbcmaaGreat
