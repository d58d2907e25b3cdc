/- Several file systems side by side; SimfsTwice. -/
import Derived.Test.YteajfbgodfpioaaSFU
namespace Go.Proofs.Yteajfbgodfpioaa
open Go.RowKit Go.Maps Go.Sort

/-- File systems, made since base, of which no two have a block in common. -/
def Fam (w : World) (base : Nat) (L : List (Value × SfS)) : Prop :=
  base ≤ w.heap.size ∧ ∃ O : Nat → Nat → Prop, (∀ i (h : i < L.length), Fs w (O i) L[i].1 L[i].2 ∧ ∀ k, O i k → base ≤ k) ∧ ∀ i j, i < L.length → j < L.length → i ≠ j → ∀ k, O i k → ¬ O j k
theorem fam_nil {w : World} {base : Nat} (h : base ≤ w.heap.size) : Fam w base [] := ⟨h, fun _ _ => False, fun i hi => by simp at hi, fun i j hi => by simp at hi⟩
theorem Fam.below {w w' : World} {base : Nat} {L : List (Value × SfS)} (h : Fam w base L) (hb : Below w.heap.size w w') : Fam w' base L := by
  obtain ⟨h0, O, h1, h2⟩ := h
  exact ⟨Nat.le_trans h0 hb.size, O, fun i hi => ⟨(h1 i hi).1.below hb, (h1 i hi).2⟩, h2⟩
theorem Fam.push {w w' : World} {base : Nat} {L : List (Value × SfS)} (h : Fam w base L) (hb : Below w.heap.size w w') {p : Value} {s : SfS} (hf : FsB w' w.heap.size p s) : Fam w' base (L ++ [(p, s)]) := by
  obtain ⟨h0, O, h1, h2⟩ := h
  refine ⟨Nat.le_trans h0 hb.size, fun i k => if i < L.length then O i k else (w.heap.size ≤ k ∧ k < w'.heap.size), fun i hi => ?_, fun i j hi hj hij k q1 q2 => ?_⟩
  · by_cases e : i < L.length
    · simp only [e, if_true]
      rw [List.getElem_append_left e]
      exact ⟨(h1 i e).1.below hb, (h1 i e).2⟩
    · simp only [e, if_false]
      have : i = L.length := by simp at hi; omega
      subst this
      simp only [List.getElem_concat_length]
      exact ⟨hf, fun k q => by omega⟩
  · simp at hi hj
    by_cases e : i < L.length
    · simp only [e, if_true] at q1
      by_cases e' : j < L.length
      · simp only [e', if_true] at q2
        exact h2 i j e e' hij k q1 q2
      · simp only [e', if_false] at q2
        have := (h1 i e).1.lt k q1
        omega
    · simp only [e, if_false] at q1
      by_cases e' : j < L.length
      · simp only [e', if_true] at q2
        have := (h1 j e').1.lt k q2
        omega
      · omega
theorem Fam.call {w : World} {base : Nat} {L : List (Value × SfS)} (h : Fam w base L) (i : Nat) (hi : i < L.length) {F : Nat} {args : Array Value} {r : Int × SfS} (hc : ∀ O, Fs w O L[i].1 L[i].2 → (∀ k, O k → base ≤ k) → Calls Try.prog F args w (FsR w O L[i].1 r)) :
    Calls Try.prog F args w fun e w' => e = .returned (.int .i64 r.1) ∧ Fam w' base (L.set i (L[i].1, r.2)) ∧ Below base w w' := by
  obtain ⟨h0, O, h1, h2⟩ := h
  refine (hc (O i) (h1 i hi).1 (h1 i hi).2).mono ?_
  rintro e w' ⟨he, hf, ho⟩
  refine ⟨he, ⟨Nat.le_trans h0 ho.size, fun j k => if j = i then Grw (O i) w w' k else O j k, fun j hj => ?_, fun a b ha hb hab k q1 q2 => ?_⟩, ho.below h0 (h1 i hi).2⟩
  · simp at hj
    by_cases e' : j = i
    · subst e'
      simp only [if_true, List.getElem_set_self]
      refine ⟨hf, fun k q => ?_⟩
      rcases q with q | q
      · exact (h1 j hi).2 k q
      · omega
    · simp only [e', if_false]
      rw [List.getElem_set_ne (Ne.symm e')]
      exact ⟨(h1 j hj).1.other ho (h2 j i hj hi e'), (h1 j hj).2⟩
  · simp at ha hb
    by_cases ea : a = i
    · subst ea
      have eb : b ≠ a := Ne.symm hab
      simp only [if_true] at q1
      simp only [eb, if_false] at q2
      rcases q1 with q1 | q1
      · exact h2 a b ha hb hab k q1 q2
      · have := (h1 b hb).1.lt k q2; omega
    · simp only [ea, if_false] at q1
      by_cases eb : b = i
      · subst eb
        simp only [if_true] at q2
        rcases q2 with q2 | q2
        · exact h2 a b ha hb hab k q1 q2
        · have := (h1 a ha).1.lt k q1; omega
      · simp only [eb, if_false] at q2
        exact h2 a b ha hb hab k q1 q2
theorem Fam.fs {w : World} {base : Nat} {L : List (Value × SfS)} (h : Fam w base L) (i : Nat) (hi : i < L.length) : ∃ O, Fs w O L[i].1 L[i].2 := by
  obtain ⟨_, O, h1, _⟩ := h
  exact ⟨O i, (h1 i hi).1⟩
theorem Fam.crash {W w : World} {L : List (Value × SfS)} (h : Fam w W.heap.size L) (hB : Below W.heap.size W w) (i : Nat) (hi : i < L.length) (n : Int) {kv : Value} {ks : List Int} (hK : KReads W kv ks) :
    Calls Try.prog 16 #[L[i].1, .int .i64 n, kv] w fun e w' => e = .returned (.int .i64 0) ∧ Fam w' W.heap.size (L.set i (L[i].1, sfCrash L[i].2 n ks)) ∧ Below W.heap.size w w' :=
  h.call i hi (r := (0, sfCrash L[i].2 n ks)) fun _ hf hO => hf.crash n kv ks (fun _ q => hK.below (hB.trans (q.below h.1 hO)))
theorem Fam.same {w : World} {base : Nat} {L : List (Value × SfS)} (h : Fam w base L) (i j : Nat) (hi : i < L.length) (hj : j < L.length) (hv : sfView L[i].2 = sfView L[j].2) : Calls Try.prog 17 #[L[i].1, L[j].1] w fun e w' => e = .returned (.bool true) ∧ Below w.heap.size w w' := by
  obtain ⟨_, h1⟩ := h.fs i hi
  obtain ⟨_, h2⟩ := h.fs j hj
  exact same_any h1 h2 hv
/-! a second crash -/
def fFull (f : List UInt8 × Nat) : Prop := f.2 = f.1.length
theorem cut_id {f : List UInt8 × Nat} (h : fFull f) (k : Int) : sfCut f k = f := by
  unfold fFull at h
  unfold sfCut
  rw [h, Nat.sub_self, Nat.min_zero, Nat.add_zero, List.take_length]
  exact Prod.ext rfl h.symm
theorem cut_full {f : List UInt8 × Nat} (h : f.2 ≤ f.1.length) (k : Int) : fFull (sfCut f k) := by
  unfold fFull sfCut
  simp only [List.length_take]
  omega
theorem set_getD {l : List (List UInt8 × Nat)} (i : Nat) : l.set i (l.getD i ([], 0)) = l := by
  rcases Nat.lt_or_ge i l.length with h | h
  · rw [List.getD_eq_getElem?_getD, List.getElem?_eq_getElem h]
    exact List.set_getElem_self h
  · exact List.set_eq_of_length_le h
theorem getD_set {l : List (List UInt8 × Nat)} {i : Nat} (j : Nat) (x : List UInt8 × Nat) : (l.set i x).getD j ([], 0) = if i = j ∧ i < l.length then x else l.getD j ([], 0) := by
  simp only [List.getD_eq_getElem?_getD, List.getElem?_set]
  by_cases e : i = j
  · subst e
    by_cases h : i < l.length
    · simp [h]
    · simp [h]
  · simp [e]
theorem cuts_id : ∀ (dir : List (List UInt8 × Nat)) (ks : List Int) (fls : List (List UInt8 × Nat)), (∀ p ∈ dir, fFull (fls.getD p.2 ([], 0))) → sfCuts dir ks fls = fls
  | [], _, _, _ => rfl
  | p :: r, ks, fls, h => by
    rw [sfCuts, cut_id (h p (by simp)), set_getD]
    exact cuts_id r _ fls (fun q hq => h q (by simp [hq]))
theorem cuts_keep : ∀ (dir : List (List UInt8 × Nat)) (ks : List Int) (fls : List (List UInt8 × Nat)) (j : Nat), fFull (fls.getD j ([], 0)) → (sfCuts dir ks fls).getD j ([], 0) = fls.getD j ([], 0)
  | [], _, _, _, _ => rfl
  | p :: r, ks, fls, j, h => by
    rw [sfCuts]
    have e : (fls.set p.2 (sfCut (fls.getD p.2 ([], 0)) (ks.headD 0))).getD j ([], 0) = fls.getD j ([], 0) := by
      rw [getD_set]
      split
      · rename_i hq
        rw [hq.1, cut_id h]
      · rfl
    rw [cuts_keep r _ _ j (by rw [e]; exact h), e]
theorem flOk_getD {fls : List (List UInt8 × Nat)} (h : sfFlOk fls) (i : Nat) : (fls.getD i ([], 0)).2 ≤ (fls.getD i ([], 0)).1.length := by
  rw [List.getD_eq_getElem?_getD]
  cases hf : fls[i]? with
  | none => simp
  | some f => exact (h i f hf).1
theorem cuts_full : ∀ (dir : List (List UInt8 × Nat)) (ks : List Int) (fls : List (List UInt8 × Nat)), sfFlOk fls → ∀ p ∈ dir, fFull ((sfCuts dir ks fls).getD p.2 ([], 0))
  | [], _, _, _, p, hp => by simp at hp
  | q :: r, ks, fls, h, p, hp => by
    rw [sfCuts]
    have hq : fFull ((fls.set q.2 (sfCut (fls.getD q.2 ([], 0)) (ks.headD 0))).getD q.2 ([], 0)) := by
      rw [getD_set]
      split
      · exact cut_full (flOk_getD h q.2) _
      · rename_i hn
        have : ¬ q.2 < fls.length := fun z => hn ⟨rfl, z⟩
        rw [List.getD_eq_getElem?_getD, List.getElem?_eq_none (by omega)]; rfl
    rcases List.mem_cons.1 hp with rfl | hp
    · rw [cuts_keep r _ _ _ hq]; exact hq
    · exact cuts_full r _ _ (h.cut _ _) p hp
theorem crash_twice {s : SfS} (h : SfWf s) (n : Int) (ks : List Int) (m : Int) (os : List Int) : sfView (sfCrash (sfCrash s n ks) m os) = sfView (sfCrash s n ks) := by
  have e : (sfCrash (sfCrash s n ks) m os).fls = (sfCrash s n ks).fls := by
    show sfCuts (((sfCrash s n ks).pend.take _).foldl sfDo (sfCrash s n ks).old) os (sfCrash s n ks).fls = _
    have e1 : (sfCrash s n ks).pend = [] := rfl
    rw [e1, List.take_nil, List.foldl_nil]
    exact cuts_id _ _ _ (cuts_full _ _ _ h.sy)
  have ed : (sfCrash (sfCrash s n ks) m os).dir = (sfCrash s n ks).dir := by
    show ((sfCrash s n ks).pend.take _).foldl sfDo (sfCrash s n ks).old = _
    have e1 : (sfCrash s n ks).pend = [] := rfl
    rw [e1, List.take_nil, List.foldl_nil]; rfl
  unfold sfView SfS.fl
  rw [ed, e]
set_option maxRecDepth 100000 in
set_option maxHeartbeats 4000000 in
theorem twice_walk (r : Int) (ov : Value) (L : List SfO) (n : Int) (kv : Value) (ks : List Int) (m : Int) (mv : Value) (ms : List Int) (W : World) (hr1 : -9223372036854775808 ≤ r) (hr2 : r < 9223372036854775808) (hL : OsR W ov L) (hK : KReads W kv ks) (hM : KReads W mv ms) :
    Calls Try.prog 4 #[.int .i64 r, ov, .int .i64 n, kv, .int .i64 m, mv] W fun e w' => e = .returned (.bool true) ∧ Below W.heap.size W w' := by
  obtain ⟨ka, kc, rfl, hkl⟩ := hK.form
  obtain ⟨ma, mc, rfl, hml⟩ := hM.form
  have HL : Hid (OsR W ov L) := hL
  have HK : Hid (KReads W (.slice ka ks.length kc) ks) := hK
  have HM : Hid (KReads W (.slice ma ms.length mc) ms) := hM
  clear hL hK hM
  have hkl' : (ks.length : Int) ≤ 9223372036854775807 := by simp only [maxLen] at hkl; omega
  have hml' : (ms.length : Int) ≤ 9223372036854775807 := by simp only [maxLen] at hml; omega
  go_enter Try.func4, Try.ntmps4
  go_wp2_with fail
  refine (played_any r hr1 hr2 ov L W HL.out).mono ?_
  rintro e w1 ⟨hb1, hc1⟩
  have HB1 : Hid (Below W.heap.size W w1) := hb1
  have HL1 : Hid (OsR w1 ov L) := HL.out.below hb1
  clear hb1
  rcases hc1 with ⟨hr, rfl⟩ | ⟨hr, g, rfl, hf1, hp1⟩
  · go_wp2_with fail
    refine (played_any r hr1 hr2 ov L w1 HL1.out).mono ?_
    rintro e w2 ⟨hb2, hc2⟩
    have HB2 : Hid (Below W.heap.size W w2) := HB1.out.trans (hb2.mono HB1.out.size)
    clear hb2
    rcases hc2 with ⟨-, rfl⟩ | ⟨hrr, _⟩
    · go_wp2_with fail
      refine (alive11_any w2).mono ?_
      rintro e w3 ⟨rfl, hb3⟩
      go_wp2_with fail
      go_ret
      exact ⟨rfl, HB2.out.trans (hb3.mono HB2.out.size)⟩
    · exfalso; omega
  · have HF1 : Hid (Fam w1 W.heap.size [(.pointer (some ⟨g, 0, none⟩), sfPlayed r L)]) := Fam.push (fam_nil (Nat.le_refl _)) HB1.out hf1
    have HWF : Hid (SfWf (sfPlayed r L)) := hf1.1
    clear hf1 hp1
    go_wp2_with fail
    refine (played_any r hr1 hr2 ov L w1 HL1.out).mono ?_
    rintro e w2 ⟨hb2, hc2⟩
    rcases hc2 with ⟨hrr, _⟩ | ⟨-, g2, rfl, hf2, hp2⟩
    · exfalso; omega
    · obtain ⟨S, HS⟩ := hid_ex (sfPlayed r L)
      rw [← HS.out] at hf2 HF1 HWF
      have HF2 : Hid (Fam w2 W.heap.size [(.pointer (some ⟨g, 0, none⟩), S), (.pointer (some ⟨g2, 0, none⟩), S)]) := Fam.push HF1.out hb2 hf2
      have HB2 : Hid (Below W.heap.size W w2) := HB1.out.trans (hb2.mono HB1.out.size)
      clear hf2 hb2 hp2 HF1 HB1 HL1 hr
      by_cases h1 : 300 < ks.length
      · have h1' : (300 : Int) < (ks.length : Int) := by omega
        go_wp2_with fail
        refine (alive11_any w2).mono ?_
        rintro e w3 ⟨rfl, hb3⟩
        go_wp2_with fail
        go_ret
        exact ⟨rfl, HB2.out.trans (hb3.mono HB2.out.size)⟩
      · have h1' : ¬ (300 : Int) < (ks.length : Int) := by omega
        by_cases h2 : 300 < ms.length
        · have h2' : (300 : Int) < (ms.length : Int) := by omega
          go_wp2_with fail
          refine (alive11_any w2).mono ?_
          rintro e w3 ⟨rfl, hb3⟩
          go_wp2_with fail
          go_ret
          exact ⟨rfl, HB2.out.trans (hb3.mono HB2.out.size)⟩
        · have h2' : ¬ (300 : Int) < (ms.length : Int) := by omega
          go_wp2_with fail
          refine (HF2.out.crash HB2.out 0 (by simp) n HK.out).mono ?_
          rintro e w3 ⟨rfl, hf3, hb3⟩
          have HF3 : Hid (Fam w3 W.heap.size [(.pointer (some ⟨g, 0, none⟩), sfCrash S n ks), (.pointer (some ⟨g2, 0, none⟩), S)]) := hf3
          have HB3 : Hid (Below W.heap.size W w3) := HB2.out.trans hb3
          clear hf3 hb3
          go_wp2_with fail
          refine (HF3.out.crash HB3.out 1 (by simp) n HK.out).mono ?_
          rintro e w4 ⟨rfl, hf4, hb4⟩
          have HF4 : Hid (Fam w4 W.heap.size [(.pointer (some ⟨g, 0, none⟩), sfCrash S n ks), (.pointer (some ⟨g2, 0, none⟩), sfCrash S n ks)]) := hf4
          have HB4 : Hid (Below W.heap.size W w4) := HB3.out.trans hb4
          clear hf4 hb4
          go_wp2_with fail
          refine (HF4.out.crash HB4.out 1 (by simp) m HM.out).mono ?_
          rintro e w5 ⟨rfl, hf5, hb5⟩
          have HF5 : Hid (Fam w5 W.heap.size [(.pointer (some ⟨g, 0, none⟩), sfCrash S n ks), (.pointer (some ⟨g2, 0, none⟩), sfCrash (sfCrash S n ks) m ms)]) := hf5
          have HB5 : Hid (Below W.heap.size W w5) := HB4.out.trans hb5
          clear hf5 hb5
          go_wp2_with fail
          refine (alive11_any w5).mono ?_
          rintro e w6 ⟨rfl, hb6⟩
          have HF6 : Hid (Fam w6 W.heap.size [(.pointer (some ⟨g, 0, none⟩), sfCrash S n ks), (.pointer (some ⟨g2, 0, none⟩), sfCrash (sfCrash S n ks) m ms)]) := HF5.out.below hb6
          have HB6 : Hid (Below W.heap.size W w6) := HB5.out.trans (hb6.mono HB5.out.size)
          clear hb6
          go_wp2_with fail
          refine (HF6.out.same 0 1 (by simp) (by simp) (crash_twice HWF.out n ks m ms).symm).mono ?_
          rintro e w7 ⟨rfl, hb7⟩
          go_wp2_with fail
          go_ret
          exact ⟨rfl, HB6.out.trans (hb7.mono HB6.out.size)⟩
end Go.Proofs.Yteajfbgodfpioaa
