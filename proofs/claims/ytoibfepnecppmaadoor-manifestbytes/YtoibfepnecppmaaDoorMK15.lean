/- MFq MFr, joined. -/
import Derived.Test.YtoibfepnecppmaaDoorMK14
/- manifest: without. -/
namespace Go.Proofs.YtoibfepnecppmaaDoor
open Go.RowKit Go.Shelf

set_option maxHeartbeats 1000000 in
theorem sort13_some (g n cap : Nat) (L : List Ru) (w : World) (hO : UG0 w (.slice (some ⟨g, 0, none⟩) n cap) L) (hL : L.length ≤ 10000) :
    Calls Tryd.prog 32 #[.slice (some ⟨g, 0, none⟩) n cap, .func (.func 33) #[] #[]] w fun e w' => e = .returned (.tuple #[]) ∧ ∃ L', L'.Perm L ∧ wk L' ∧ UG0 w' (.slice (some ⟨g, 0, none⟩) n cap) L' ∧ ∀ base, base ≤ g → Below base w w' := by
  have hn : n = L.length := by
    rcases hO.2 with ⟨hv, _⟩ | ⟨g', cap', cur, hv, _⟩
    · cases hv
    · simp at hv; exact hv.2.1
  subst hn
  obtain ⟨cur0, hc0⟩ := GOwn.block hO (k := g) rfl
  have hgl : g < w.heap.size := (Array.getElem?_eq_some_iff.1 hc0).1
  have hcon := Go.Proofs.AnyQ.slices_SortFunc sortR 3 isAggU sizeOfU r3L r3L_len (fun x v hv => by simp [r3L] at hv; rcases hv with rfl | rfl | rfl <;> rfl) ord13 swo13 33 #[] g 0 cap L.toArray w eg_order (cmpLays_order g 0 L.toArray.size w) (holds13 hO) hgl (by simp; omega)
  change Calls Tryd.prog 32 _ _ _ at hcon
  refine Calls.mono (show Calls Tryd.prog 32 #[.slice (some ⟨g, 0, none⟩) L.length cap, .func (.func 33) #[] #[]] w _ from hcon) ?_
  rintro e w' ⟨rfl, d', m, os, hp, hs, rfl⟩
  have hd : d'.size = L.length := by have := hp.1; simpa using this
  obtain ⟨h1, h2⟩ := sorted13 hO d' hd m os
  refine ⟨rfl, d'.toList, ?_, ?_, h1, h2⟩
  · have := hp.2.2
    rw [Array.extract_eq_self_of_le (by rw [hd]; simp), Array.extract_eq_self_of_le (by simp)] at this
    simpa using this
  · unfold wk
    rw [List.pairwise_iff_getElem]
    intro i j hi hj hij
    have := hs i j (Nat.zero_le _) hij (by simpa [hd] using hj)
    rw [lt13, decide_eq_false_iff_not, getElem!_pos d' i (by simpa using hi), getElem!_pos d' j (by simpa using hj)] at this
    simpa using this
theorem dropF_app : ∀ (a b : List Int) (l : List Ru), dropF l (a ++ b) = (dropF l a).bind fun l' => dropF l' b
  | [], b, l => rfl
  | f :: a, b, l => by
    simp only [List.cons_append, dropF]
    cases drop1 l f with
    | none => rfl
    | some l' => exact dropF_app a b l'
theorem dropF_one (l : List Ru) (f : Int) : dropF l [f] = drop1 l f := by
  simp only [dropF]
  cases drop1 l f <;> rfl
theorem drop1_found {l : List Ru} {f : Int} {k : Nat} (hk : k < l.length) (hu : unl l) (hf : l[k].f = f) (hn : ∀ j (hj : j < l.length), j < k → l[j].f ≠ f) : drop1 l f = some (l.eraseIdx k) ∧ unl (l.eraseIdx k) := by
  have e := drop_at hk hu fun j hj => by rw [hf]; exact hn j (by omega) hj
  rw [hf] at e
  have e2 : l.eraseIdx k = l.filter fun r => !decide (r.f = f) := by rw [List.eraseIdx_eq_take_drop_succ]; exact e
  refine ⟨?_, by rw [e2]; exact unl_filter hu _⟩
  unfold drop1
  rw [if_pos (by rw [List.any_eq_true]; exact ⟨l[k], List.getElem_mem hk, by simpa using hf⟩), e2]
theorem drop1_none {l : List Ru} {f : Int} (h : ∀ r ∈ l, r.f ≠ f) : drop1 l f = none := by
  unfold drop1
  rw [if_neg (by simp only [List.any_eq_true, decide_eq_true_eq, not_exists, not_and]; exact h)]
theorem UOwn.below {w w' : World} {base : Nat} {v : Value} {L : List Ru} (h : UOwn w base v L) (hb : Below w.heap.size w w') : UOwn w' base v L := by
  refine ⟨h.1, ?_⟩
  rcases h.2 with h2 | ⟨g, cap, cur, hv, hg, hw, r⟩
  · exact .inl h2
  · exact .inr ⟨g, cap, cur, hv, hg, (hb.block g (Array.getElem?_eq_some_iff.1 hw).1).trans hw, r⟩
def WoP (w : World) (o : Option (List Ru)) (e : Ending) (w' : World) : Prop := match o with
  | none => e = .returned (.tuple #[.slice none 0 0, .bool false]) ∧ Below w.heap.size w w'
  | some L => ∃ v, e = .returned (.tuple #[v, .bool true]) ∧ UOwn w' w.heap.size v L ∧ Below w.heap.size w w'
set_option maxRecDepth 100000 in
set_option maxHeartbeats 2000000 in
theorem without_any (v fv : Value) (L : List Ru) (fs : List Int) (w : World) (h : RuR w v L) (hf : JR w fv fs) (hu : unl L) (hL : L.length ≤ 1000) :
    Calls Tryd.prog 31 #[v, fv] w (WoP w (dropF L fs)) := by
  have HR : Hid (RuR w v L) := h
  obtain ⟨va, vc, rfl, _⟩ := h.form
  have HF : Hid (JR w fv fs) := hf
  obtain ⟨fa, fc, rfl, hm⟩ := hf.form
  unfold maxLen at hm
  clear h hf
  obtain ⟨N, HN⟩ : ∃ n, Hid (fs.length = n) := ⟨_, rfl⟩
  rw [HN.out] at HF hm ⊢
  have HU : Hid (unl L) := hu
  clear hu
  go_enter Tryd.func31, Tryd.ntmps31
  go_wp2_with fail
  refine (clone13_any _ L w HR.out hL).mono ?_
  rintro e w1 ⟨v1, rfl, ho1, hb1⟩
  have HO1 : Hid (UOwn w1 w.heap.size v1 L) := ho1
  have HB1 : Hid (Below w.heap.size w w1) := hb1
  clear ho1 hb1
  go_wp2_with fail
  go_loopw [6, 14] (fun o i wr => ∃ (j : Nat) (L' : List Ru), i = .int .i64 (j : Int) ∧ j ≤ N ∧ L'.length ≤ 1000 ∧ Hid (UOwn wr w.heap.size o L') ∧ Hid (unl L') ∧ Hid (dropF L (fs.take j) = some L') ∧ Hid (Below w.heap.size w wr)) (fun _ i _ => N - (intOf i).toNat)
  case atStart => exact ⟨0, L, rfl, by omega, hL, HO1.out, HU.out, rfl, HB1.out⟩
  case round =>
    obtain ⟨j, L', rfl, hj, hL', HO, HU', HD, HB⟩ := hrel
    by_cases hlt : j < N
    · have hlt' : (j : Int) < (N : Int) := by omega
      have hjl : j < fs.length := by rw [HN.out]; exact hlt
      obtain ⟨f, Hf⟩ := hid_ex fs[j]
      have HT : Hid (dropF L (fs.take (j + 1)) = drop1 L' f) := by
        unfold Hid
        rw [snocI hjl Hf.out, dropF_app, HD.out, Option.bind_some, dropF_one]
      obtain ⟨b, off, rfl, hbw, c0⟩ := (HF.out.below HB.out).at hjl Hf.out
      obtain ⟨oa, oc, hov, _⟩ := (gown_ur HO.out.gown).r.form
      obtain ⟨M, HM⟩ : ∃ n, Hid (L'.length = n) := ⟨_, rfl⟩
      rw [HM.out] at hov hL'
      subst hov
      go_wp2_with fail
      refine (place13_any _ L' f wr (gown_ur HO.out.gown).r).mono ?_
      rintro e w2 ⟨hb2, hp⟩
      have HB2 : Hid (Below w.heap.size w w2) := HB.out.trans (hb2.mono HB.out.size)
      have HO2 : Hid (UOwn w2 w.heap.size (.slice oa M oc) L') := HO.out.below hb2
      clear hb2 c0
      rcases hp with ⟨k, hk, rfl, hkf, hkn⟩ | ⟨rfl, hnf⟩
      · obtain ⟨hd1, hd2⟩ := drop1_found hk HU'.out hkf hkn
        have HU3 : Hid (unl (L'.eraseIdx k)) := hd2
        have HD3 : Hid (dropF L (fs.take (j + 1)) = some (L'.eraseIdx k)) := HT.out.trans hd1
        have HK : Hid (k < L'.length) := hk
        clear hkf hkn hd1 hd2 hk
        have hk3 : k < M := by rw [← HM.out]; exact HK.out
        have hk0 : ¬ (k : Int) < 0 := by omega
        go_wp2_with fail
        refine (delete13_any _ L' k w.heap.size w2 HO2.out HK.out (by rw [HM.out]; exact hL') HB2.out.size).mono ?_
        rintro e w3 ⟨v3, rfl, ho3, hb3⟩
        have HO3 : Hid (UOwn w3 w.heap.size v3 (L'.eraseIdx k)) := ho3
        have HB3 : Hid (Below w.heap.size w w3) := HB2.out.trans hb3
        have hl3 : (L'.eraseIdx k).length ≤ 1000 := by rw [List.length_eraseIdx, if_pos HK.out, HM.out]; omega
        clear ho3 hb3
        go_wp2_with fail
        go_roundw
        case rel => exact ⟨j + 1, _, by go_num, by omega, hl3, HO3, HU3, HD3, HB3⟩
        case measure => simp [intOf]; omega
      · have HNone : Hid (dropF L fs = none) := by
          unfold Hid
          have e : fs = fs.take (j + 1) ++ fs.drop (j + 1) := (List.take_append_drop _ _).symm
          rw [e, dropF_app, HT.out, drop1_none hnf]; rfl
        clear hnf
        go_wp2_with fail
        go_ret2
        rw [HNone.out]
        exact ⟨rfl, HB2.out⟩
    · have hlt' : ¬ (j : Int) < (N : Int) := by omega
      have HE : Hid (dropF L fs = some L') := by
        have := HD.out
        rwa [List.take_of_length_le (by rw [HN.out]; omega)] at this
      go_wp2_with fail
      go_ret2
      rw [HE.out]
      exact ⟨_, rfl, HO.out, HB.out⟩
end Go.Proofs.YtoibfepnecppmaaDoor

/- manifest: Apply. -/
namespace Go.Proofs.YtoibfepnecppmaaDoor
open Go.RowKit Go.Shelf

/-- What Apply answers. -/
def stZ : St := ⟨[], 0, 0, 0⟩
def apT (l : List Ru) (x : Ed) : St := ⟨x.ad.foldl (fun l r => putR r l) l, x.lo, x.ne, x.ma⟩
def apS (s : St) (x : Ed) : Option St × Int :=
  if okSt s then match dropF s.ru x.dr with
    | none => (none, 100)
    | some l => if x.lo < s.lo ∨ x.ne < s.ne ∨ x.ma < s.ma then (none, 100) else if okSt (apT l x) then (some (apT l x), 0) else (none, 100)
  else (none, 1)
theorem apS_no {s : St} {x : Ed} (h : ¬ okSt s) : apS s x = (none, 1) := by unfold apS; rw [if_neg h]
theorem apS_drop {s : St} {x : Ed} (h : okSt s) (hd : dropF s.ru x.dr = none) : apS s x = (none, 100) := by unfold apS; rw [if_pos h, hd]
theorem apS_back {s : St} {x : Ed} (h : okSt s) {l : List Ru} (hd : dropF s.ru x.dr = some l) (hb : x.lo < s.lo ∨ x.ne < s.ne ∨ x.ma < s.ma) : apS s x = (none, 100) := by unfold apS; rw [if_pos h, hd]; simp only; rw [if_pos hb]
theorem apS_on {s : St} {x : Ed} (h : okSt s) {l : List Ru} (hd : dropF s.ru x.dr = some l) (hb : ¬ (x.lo < s.lo ∨ x.ne < s.ne ∨ x.ma < s.ma)) : apS s x = if okSt (apT l x) then (some (apT l x), 0) else (none, 100) := by unfold apS; rw [if_pos h, hd]; simp only; rw [if_neg hb]
/-- What the sorted row says of it. -/
theorem apS_sorted {s : St} {x : Ed} (h : okSt s) {l : List Ru} (hd : dropF s.ru x.dr = some l) (hb : ¬ (x.lo < s.lo ∨ x.ne < s.ne ∨ x.ma < s.ma)) {r : List Ru} (hr : wk r) (hp : r.Perm (l ++ x.ad)) : apS s x = if okSt ⟨r, x.lo, x.ne, x.ma⟩ then (some ⟨r, x.lo, x.ne, x.ma⟩, 0) else (none, 100) := by
  rw [apS_on h hd hb]
  have hl : wk l := ahd_wk (dropF_ahd hd (h.2.2.2.2.2.2.2.imp fun q => q.1))
  obtain ⟨h1, h2⟩ := sorted_put hl hr hp x.ne
  by_cases c : okSt ⟨r, x.lo, x.ne, x.ma⟩
  · have e : r = x.ad.foldl (fun l r => putR r l) l := h2 c.2.2.2.2.2
    have e2 : apT l x = ⟨r, x.lo, x.ne, x.ma⟩ := by unfold apT; rw [← e]
    rw [e2]
  · rw [if_neg c, if_neg fun q => c ⟨q.1, q.2.1, q.2.2.1, q.2.2.2.1, q.2.2.2.2.1, h1.2 q.2.2.2.2.2⟩]
def ApP (s : St) (x : Ed) (w : World) (e : Ending) (w' : World) : Prop := ∃ v, e = .returned (.tuple #[.agg #[v, .int .i64 ((apS s x).1.getD stZ).lo, .int .i64 ((apS s x).1.getD stZ).ne, .int .i64 ((apS s x).1.getD stZ).ma], .int .i64 (apS s x).2]) ∧ UR w' v ((apS s x).1.getD stZ).ru ∧ Below w.heap.size w w'
theorem ur_nil (w : World) : UR w (.slice none 0 0) [] := ⟨⟨none, 0, rfl, by decide, fun j hj => by simp at hj⟩, fun a n c e => by simp only [Value.slice.injEq] at e; unfold maxLen; omega, fun n c e => by simp only [Value.slice.injEq, true_and] at e; omega⟩
theorem ApP.err {s : St} {x : Ed} {c : Int} (h : apS s x = (none, c)) {w w' : World} (hb : Below w.heap.size w w') : ApP s x w (.returned (.tuple #[.agg #[.slice none 0 0, .int .i64 0, .int .i64 0, .int .i64 0], .int .i64 c])) w' := by
  refine ⟨.slice none 0 0, by rw [h]; rfl, ?_, hb⟩
  rw [h]
  exact ur_nil _
theorem ApP.ok {s t : St} {x : Ed} (h : apS s x = (some t, 0)) {w w' : World} {v : Value} (hu : UR w' v t.ru) (hb : Below w.heap.size w w') : ApP s x w (.returned (.tuple #[.agg #[v, .int .i64 t.lo, .int .i64 t.ne, .int .i64 t.ma], .int .i64 0])) w' := by
  refine ⟨v, by rw [h]; rfl, ?_, hb⟩
  rw [h]
  exact hu
/-- The row with the runs that come. -/
theorem run_add13 {w : World} {base : Nat} {v av : Value} {l a : List Ru} (h : UOwn w base v l) (ha : UR w av a) (h1 : l.length ≤ 1000) (h2 : a.length ≤ 1000) (hb : base ≤ w.heap.size) :
    ∃ v' w', (Builtin.append_ #[23, 23] 23 #[v, av]).run Tryd.prog w = .ok v' w' ∧ UG0 w' v' (l ++ a) ∧ (∀ k, v'.ownBlock = some k → base ≤ k) ∧ Below base w w' := by
  obtain ⟨i0, hi, hz0, hz1, hz2⟩ := info_parts infoU13
  obtain ⟨aa, ac, hav, _⟩ := ha.r.form
  have hsr : GSrc w 3 av a.length (a.flatMap r3L) := by
    refine ⟨fl3_len a, ?_⟩
    cases aa with
    | none =>
      left
      have hc := ha.z _ _ hav
      have hl : a.length = 0 := by
        rcases Nat.eq_zero_or_pos a.length with h | h
        · exact h
        · have hr := ha.r
          rw [hav] at hr
          obtain ⟨b, off, e, _⟩ := hr.at h rfl
          cases e
      rw [hav, hc, hl]; exact ⟨rfl, rfl⟩
    | some ad =>
      right
      refine ⟨ad, ac, hav, fun j u hj => ?_⟩
      rcases Nat.eq_zero_or_pos a.length with h | h
      · rw [List.length_eq_zero_iff.1 h] at hj; simp at hj
      · have hr := ha.r
        rw [hav] at hr
        obtain ⟨b, off, e, _⟩ := hr.at h rfl
        simp only [Option.some.injEq] at e
        subst e
        exact news_fl3 hr j u hj
  have hlt := World.ownsRow.lt h
  obtain ⟨v', w', g1, g2, g3, g4⟩ := run_gapp (P := Tryd.prog) 23 23 52 i0 _ 3 24 Tryd.underlying23 hi hz0 hz1 hz2 rfl v l.length _ h.gown av a.length _ hsr (one_fl3 a) (by simp only [maxLen]; omega) (by omega)
  refine ⟨v', w', g1, ?_, fun k e => ?_, (Below.refl _ _).grown g3 hb fun k e => (hlt k e).1⟩
  · unfold UG0
    rw [List.length_append, List.flatMap_append]; exact g2
  · rcases g4 k e with z | z
    · exact (hlt k z).1
    · omega
theorem sort13_any (v : Value) (L : List Ru) (base : Nat) (w : World) (hO : UG0 w v L) (hk : ∀ k, v.ownBlock = some k → base ≤ k) (hb : base ≤ w.heap.size) (hL : L.length ≤ 10000) :
    Calls Tryd.prog 32 #[v, .func (.func 33) #[] #[]] w fun e w' => e = .returned (.tuple #[]) ∧ ∃ L', L'.Perm L ∧ wk L' ∧ UG0 w' v L' ∧ Below base w w' := by
  rcases hO.2 with ⟨rfl, h0⟩ | ⟨g, cap, cur, rfl, _⟩
  · have hL0 : L = [] := List.length_eq_zero_iff.1 h0
    subst hL0
    have hcon := Go.Proofs.AnyF.slices_SortFunc_none sortR none 0 (.func (.func 33) #[] #[]) w
    change Calls Tryd.prog 32 _ _ _ at hcon
    refine hcon.mono ?_
    rintro e w' ⟨rfl, rfl⟩
    exact ⟨rfl, [], List.Perm.refl _, List.Pairwise.nil, hO, Below.refl _ _⟩
  · refine (sort13_some g _ cap L w hO hL).mono ?_
    rintro e w' ⟨rfl, L', h1, h2, h3, h4⟩
    exact ⟨rfl, L', h1, h2, h3, h4 base (hk g rfl)⟩
end Go.Proofs.YtoibfepnecppmaaDoor
