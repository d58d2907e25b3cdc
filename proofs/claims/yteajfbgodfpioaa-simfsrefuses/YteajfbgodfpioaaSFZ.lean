/- SimfsRefuses, plainly. -/
import Derived.Test.YteajfbgodfpioaaSFX
namespace Go.Proofs.Yteajfbgodfpioaa
open Go.RowKit Go.Maps Go.Sort

def sfG (S : SfS) (e : Int) : SfS := { S with left := 0, fault := e }
/-- What is refused, or fails by the plan, changes nothing; the plan fails one call. -/
def Ref (S : SfS) (f : SfS → Int × SfS) (e : Int) : Prop :=
  ((f S).1 ≠ 0 → sfView (f S).2 = sfView S ∧ (f (sfG S e)).1 = (f S).1 ∧ sfView (f (sfG S e)).2 = sfView S) ∧
  ((f S).1 = 0 → (f (sfG S e)).1 = e ∧ sfView (f (sfG S e)).2 = sfView S ∧ (f (f (sfG S e)).2).1 = 0 ∧ sfView (f (f (sfG S e)).2).2 = sfView (f S).2)
theorem Ref.no {S : SfS} {f : SfS → Int × SfS} {e c : Int} (hc : c ≠ 0) (h1 : f S = (c, S)) (h2 : f (sfG S e) = (c, sfG S e)) : Ref S f e := by
  refine ⟨fun _ => ⟨by rw [h1], by rw [h1, h2], by rw [h2]; rfl⟩, fun h => ?_⟩
  rw [h1] at h
  exact absurd h hc
theorem Ref.yes {S T U V : SfS} {f : SfS → Int × SfS} {e : Int} (h1 : f S = (0, T)) (h2 : f (sfG S e) = (e, U)) (h3 : sfView U = sfView S) (h4 : f U = (0, V)) (h5 : sfView V = sfView T) : Ref S f e := by
  refine ⟨fun h => ?_, fun _ => ⟨by rw [h2], by rw [h2]; exact h3, by rw [h2]; show (f U).1 = 0; rw [h4], ?_⟩⟩
  · rw [h1] at h; exact absurd rfl h
  · rw [h2]
    show sfView (f U).2 = _
    rw [h4, h1]
    exact h5
theorem plan_G {S : SfS} {e : Int} (he : e ≠ 0) : sfPlan (sfG S e) = (e, sfG S 0) := by
  unfold sfPlan
  rw [if_neg (show ¬ (sfG S e).fault = 0 from he), if_neg (show ¬ (0 : Int) < (sfG S e).left from by show ¬ (0 : Int) < 0; decide)]
  rfl
theorem change_yes {S : SfS} (h : S.fault = 0) (a : SfA) : sfChange S a = (0, { S with dir := sfDo S.dir a, pend := S.pend ++ [a] }) := by unfold sfChange; rw [plan_none h, if_pos rfl]
theorem change_G {S : SfS} {e : Int} (he : e ≠ 0) (a : SfA) : sfChange (sfG S e) a = (e, sfG S 0) := by unfold sfChange; rw [plan_G he, if_neg he]
theorem vw_ins {F G : Nat → List UInt8} {n : List UInt8} {i j : Nat} (hij : F i = G j) : ∀ {l : List (List UInt8 × Nat)}, (∀ p ∈ l, F p.2 = G p.2) → (sfIns (n, i) l).map (fun p => (p.1, F p.2)) = (sfIns (n, j) l).map (fun p => (p.1, G p.2))
  | [], _ => by simp [sfIns, hij]
  | y :: r, h => by
    have ih := vw_ins (n := n) hij (l := r) (fun p hp => h p (by simp [hp]))
    have hy := h y (by simp)
    have hr : r.map (fun p => (p.1, F p.2)) = r.map (fun p => (p.1, G p.2)) := List.map_congr_left fun p hp => by rw [h p (by simp [hp])]
    unfold sfIns
    simp only
    split
    · rw [List.map_cons, List.map_cons, List.map_cons, List.map_cons, hij, hy, hr]
    · rw [List.map_cons, List.map_cons, ih, hy]
theorem ref_create {S : SfS} (hf : S.fault = 0) (hw : SfWf S) {e : Int} (he : e ≠ 0) (n : List UInt8) : Ref S (fun s => sfCreate s n) e := by
  by_cases h1 : sfName n = false
  · refine Ref.no (c := 1) (by decide) ?_ ?_ <;> · show sfCreate _ n = _; unfold sfCreate; rw [if_pos h1]
  · by_cases h2 : (sfLook n S.dir).isSome = true
    · refine Ref.no (c := 80) (by decide) ?_ ?_
      · show sfCreate _ n = _; unfold sfCreate; rw [if_neg h1, if_pos h2]
      · show sfCreate _ n = _; unfold sfCreate; rw [if_neg h1]; exact if_pos h2
    · by_cases h3 : 256 ≤ S.dir.length
      · refine Ref.no (c := 81) (by decide) ?_ ?_
        · show sfCreate _ n = _; unfold sfCreate; rw [if_neg h1, if_neg h2, if_pos h3]
        · show sfCreate (sfG S e) n = _; unfold sfCreate; rw [if_neg h1, if_neg (show ¬ (sfLook n (sfG S e).dir).isSome = true from h2)]; exact if_pos h3
      · have gen : ∀ T : SfS, T.dir = S.dir → sfCreate T n = sfChange (sfNew T) ⟨[], n, some T.fls.length⟩ := fun T hT => by unfold sfCreate; rw [hT, if_neg h1, if_neg h2, if_neg h3]
        have e2 : sfNew (sfG S e) = sfG (sfNew S) e := rfl
        refine Ref.yes ((gen S rfl).trans (change_yes (S := sfNew S) hf _)) (U := sfG (sfNew S) 0) ?_ ?_ ((gen (sfG (sfNew S) 0) rfl).trans (change_yes rfl _)) ?_
        · show sfCreate (sfG S e) n = _
          rw [gen (sfG S e) rfl, e2, change_G he]
        · unfold sfView SfS.fl
          refine List.map_congr_left fun p hp => ?_
          have := (hw.di p hp).1
          show (p.1, ((S.fls ++ [([], 0)]).getD p.2 ([], 0)).1) = (p.1, (S.fls.getD p.2 ([], 0)).1)
          rw [List.getD_eq_getElem?_getD, List.getD_eq_getElem?_getD, List.getElem?_append_left this]
        · unfold sfView SfS.fl
          show (sfPut (n, _) (sfDel [] S.dir)).map _ = (sfPut (n, _) (sfDel [] S.dir)).map _
          unfold sfPut
          refine vw_ins (F := fun i => (((S.fls ++ [([], 0)]) ++ [([], 0)]).getD i ([], 0)).1) (G := fun i => ((S.fls ++ [([], 0)]).getD i ([], 0)).1) ?_ fun p hp => ?_
          · show (((S.fls ++ [([], 0)]) ++ [([], 0)]).getD (S.fls ++ [([], 0)]).length ([], 0)).1 = ((S.fls ++ [([], 0)]).getD S.fls.length ([], 0)).1
            simp [List.getD_eq_getElem?_getD]
          · have hp' := (hw.di p (sfDel_mem (sfDel_mem hp))).1
            show (((S.fls ++ [([], 0)]) ++ [([], 0)]).getD p.2 ([], 0)).1 = ((S.fls ++ [([], 0)]).getD p.2 ([], 0)).1
            rw [List.getD_eq_getElem?_getD, List.getD_eq_getElem?_getD, List.getElem?_append_left (by simp; omega)]
theorem ref_append {S : SfS} (hf : S.fault = 0) {e : Int} (he : e ≠ 0) (n b : List UInt8) : Ref S (fun s => sfAppend s n b) e := by
  cases hl : sfLook n S.dir with
  | none =>
    refine Ref.no (c := 4) (by decide) ?_ ?_
    · show sfAppend S n b = _; unfold sfAppend; rw [hl]
    · show sfAppend (sfG S e) n b = _; unfold sfAppend; rw [show sfLook n (sfG S e).dir = none from hl]
  | some i =>
    have gen : ∀ T : SfS, T.dir = S.dir → sfAppend T n b = if 1048576 < (T.fl i).1.length + b.length then (2, T) else if T.room < ((sfUsed T + b.length : Nat) : Int) then (81, T) else if (sfPlan T).1 = 0 then (0, (sfPlan T).2.setF i ((T.fl i).1 ++ b, (T.fl i).2)) else sfPlan T := fun T hT => by
      unfold sfAppend; rw [hT, hl]
    by_cases h1 : 1048576 < (S.fl i).1.length + b.length
    · refine Ref.no (c := 2) (by decide) ?_ ?_
      · show sfAppend S n b = _; rw [gen S rfl, if_pos h1]
      · show sfAppend (sfG S e) n b = _; rw [gen (sfG S e) rfl]; exact if_pos h1
    · by_cases h2 : S.room < ((sfUsed S + b.length : Nat) : Int)
      · refine Ref.no (c := 81) (by decide) ?_ ?_
        · show sfAppend S n b = _; rw [gen S rfl, if_neg h1, if_pos h2]
        · show sfAppend (sfG S e) n b = _; rw [gen (sfG S e) rfl, if_neg (show ¬ 1048576 < ((sfG S e).fl i).1.length + b.length from h1)]; exact if_pos h2
      · refine Ref.yes (T := S.setF i ((S.fl i).1 ++ b, (S.fl i).2)) (U := sfG S 0) (V := (sfG S 0).setF i ((S.fl i).1 ++ b, (S.fl i).2)) ?_ ?_ rfl ?_ rfl
        · show sfAppend S n b = _; rw [gen S rfl, if_neg h1, if_neg h2, plan_none hf, if_pos rfl]
        · show sfAppend (sfG S e) n b = _; rw [gen (sfG S e) rfl, if_neg (show ¬ 1048576 < ((sfG S e).fl i).1.length + b.length from h1), if_neg (show ¬ (sfG S e).room < ((sfUsed (sfG S e) + b.length : Nat) : Int) from h2), plan_G he, if_neg he]
        · show sfAppend (sfG S 0) n b = _; rw [gen (sfG S 0) rfl, if_neg (show ¬ 1048576 < ((sfG S 0).fl i).1.length + b.length from h1), if_neg (show ¬ (sfG S 0).room < ((sfUsed (sfG S 0) + b.length : Nat) : Int) from h2), plan_none (show (sfG S 0).fault = 0 from rfl), if_pos rfl]; rfl
theorem ref_sync {S : SfS} (hf : S.fault = 0) {e : Int} (he : e ≠ 0) (n : List UInt8) : Ref S (fun s => sfSync s n) e := by
  cases hl : sfLook n S.dir with
  | none =>
    refine Ref.no (c := 4) (by decide) ?_ ?_
    · show sfSync S n = _; unfold sfSync; rw [hl]
    · show sfSync (sfG S e) n = _; unfold sfSync; rw [show sfLook n (sfG S e).dir = none from hl]
  | some i =>
    refine Ref.yes (U := sfG S 0) (sync_some hf hl) ?_ rfl (sync_some (s := sfG S 0) rfl hl) rfl
    show sfSync (sfG S e) n = _; unfold sfSync; rw [show sfLook n (sfG S e).dir = some i from hl]; simp only []; rw [plan_G he, if_neg he]
theorem ref_rename {S : SfS} (hf : S.fault = 0) {e : Int} (he : e ≠ 0) (n m : List UInt8) : Ref S (fun s => sfRename s n m) e := by
  by_cases h1 : sfName m = false
  · refine Ref.no (c := 1) (by decide) ?_ ?_ <;> · show sfRename _ n m = _; unfold sfRename; rw [if_pos h1]
  · cases hl : sfLook n S.dir with
    | none =>
      refine Ref.no (c := 4) (by decide) ?_ ?_
      · show sfRename S n m = _; unfold sfRename; rw [if_neg h1, hl]
      · show sfRename (sfG S e) n m = _; unfold sfRename; rw [if_neg h1, show sfLook n (sfG S e).dir = none from hl]
    | some i =>
      have gen : ∀ T : SfS, T.dir = S.dir → sfRename T n m = sfChange T ⟨n, m, some i⟩ := fun T hT => by unfold sfRename; rw [if_neg h1, hT, hl]
      exact Ref.yes (U := sfG S 0) ((gen S rfl).trans (change_yes hf _)) ((gen (sfG S e) rfl).trans (change_G he _)) rfl ((gen (sfG S 0) rfl).trans (change_yes rfl _)) rfl
theorem ref_remove {S : SfS} (hf : S.fault = 0) {e : Int} (he : e ≠ 0) (n : List UInt8) : Ref S (fun s => sfRemove s n) e := by
  cases hl : sfLook n S.dir with
  | none =>
    refine Ref.no (c := 4) (by decide) ?_ ?_
    · show sfRemove S n = _; unfold sfRemove; rw [hl]
    · show sfRemove (sfG S e) n = _; unfold sfRemove; rw [show sfLook n (sfG S e).dir = none from hl]
  | some i =>
    have gen : ∀ T : SfS, T.dir = S.dir → sfRemove T n = sfChange T ⟨n, [], none⟩ := fun T hT => by unfold sfRemove; rw [hT, hl]
    exact Ref.yes (U := sfG S 0) ((gen S rfl).trans (change_yes hf _)) ((gen (sfG S e) rfl).trans (change_G he _)) rfl ((gen (sfG S 0) rfl).trans (change_yes rfl _)) rfl
theorem ref_syncDir {S : SfS} (hf : S.fault = 0) {e : Int} (he : e ≠ 0) : Ref S (fun s => sfSyncDir s) e := by
  refine Ref.yes (T := sfSettle S S.pend.length) (U := sfG S 0) (V := sfSettle (sfG S 0) S.pend.length) ?_ ?_ rfl ?_ rfl
  · show sfSyncDir S = _; unfold sfSyncDir; rw [plan_none hf, if_pos rfl]
  · show sfSyncDir (sfG S e) = _; unfold sfSyncDir; rw [plan_G he, if_neg he]
  · show sfSyncDir (sfG S 0) = _; unfold sfSyncDir; rw [plan_none (show (sfG S 0).fault = 0 from rfl), if_pos rfl]; rfl
theorem ref_call {S : SfS} (hf : S.fault = 0) (hw : SfWf S) {e : Int} (he : e ≠ 0) (o : SfO) (h0 : 0 ≤ o.k) (h5 : o.k ≤ 5) : Ref S (fun s => sfCall s o) e := by
  have hk : o.k = 0 ∨ o.k = 1 ∨ o.k = 2 ∨ o.k = 3 ∨ o.k = 4 ∨ o.k = 5 := by omega
  rcases hk with hk | hk | hk | hk | hk | hk
  · have : (fun s => sfCall s o) = fun s => sfCreate s o.nm := by funext s; unfold sfCall; simp [hk]
    rw [this]; exact ref_create hf hw he _
  · have : (fun s => sfCall s o) = fun s => sfAppend s o.nm o.b := by funext s; unfold sfCall; simp [hk]
    rw [this]; exact ref_append hf he _ _
  · have : (fun s => sfCall s o) = fun s => sfSync s o.nm := by funext s; unfold sfCall; simp [hk]
    rw [this]; exact ref_sync hf he _
  · have : (fun s => sfCall s o) = fun s => sfRename s o.nm o.to := by funext s; unfold sfCall; simp [hk]
    rw [this]; exact ref_rename hf he _ _
  · have : (fun s => sfCall s o) = fun s => sfRemove s o.nm := by funext s; unfold sfCall; simp [hk]
    rw [this]; exact ref_remove hf he _
  · have : (fun s => sfCall s o) = fun s => sfSyncDir s := by funext s; unfold sfCall; simp [hk]
    rw [this]; exact ref_syncDir hf he
theorem FamX.push {w w' : World} {base : Nat} {L : List (Value × SfS)} {X : Nat → Prop} (h : FamX w base L X) (hb : Below w.heap.size w w') {p : Value} {s : SfS} (hf : FsB w' w.heap.size p s) : FamX w' base (L ++ [(p, s)]) X := by
  obtain ⟨h0, hx, O, h1, h2, h3⟩ := h
  have hs := hb.size
  refine ⟨Nat.le_trans h0 hs, fun k q => by have := hx k q; omega, fun i k => if i < L.length then O i k else (w.heap.size ≤ k ∧ k < w'.heap.size), fun i hi => ?_, fun i j hi hj hij k q1 q2 => ?_, fun i k hi q z => ?_⟩
  · by_cases e : i < L.length
    · simp only [e, if_true]
      rw [List.getElem_append_left e]
      exact ⟨(h1 i e).1.below hb, (h1 i e).2⟩
    · simp only [e, if_false]
      have : i = L.length := by simp at hi; omega
      subst this
      simp only [List.getElem_concat_length]
      exact ⟨hf, fun k q => by omega⟩
  · simp at hi hj
    by_cases e : i < L.length
    · simp only [e, if_true] at q1
      by_cases e' : j < L.length
      · simp only [e', if_true] at q2
        exact h2 i j e e' hij k q1 q2
      · simp only [e', if_false] at q2
        have := (h1 i e).1.lt k q1
        omega
    · simp only [e, if_false] at q1
      by_cases e' : j < L.length
      · simp only [e', if_true] at q2
        have := (h1 j e').1.lt k q2
        omega
      · omega
  · by_cases e : i < L.length
    · simp only [e, if_true] at q
      exact h3 i k e q z
    · simp only [e, if_false] at q
      have := hx k z
      omega
theorem FamX.opc {W w : World} {L : List (Value × SfS)} {X : Nat → Prop} {O : SfO} {av : Value} (h : FamX w W.heap.size L X) (hC : ∀ (w : World) (F : Nat → Prop) (p : Value) (s : SfS), Fs w F p s → (∀ k, F k → W.heap.size ≤ k) → W.heap.size ≤ w.heap.size → Below W.heap.size W w → sfLong O = false → s.pend.length < 1099511627776 → Calls Try.prog 11 #[p, av] w (FsR w F p (sfCall s O))) (hB : Below W.heap.size W w) (hl : sfLong O = false) (i : Nat) (hi : i < L.length) (hp : L[i].2.pend.length < 1099511627776) :
    Calls Try.prog 11 #[L[i].1, av] w fun e w' => e = .returned (.int .i64 (sfCall L[i].2 O).1) ∧ FamX w' W.heap.size (L.set i (L[i].1, (sfCall L[i].2 O).2)) X ∧ Below W.heap.size w w' ∧ ∀ k, X k → w'.heap[k]? = w.heap[k]? :=
  h.call i hi (r := sfCall L[i].2 O) fun F hf hO _ => hC w F _ _ hf hO h.1 hB hl hp
set_option maxRecDepth 100000 in
set_option maxHeartbeats 8000000 in
theorem refuses_walk (r : Int) (ov : Value) (L : List SfO) (o : SfO) (io : Bool) (W : World) (hr1 : -9223372036854775808 ≤ r) (hr2 : r < 9223372036854775808) (hL : OsR W ov L) (hO : SfOk W o) :
    Calls Try.prog 5 #[.int .i64 r, ov, .agg (o7 o).toArray, .bool io] W fun e w' => e = .returned (.bool true) ∧ Below W.heap.size W w' := by
  obtain ⟨O, HOE⟩ := hid_ex o
  have HLG : Hid (∀ w, Below W.heap.size W w → Calls Try.prog 9 #[.agg (o7 o).toArray] w fun e w' => e = .returned (.bool (sfLong O)) ∧ Below w.heap.size w w') := fun w hb => by rw [HOE.out]; exact long_any (hO.below hb)
  have HCL : Hid (∀ (w : World) (F : Nat → Prop) (p : Value) (s : SfS), Fs w F p s → (∀ k, F k → W.heap.size ≤ k) → W.heap.size ≤ w.heap.size → Below W.heap.size W w → sfLong O = false → s.pend.length < 1099511627776 → Calls Try.prog 11 #[p, .agg (o7 o).toArray] w (FsR w F p (sfCall s O))) := fun w F p s hf hF hs hb hl hp => by
    rw [HOE.out] at hl ⊢
    exact call_any hf o (fun _ q => hO.below (hb.trans (q.below hs hF))) (by have := (long_false hl).1; omega) hp
  obtain ⟨k, nm, to, bv, b, n, kv, ks, e0⟩ := o
  obtain ⟨ba, bcp, hbv, -⟩ := hO.rb.form
  obtain ⟨ka, kcp, hkv, -⟩ := hO.rk.form
  simp only at hbv hkv
  subst hbv hkv
  have HKK : Hid (O.k = k) := by show O.k = k; rw [HOE.out]
  unfold o7 at HLG HCL ⊢
  simp only at HLG HCL ⊢
  have HL : Hid (OsR W ov L) := hL
  clear hL hO HOE
  have HBX : Hid (Below W.heap.size W (W.alloc (.cells #[.int .i64 k, .string ⟨nm.toArray⟩, .string ⟨to.toArray⟩, .slice ba b.length bcp, .int .i64 n, .slice ka ks.length kcp, .int .i64 e0] 26))) := (Below.refl _ _).alloc (Nat.le_refl _) _
  have HX : Hid ((W.alloc (.cells #[.int .i64 k, .string ⟨nm.toArray⟩, .string ⟨to.toArray⟩, .slice ba b.length bcp, .int .i64 n, .slice ka ks.length kcp, .int .i64 e0] 26)).heap[W.heap.size]? = some (.cells #[.int .i64 k, .string ⟨nm.toArray⟩, .string ⟨to.toArray⟩, .slice ba b.length bcp, .int .i64 n, .slice ka ks.length kcp, .int .i64 e0] 26)) := heap_alloc_new _ _
  have HSX : Hid (W.heap.size < (W.alloc (.cells #[.int .i64 k, .string ⟨nm.toArray⟩, .string ⟨to.toArray⟩, .slice ba b.length bcp, .int .i64 n, .slice ka ks.length kcp, .int .i64 e0] 26)).heap.size) := by show _ < _; simp
  go_enter Try.func5, Try.ntmps5
  go_wp2_with fail
  obtain ⟨w0, HW0⟩ := hid_ex (W.alloc (.cells #[.int .i64 k, .string ⟨nm.toArray⟩, .string ⟨to.toArray⟩, .slice ba b.length bcp, .int .i64 n, .slice ka ks.length kcp, .int .i64 e0] 26))
  rw [← HW0.out] at HBX HX HSX
  rw [← HW0.out]
  clear HW0
  have HL0 : Hid (OsR w0 ov L) := HL.out.below HBX.out
  have HF0 : Hid (FamX w0 W.heap.size [] (fun k => k = W.heap.size)) := ⟨HBX.out.size, fun k q => by rw [q]; exact HSX.out, fun _ _ => False, fun i hi => by simp at hi, fun i j hi => by simp at hi, fun i k hi => by simp at hi⟩
  refine (played_any r hr1 hr2 ov L w0 HL0.out).mono ?_
  rintro e w1 ⟨hb1, hc1⟩
  rcases hc1 with ⟨hr, rfl⟩ | ⟨hr, g1, rfl, hf1, hp1⟩
  · have HB1 : Hid (Below W.heap.size W w1) := HBX.out.trans (hb1.mono HBX.out.size)
    have HL1 : Hid (OsR w1 ov L) := HL0.out.below hb1
    clear hb1
    go_wp2_with fail
    refine (played_any r hr1 hr2 ov L w1 HL1.out).mono ?_
    rintro e w2 ⟨hb2, hc2⟩
    rcases hc2 with ⟨-, rfl⟩ | ⟨hrr, _⟩
    · have HB2 : Hid (Below W.heap.size W w2) := HB1.out.trans (hb2.mono HB1.out.size)
      have HL2 : Hid (OsR w2 ov L) := HL1.out.below hb2
      clear hb2
      go_wp2_with fail
      refine (played_any r hr1 hr2 ov L w2 HL2.out).mono ?_
      rintro e w3 ⟨hb3, hc3⟩
      rcases hc3 with ⟨-, rfl⟩ | ⟨hrr, _⟩
      · have HB3 : Hid (Below W.heap.size W w3) := HB2.out.trans (hb3.mono HB2.out.size)
        clear hb3
        go_wp2_with fail
        refine (alive11_any w3).mono ?_
        rintro e wz ⟨rfl, hbz⟩
        go_wp2_with fail
        go_ret
        exact ⟨rfl, HB3.out.trans (hbz.mono HB3.out.size)⟩
      · exfalso; omega
    · exfalso; omega
  · have HB1 : Hid (Below W.heap.size W w1) := HBX.out.trans (hb1.mono HBX.out.size)
    have HL1 : Hid (OsR w1 ov L) := HL0.out.below hb1
    have HX1 : Hid (FamX w1 W.heap.size [(.pointer (some ⟨g1, 0, none⟩), sfPlayed r L)] (fun k => k = W.heap.size)) := HF0.out.push hb1 hf1
    have HH1 : Hid (w1.heap[W.heap.size]? = some (.cells #[.int .i64 k, .string ⟨nm.toArray⟩, .string ⟨to.toArray⟩, .slice ba b.length bcp, .int .i64 n, .slice ka ks.length kcp, .int .i64 e0] 26)) := (hb1.block _ HSX.out).trans HX.out
    have HWF : Hid (SfWf (sfPlayed r L)) := hf1.1
    have HFT : Hid ((sfPlayed r L).fault = 0) := played_fault r L
    have HPN : Hid ((sfPlayed r L).pend.length ≤ 60) := hp1
    clear hb1 hf1 hp1
    go_wp2_with fail
    refine (played_any r hr1 hr2 ov L w1 HL1.out).mono ?_
    rintro e w2 ⟨hb2, hc2⟩
    rcases hc2 with ⟨hrr, _⟩ | ⟨-, g2, rfl, hf2, -⟩
    · exfalso; omega
    have HB2 : Hid (Below W.heap.size W w2) := HB1.out.trans (hb2.mono HB1.out.size)
    have HL2 : Hid (OsR w2 ov L) := HL1.out.below hb2
    have HX2 : Hid (FamX w2 W.heap.size [(.pointer (some ⟨g1, 0, none⟩), sfPlayed r L), (.pointer (some ⟨g2, 0, none⟩), sfPlayed r L)] (fun k => k = W.heap.size)) := HX1.out.push hb2 hf2
    have HH2 : Hid (w2.heap[W.heap.size]? = some (.cells #[.int .i64 k, .string ⟨nm.toArray⟩, .string ⟨to.toArray⟩, .slice ba b.length bcp, .int .i64 n, .slice ka ks.length kcp, .int .i64 e0] 26)) := (hb2.block _ (Array.getElem?_eq_some_iff.1 HH1.out).1).trans HH1.out
    clear hb2 hf2
    go_wp2_with fail
    refine (played_any r hr1 hr2 ov L w2 HL2.out).mono ?_
    rintro e w3 ⟨hb3, hc3⟩
    rcases hc3 with ⟨hrr, _⟩ | ⟨-, g3, rfl, hf3, -⟩
    · exfalso; omega
    have HB3 : Hid (Below W.heap.size W w3) := HB2.out.trans (hb3.mono HB2.out.size)
    obtain ⟨S, HS⟩ := hid_ex (sfPlayed r L)
    rw [← HS.out] at hf3 HX2 HWF HFT HPN
    have HX3 : Hid (FamX w3 W.heap.size [(.pointer (some ⟨g1, 0, none⟩), S), (.pointer (some ⟨g2, 0, none⟩), S), (.pointer (some ⟨g3, 0, none⟩), S)] (fun k => k = W.heap.size)) := HX2.out.push hb3 hf3
    have HH3 : Hid (w3.heap[W.heap.size]? = some (.cells #[.int .i64 k, .string ⟨nm.toArray⟩, .string ⟨to.toArray⟩, .slice ba b.length bcp, .int .i64 n, .slice ka ks.length kcp, .int .i64 e0] 26)) := (hb3.block _ (Array.getElem?_eq_some_iff.1 HH2.out).1).trans HH2.out
    have x0 := cell_of HH3.out 0 _ rfl
    have x1 := cell_of HH3.out 1 _ rfl
    have x2 := cell_of HH3.out 2 _ rfl
    have x3 := cell_of HH3.out 3 _ rfl
    have x4 := cell_of HH3.out 4 _ rfl
    have x5 := cell_of HH3.out 5 _ rfl
    have x6 := cell_of HH3.out 6 _ rfl
    clear hb3 hf3 HX2 HX1 HB1 HB2 HL1 HL2 HH1 HH2 hr
    go_wp2_with fail
    refine (HLG.out w3 HB3.out).mono ?_
    rintro e w4 ⟨rfl, hb4⟩
    have HB4 : Hid (Below W.heap.size W w4) := HB3.out.trans (hb4.mono HB3.out.size)
    have HX4 : Hid (FamX w4 W.heap.size [(.pointer (some ⟨g1, 0, none⟩), S), (.pointer (some ⟨g2, 0, none⟩), S), (.pointer (some ⟨g3, 0, none⟩), S)] (fun k => k = W.heap.size)) := (HX3.out.below hb4).less (fun k q => .inl q)
    have HH4 : Hid (w4.heap[W.heap.size]? = some (.cells #[.int .i64 k, .string ⟨nm.toArray⟩, .string ⟨to.toArray⟩, .slice ba b.length bcp, .int .i64 n, .slice ka ks.length kcp, .int .i64 e0] 26)) := (hb4.block _ (Array.getElem?_eq_some_iff.1 HH3.out).1).trans HH3.out
    clear hb4 HX3 HB3 x0 x1 x2 x3 x4 x5 x6
    cases hlg : sfLong O with
    | true =>
      clear hlg
      go_wp2_with fail
      refine (alive11_any w4).mono ?_
      rintro e wz ⟨rfl, hbz⟩
      go_wp2_with fail
      go_ret
      exact ⟨rfl, HB4.out.trans (hbz.mono HB4.out.size)⟩
    | false =>
      have HLF : Hid (sfLong O = false) := hlg
      have x0 := cell_of HH4.out 0 _ rfl
      clear hlg
      by_cases hk0 : k < 0
      · go_wp2_with fail
        refine (alive11_any w4).mono ?_
        rintro e wz ⟨rfl, hbz⟩
        go_wp2_with fail
        go_ret
        exact ⟨rfl, HB4.out.trans (hbz.mono HB4.out.size)⟩
      · by_cases hk5 : 5 < k
        · go_wp2_with fail
          refine (alive11_any w4).mono ?_
          rintro e wz ⟨rfl, hbz⟩
          go_wp2_with fail
          go_ret
          exact ⟨rfl, HB4.out.trans (hbz.mono HB4.out.size)⟩
        · obtain ⟨EE, HEE⟩ := hid_ex (if io = true then (82 : Int) else 81)
          have HE2 : Hid (EE = 81 ∨ EE = 82) := by show EE = 81 ∨ EE = 82; rw [HEE.out]; cases io <;> simp
          have HRF : Hid (Ref S (fun s => sfCall s O) EE) := ref_call HFT.out HWF.out (by have := HE2.out; omega) O (by rw [HKK.out]; omega) (by rw [HKK.out]; omega)
          have x1 := cell_of HH4.out 1 _ rfl
          have x2 := cell_of HH4.out 2 _ rfl
          have x3 := cell_of HH4.out 3 _ rfl
          have x4 := cell_of HH4.out 4 _ rfl
          have x5 := cell_of HH4.out 5 _ rfl
          have x6 := cell_of HH4.out 6 _ rfl
          cases io with
          | true =>
            simp only [if_true] at HEE
            have HE : Hid (EE = 82) := HEE.out
            clear HEE HE2
            go_wp2_with fail
            have HCC4 : Hid (Calls Try.prog 11 #[.pointer (some ⟨g1, 0, none⟩), .agg #[.int .i64 k, .string ⟨nm.toArray⟩, .string ⟨to.toArray⟩, .slice ba b.length bcp, .int .i64 n, .slice ka ks.length kcp, .int .i64 e0]] w4 fun e w' => e = .returned (.int .i64 (sfCall S O).1) ∧ (FamX w' W.heap.size [(.pointer (some ⟨g1, 0, none⟩), (sfCall S O).2), (.pointer (some ⟨g2, 0, none⟩), S), (.pointer (some ⟨g3, 0, none⟩), S)] (fun k => k = W.heap.size)) ∧ Below W.heap.size w4 w' ∧ ∀ k, k = W.heap.size → w'.heap[k]? = w4.heap[k]?) := HX4.out.opc HCL.out HB4.out HLF.out 0 (by simp) (by show S.pend.length < _; have := HPN.out; omega)
            refine HCC4.out.mono ?_
            rintro e w5 ⟨rfl, hx5, hb5, hk5'⟩
            have HX5 : Hid (FamX w5 W.heap.size [(.pointer (some ⟨g1, 0, none⟩), (sfCall S O).2), (.pointer (some ⟨g2, 0, none⟩), S), (.pointer (some ⟨g3, 0, none⟩), S)] (fun k => k = W.heap.size)) := hx5
            have HB5 : Hid (Below W.heap.size W w5) := HB4.out.trans hb5
            have HH5 : Hid (w5.heap[W.heap.size]? = some (.cells #[.int .i64 k, .string ⟨nm.toArray⟩, .string ⟨to.toArray⟩, .slice ba b.length bcp, .int .i64 n, .slice ka ks.length kcp, .int .i64 e0] 26)) := (hk5' _ rfl).trans HH4.out
            clear hx5 hb5 hk5' x0 x1 x2 x3 x4 x5 x6
            obtain ⟨C, HC⟩ := hid_ex (sfCall S O).1
            rw [← HC.out]
            have HFL : Hid (∀ w, (FamX w W.heap.size [(.pointer (some ⟨g1, 0, none⟩), (sfCall S O).2), (.pointer (some ⟨g2, 0, none⟩), S), (.pointer (some ⟨g3, 0, none⟩), S)] (fun k => k = W.heap.size)) → Calls Try.prog 18 #[.pointer (some ⟨g2, 0, none⟩), .int .i64 0, .int .i64 82] w fun e w' => e = .returned (.int .i64 0) ∧ (FamX w' W.heap.size [(.pointer (some ⟨g1, 0, none⟩), (sfCall S O).2), (.pointer (some ⟨g2, 0, none⟩), sfG S EE), (.pointer (some ⟨g3, 0, none⟩), S)] (fun k => k = W.heap.size)) ∧ Below W.heap.size w w' ∧ ∀ k, k = W.heap.size → w'.heap[k]? = w.heap[k]?) := fun w hx => by
              have := hx.call 1 (by simp) (F := 18) (args := #[.pointer (some ⟨g2, 0, none⟩), .int .i64 0, .int .i64 82]) (r := sfFail S 0 82) (fun O' hf _ _ => hf.fail 0 82 (by decide))
              have e1 : sfFail S 0 82 = (0, sfG S EE) := by rw [HE.out]; rfl
              rw [e1] at this
              exact this
            by_cases hC : C = 0
            · have HC0 : Hid (C = 0) := hC
              obtain ⟨z1, z2, z3, z4⟩ := HRF.out.2 (HC.out.symm.trans hC)
              simp only at z1 z2 z3 z4
              subst hC
              go_wp2_with fail
              refine (HFL.out w5 HX5.out).mono ?_
              rintro e w6 ⟨rfl, hx6, hb6, hk6⟩
              have HX6 : Hid (FamX w6 W.heap.size [(.pointer (some ⟨g1, 0, none⟩), (sfCall S O).2), (.pointer (some ⟨g2, 0, none⟩), sfG S EE), (.pointer (some ⟨g3, 0, none⟩), S)] (fun k => k = W.heap.size)) := hx6
              have HB6 : Hid (Below W.heap.size W w6) := HB5.out.trans hb6
              have HH6 : Hid (w6.heap[W.heap.size]? = some (.cells #[.int .i64 k, .string ⟨nm.toArray⟩, .string ⟨to.toArray⟩, .slice ba b.length bcp, .int .i64 n, .slice ka ks.length kcp, .int .i64 e0] 26)) := (hk6 _ rfl).trans HH5.out
              clear hx6 hb6 hk6
              have x0 := cell_of HH6.out 0 _ rfl
              have x1 := cell_of HH6.out 1 _ rfl
              have x2 := cell_of HH6.out 2 _ rfl
              have x3 := cell_of HH6.out 3 _ rfl
              have x4 := cell_of HH6.out 4 _ rfl
              have x5 := cell_of HH6.out 5 _ rfl
              have x6 := cell_of HH6.out 6 _ rfl
              go_wp2_with fail
              have HCC6 : Hid (Calls Try.prog 11 #[.pointer (some ⟨g2, 0, none⟩), .agg #[.int .i64 k, .string ⟨nm.toArray⟩, .string ⟨to.toArray⟩, .slice ba b.length bcp, .int .i64 n, .slice ka ks.length kcp, .int .i64 e0]] w6 fun e w' => e = .returned (.int .i64 (sfCall (sfG S EE) O).1) ∧ (FamX w' W.heap.size [(.pointer (some ⟨g1, 0, none⟩), (sfCall S O).2), (.pointer (some ⟨g2, 0, none⟩), (sfCall (sfG S EE) O).2), (.pointer (some ⟨g3, 0, none⟩), S)] (fun k => k = W.heap.size)) ∧ Below W.heap.size w6 w' ∧ ∀ k, k = W.heap.size → w'.heap[k]? = w6.heap[k]?) := HX6.out.opc HCL.out HB6.out HLF.out 1 (by simp) (by show S.pend.length < _; have := HPN.out; omega)
              refine HCC6.out.mono ?_
              rintro e w7 ⟨rfl, hx7, hb7, hk7⟩
              have HX7 : Hid (FamX w7 W.heap.size [(.pointer (some ⟨g1, 0, none⟩), (sfCall S O).2), (.pointer (some ⟨g2, 0, none⟩), (sfCall (sfG S EE) O).2), (.pointer (some ⟨g3, 0, none⟩), S)] (fun k => k = W.heap.size)) := hx7
              have HB7 : Hid (Below W.heap.size W w7) := HB6.out.trans hb7
              have HH7 : Hid (w7.heap[W.heap.size]? = some (.cells #[.int .i64 k, .string ⟨nm.toArray⟩, .string ⟨to.toArray⟩, .slice ba b.length bcp, .int .i64 n, .slice ka ks.length kcp, .int .i64 e0] 26)) := (hk7 _ rfl).trans HH6.out
              clear hx7 hb7 hk7 x0 x1 x2 x3 x4 x5 x6
              rw [z1, HE.out]
              have HZ2 : Hid (sfView (sfCall (sfG S EE) O).2 = sfView S) := z2
              have HZ3 : Hid ((sfCall (sfCall (sfG S EE) O).2 O).1 = 0) := z3
              have HZ4 : Hid (sfView (sfCall (sfCall (sfG S EE) O).2 O).2 = sfView (sfCall S O).2) := z4
              clear z1 z2 z3 z4
              go_wp2_with fail
              refine (HX7.out.fam.same 1 2 (by simp) (by simp) HZ2.out).mono ?_
              rintro e w8 ⟨rfl, hb8⟩
              have HX8 : Hid (FamX w8 W.heap.size [(.pointer (some ⟨g1, 0, none⟩), (sfCall S O).2), (.pointer (some ⟨g2, 0, none⟩), (sfCall (sfG S EE) O).2), (.pointer (some ⟨g3, 0, none⟩), S)] (fun k => k = W.heap.size)) := (HX7.out.below hb8).less (fun k q => .inl q)
              have HB8 : Hid (Below W.heap.size W w8) := HB7.out.trans (hb8.mono HB7.out.size)
              have HH8 : Hid (w8.heap[W.heap.size]? = some (.cells #[.int .i64 k, .string ⟨nm.toArray⟩, .string ⟨to.toArray⟩, .slice ba b.length bcp, .int .i64 n, .slice ka ks.length kcp, .int .i64 e0] 26)) := (hb8.block _ (Array.getElem?_eq_some_iff.1 HH7.out).1).trans HH7.out
              clear hb8
              have x0 := cell_of HH8.out 0 _ rfl
              have x1 := cell_of HH8.out 1 _ rfl
              have x2 := cell_of HH8.out 2 _ rfl
              have x3 := cell_of HH8.out 3 _ rfl
              have x4 := cell_of HH8.out 4 _ rfl
              have x5 := cell_of HH8.out 5 _ rfl
              have x6 := cell_of HH8.out 6 _ rfl
              go_wp2_with fail
              have HCC8 : Hid (Calls Try.prog 11 #[.pointer (some ⟨g2, 0, none⟩), .agg #[.int .i64 k, .string ⟨nm.toArray⟩, .string ⟨to.toArray⟩, .slice ba b.length bcp, .int .i64 n, .slice ka ks.length kcp, .int .i64 e0]] w8 fun e w' => e = .returned (.int .i64 (sfCall (sfCall (sfG S EE) O).2 O).1) ∧ (FamX w' W.heap.size [(.pointer (some ⟨g1, 0, none⟩), (sfCall S O).2), (.pointer (some ⟨g2, 0, none⟩), (sfCall (sfCall (sfG S EE) O).2 O).2), (.pointer (some ⟨g3, 0, none⟩), S)] (fun k => k = W.heap.size)) ∧ Below W.heap.size w8 w' ∧ ∀ k, k = W.heap.size → w'.heap[k]? = w8.heap[k]?) := HX8.out.opc HCL.out HB8.out HLF.out 1 (by simp) (by show (sfCall (sfG S EE) O).2.pend.length < _; have := HPN.out; have h2 := sfCall_pend (sfG S EE) O; have h3 : (sfG S EE).pend = S.pend := rfl; rw [h3] at h2; omega)
              refine HCC8.out.mono ?_
              rintro e w9 ⟨rfl, hx9, hb9, -⟩
              have HX9 : Hid (FamX w9 W.heap.size [(.pointer (some ⟨g1, 0, none⟩), (sfCall S O).2), (.pointer (some ⟨g2, 0, none⟩), (sfCall (sfCall (sfG S EE) O).2 O).2), (.pointer (some ⟨g3, 0, none⟩), S)] (fun k => k = W.heap.size)) := hx9
              have HB9 : Hid (Below W.heap.size W w9) := HB8.out.trans hb9
              clear hx9 hb9 x0 x1 x2 x3 x4 x5 x6
              rw [HZ3.out]
              go_wp2_with fail
              refine (alive11_any w9).mono ?_
              rintro e wa ⟨rfl, hba⟩
              have HBa : Hid (Below W.heap.size W wa) := HB9.out.trans (hba.mono HB9.out.size)
              have HXa : Hid (FamX wa W.heap.size [(.pointer (some ⟨g1, 0, none⟩), (sfCall S O).2), (.pointer (some ⟨g2, 0, none⟩), (sfCall (sfCall (sfG S EE) O).2 O).2), (.pointer (some ⟨g3, 0, none⟩), S)] (fun k => k = W.heap.size)) := (HX9.out.below hba).less (fun k q => .inl q)
              clear hba
              go_wp2_with fail
              refine (HXa.out.fam.same 0 1 (by simp) (by simp) HZ4.out.symm).mono ?_
              rintro e wb ⟨rfl, hbb⟩
              go_wp2_with fail
              go_ret
              exact ⟨rfl, HBa.out.trans (hbb.mono HBa.out.size)⟩
            · obtain ⟨z1, z2, z3⟩ := HRF.out.1 (fun q => hC (HC.out.trans q))
              simp only at z1 z2 z3
              rw [← HC.out] at z2
              have iC : (C == 0) = false := by simpa using hC
              have jC : (C != 0) = true := by simpa using hC
              have HZ1 : Hid (sfView (sfCall S O).2 = sfView S) := z1
              have HZ3 : Hid (sfView (sfCall (sfG S EE) O).2 = sfView S) := z3
              have HZ2 : Hid ((sfCall (sfG S EE) O).1 = C) := z2
              clear z1 z2 z3 hC
              go_wp2_with fail
              refine (HX5.out.fam.same 0 1 (by simp) (by simp) HZ1.out).mono ?_
              rintro e w6 ⟨rfl, hb6⟩
              have HX6 : Hid (FamX w6 W.heap.size [(.pointer (some ⟨g1, 0, none⟩), (sfCall S O).2), (.pointer (some ⟨g2, 0, none⟩), S), (.pointer (some ⟨g3, 0, none⟩), S)] (fun k => k = W.heap.size)) := (HX5.out.below hb6).less (fun k q => .inl q)
              have HB6 : Hid (Below W.heap.size W w6) := HB5.out.trans (hb6.mono HB5.out.size)
              have HH6 : Hid (w6.heap[W.heap.size]? = some (.cells #[.int .i64 k, .string ⟨nm.toArray⟩, .string ⟨to.toArray⟩, .slice ba b.length bcp, .int .i64 n, .slice ka ks.length kcp, .int .i64 e0] 26)) := (hb6.block _ (Array.getElem?_eq_some_iff.1 HH5.out).1).trans HH5.out
              clear hb6
              go_wp2_with fail
              refine (HFL.out w6 HX6.out).mono ?_
              rintro e w7 ⟨rfl, hx7, hb7, hk7⟩
              have HX7 : Hid (FamX w7 W.heap.size [(.pointer (some ⟨g1, 0, none⟩), (sfCall S O).2), (.pointer (some ⟨g2, 0, none⟩), sfG S EE), (.pointer (some ⟨g3, 0, none⟩), S)] (fun k => k = W.heap.size)) := hx7
              have HB7 : Hid (Below W.heap.size W w7) := HB6.out.trans hb7
              have HH7 : Hid (w7.heap[W.heap.size]? = some (.cells #[.int .i64 k, .string ⟨nm.toArray⟩, .string ⟨to.toArray⟩, .slice ba b.length bcp, .int .i64 n, .slice ka ks.length kcp, .int .i64 e0] 26)) := (hk7 _ rfl).trans HH6.out
              clear hx7 hb7 hk7
              have x0 := cell_of HH7.out 0 _ rfl
              have x1 := cell_of HH7.out 1 _ rfl
              have x2 := cell_of HH7.out 2 _ rfl
              have x3 := cell_of HH7.out 3 _ rfl
              have x4 := cell_of HH7.out 4 _ rfl
              have x5 := cell_of HH7.out 5 _ rfl
              have x6 := cell_of HH7.out 6 _ rfl
              go_wp2_with fail
              have HCC7 : Hid (Calls Try.prog 11 #[.pointer (some ⟨g2, 0, none⟩), .agg #[.int .i64 k, .string ⟨nm.toArray⟩, .string ⟨to.toArray⟩, .slice ba b.length bcp, .int .i64 n, .slice ka ks.length kcp, .int .i64 e0]] w7 fun e w' => e = .returned (.int .i64 (sfCall (sfG S EE) O).1) ∧ (FamX w' W.heap.size [(.pointer (some ⟨g1, 0, none⟩), (sfCall S O).2), (.pointer (some ⟨g2, 0, none⟩), (sfCall (sfG S EE) O).2), (.pointer (some ⟨g3, 0, none⟩), S)] (fun k => k = W.heap.size)) ∧ Below W.heap.size w7 w' ∧ ∀ k, k = W.heap.size → w'.heap[k]? = w7.heap[k]?) := HX7.out.opc HCL.out HB7.out HLF.out 1 (by simp) (by show S.pend.length < _; have := HPN.out; omega)
              refine HCC7.out.mono ?_
              rintro e w8 ⟨rfl, hx8, hb8, -⟩
              have HX8 : Hid (FamX w8 W.heap.size [(.pointer (some ⟨g1, 0, none⟩), (sfCall S O).2), (.pointer (some ⟨g2, 0, none⟩), (sfCall (sfG S EE) O).2), (.pointer (some ⟨g3, 0, none⟩), S)] (fun k => k = W.heap.size)) := hx8
              have HB8 : Hid (Below W.heap.size W w8) := HB7.out.trans hb8
              clear hx8 hb8 x0 x1 x2 x3 x4 x5 x6
              rw [HZ2.out]
              go_wp2_with fail
              refine (alive11_any w8).mono ?_
              rintro e wa ⟨rfl, hba⟩
              have HBa : Hid (Below W.heap.size W wa) := HB8.out.trans (hba.mono HB8.out.size)
              have HXa : Hid (FamX wa W.heap.size [(.pointer (some ⟨g1, 0, none⟩), (sfCall S O).2), (.pointer (some ⟨g2, 0, none⟩), (sfCall (sfG S EE) O).2), (.pointer (some ⟨g3, 0, none⟩), S)] (fun k => k = W.heap.size)) := (HX8.out.below hba).less (fun k q => .inl q)
              clear hba
              go_wp2_with fail
              refine (HXa.out.fam.same 1 2 (by simp) (by simp) HZ3.out).mono ?_
              rintro e wb ⟨rfl, hbb⟩
              go_wp2_with fail
              go_ret
              exact ⟨rfl, HBa.out.trans (hbb.mono HBa.out.size)⟩
          | false =>
            simp only [Bool.false_eq_true, if_false] at HEE
            have HE : Hid (EE = 81) := HEE.out
            clear HEE HE2
            go_wp2_with fail
            have HCC4 : Hid (Calls Try.prog 11 #[.pointer (some ⟨g1, 0, none⟩), .agg #[.int .i64 k, .string ⟨nm.toArray⟩, .string ⟨to.toArray⟩, .slice ba b.length bcp, .int .i64 n, .slice ka ks.length kcp, .int .i64 e0]] w4 fun e w' => e = .returned (.int .i64 (sfCall S O).1) ∧ (FamX w' W.heap.size [(.pointer (some ⟨g1, 0, none⟩), (sfCall S O).2), (.pointer (some ⟨g2, 0, none⟩), S), (.pointer (some ⟨g3, 0, none⟩), S)] (fun k => k = W.heap.size)) ∧ Below W.heap.size w4 w' ∧ ∀ k, k = W.heap.size → w'.heap[k]? = w4.heap[k]?) := HX4.out.opc HCL.out HB4.out HLF.out 0 (by simp) (by show S.pend.length < _; have := HPN.out; omega)
            refine HCC4.out.mono ?_
            rintro e w5 ⟨rfl, hx5, hb5, hk5'⟩
            have HX5 : Hid (FamX w5 W.heap.size [(.pointer (some ⟨g1, 0, none⟩), (sfCall S O).2), (.pointer (some ⟨g2, 0, none⟩), S), (.pointer (some ⟨g3, 0, none⟩), S)] (fun k => k = W.heap.size)) := hx5
            have HB5 : Hid (Below W.heap.size W w5) := HB4.out.trans hb5
            have HH5 : Hid (w5.heap[W.heap.size]? = some (.cells #[.int .i64 k, .string ⟨nm.toArray⟩, .string ⟨to.toArray⟩, .slice ba b.length bcp, .int .i64 n, .slice ka ks.length kcp, .int .i64 e0] 26)) := (hk5' _ rfl).trans HH4.out
            clear hx5 hb5 hk5' x0 x1 x2 x3 x4 x5 x6
            obtain ⟨C, HC⟩ := hid_ex (sfCall S O).1
            rw [← HC.out]
            have HFL : Hid (∀ w, (FamX w W.heap.size [(.pointer (some ⟨g1, 0, none⟩), (sfCall S O).2), (.pointer (some ⟨g2, 0, none⟩), S), (.pointer (some ⟨g3, 0, none⟩), S)] (fun k => k = W.heap.size)) → Calls Try.prog 18 #[.pointer (some ⟨g2, 0, none⟩), .int .i64 0, .int .i64 81] w fun e w' => e = .returned (.int .i64 0) ∧ (FamX w' W.heap.size [(.pointer (some ⟨g1, 0, none⟩), (sfCall S O).2), (.pointer (some ⟨g2, 0, none⟩), sfG S EE), (.pointer (some ⟨g3, 0, none⟩), S)] (fun k => k = W.heap.size)) ∧ Below W.heap.size w w' ∧ ∀ k, k = W.heap.size → w'.heap[k]? = w.heap[k]?) := fun w hx => by
              have := hx.call 1 (by simp) (F := 18) (args := #[.pointer (some ⟨g2, 0, none⟩), .int .i64 0, .int .i64 81]) (r := sfFail S 0 81) (fun O' hf _ _ => hf.fail 0 81 (by decide))
              have e1 : sfFail S 0 81 = (0, sfG S EE) := by rw [HE.out]; rfl
              rw [e1] at this
              exact this
            by_cases hC : C = 0
            · have HC0 : Hid (C = 0) := hC
              obtain ⟨z1, z2, z3, z4⟩ := HRF.out.2 (HC.out.symm.trans hC)
              simp only at z1 z2 z3 z4
              subst hC
              go_wp2_with fail
              refine (HFL.out w5 HX5.out).mono ?_
              rintro e w6 ⟨rfl, hx6, hb6, hk6⟩
              have HX6 : Hid (FamX w6 W.heap.size [(.pointer (some ⟨g1, 0, none⟩), (sfCall S O).2), (.pointer (some ⟨g2, 0, none⟩), sfG S EE), (.pointer (some ⟨g3, 0, none⟩), S)] (fun k => k = W.heap.size)) := hx6
              have HB6 : Hid (Below W.heap.size W w6) := HB5.out.trans hb6
              have HH6 : Hid (w6.heap[W.heap.size]? = some (.cells #[.int .i64 k, .string ⟨nm.toArray⟩, .string ⟨to.toArray⟩, .slice ba b.length bcp, .int .i64 n, .slice ka ks.length kcp, .int .i64 e0] 26)) := (hk6 _ rfl).trans HH5.out
              clear hx6 hb6 hk6
              have x0 := cell_of HH6.out 0 _ rfl
              have x1 := cell_of HH6.out 1 _ rfl
              have x2 := cell_of HH6.out 2 _ rfl
              have x3 := cell_of HH6.out 3 _ rfl
              have x4 := cell_of HH6.out 4 _ rfl
              have x5 := cell_of HH6.out 5 _ rfl
              have x6 := cell_of HH6.out 6 _ rfl
              go_wp2_with fail
              have HCC6 : Hid (Calls Try.prog 11 #[.pointer (some ⟨g2, 0, none⟩), .agg #[.int .i64 k, .string ⟨nm.toArray⟩, .string ⟨to.toArray⟩, .slice ba b.length bcp, .int .i64 n, .slice ka ks.length kcp, .int .i64 e0]] w6 fun e w' => e = .returned (.int .i64 (sfCall (sfG S EE) O).1) ∧ (FamX w' W.heap.size [(.pointer (some ⟨g1, 0, none⟩), (sfCall S O).2), (.pointer (some ⟨g2, 0, none⟩), (sfCall (sfG S EE) O).2), (.pointer (some ⟨g3, 0, none⟩), S)] (fun k => k = W.heap.size)) ∧ Below W.heap.size w6 w' ∧ ∀ k, k = W.heap.size → w'.heap[k]? = w6.heap[k]?) := HX6.out.opc HCL.out HB6.out HLF.out 1 (by simp) (by show S.pend.length < _; have := HPN.out; omega)
              refine HCC6.out.mono ?_
              rintro e w7 ⟨rfl, hx7, hb7, hk7⟩
              have HX7 : Hid (FamX w7 W.heap.size [(.pointer (some ⟨g1, 0, none⟩), (sfCall S O).2), (.pointer (some ⟨g2, 0, none⟩), (sfCall (sfG S EE) O).2), (.pointer (some ⟨g3, 0, none⟩), S)] (fun k => k = W.heap.size)) := hx7
              have HB7 : Hid (Below W.heap.size W w7) := HB6.out.trans hb7
              have HH7 : Hid (w7.heap[W.heap.size]? = some (.cells #[.int .i64 k, .string ⟨nm.toArray⟩, .string ⟨to.toArray⟩, .slice ba b.length bcp, .int .i64 n, .slice ka ks.length kcp, .int .i64 e0] 26)) := (hk7 _ rfl).trans HH6.out
              clear hx7 hb7 hk7 x0 x1 x2 x3 x4 x5 x6
              rw [z1, HE.out]
              have HZ2 : Hid (sfView (sfCall (sfG S EE) O).2 = sfView S) := z2
              have HZ3 : Hid ((sfCall (sfCall (sfG S EE) O).2 O).1 = 0) := z3
              have HZ4 : Hid (sfView (sfCall (sfCall (sfG S EE) O).2 O).2 = sfView (sfCall S O).2) := z4
              clear z1 z2 z3 z4
              go_wp2_with fail
              refine (HX7.out.fam.same 1 2 (by simp) (by simp) HZ2.out).mono ?_
              rintro e w8 ⟨rfl, hb8⟩
              have HX8 : Hid (FamX w8 W.heap.size [(.pointer (some ⟨g1, 0, none⟩), (sfCall S O).2), (.pointer (some ⟨g2, 0, none⟩), (sfCall (sfG S EE) O).2), (.pointer (some ⟨g3, 0, none⟩), S)] (fun k => k = W.heap.size)) := (HX7.out.below hb8).less (fun k q => .inl q)
              have HB8 : Hid (Below W.heap.size W w8) := HB7.out.trans (hb8.mono HB7.out.size)
              have HH8 : Hid (w8.heap[W.heap.size]? = some (.cells #[.int .i64 k, .string ⟨nm.toArray⟩, .string ⟨to.toArray⟩, .slice ba b.length bcp, .int .i64 n, .slice ka ks.length kcp, .int .i64 e0] 26)) := (hb8.block _ (Array.getElem?_eq_some_iff.1 HH7.out).1).trans HH7.out
              clear hb8
              have x0 := cell_of HH8.out 0 _ rfl
              have x1 := cell_of HH8.out 1 _ rfl
              have x2 := cell_of HH8.out 2 _ rfl
              have x3 := cell_of HH8.out 3 _ rfl
              have x4 := cell_of HH8.out 4 _ rfl
              have x5 := cell_of HH8.out 5 _ rfl
              have x6 := cell_of HH8.out 6 _ rfl
              go_wp2_with fail
              have HCC8 : Hid (Calls Try.prog 11 #[.pointer (some ⟨g2, 0, none⟩), .agg #[.int .i64 k, .string ⟨nm.toArray⟩, .string ⟨to.toArray⟩, .slice ba b.length bcp, .int .i64 n, .slice ka ks.length kcp, .int .i64 e0]] w8 fun e w' => e = .returned (.int .i64 (sfCall (sfCall (sfG S EE) O).2 O).1) ∧ (FamX w' W.heap.size [(.pointer (some ⟨g1, 0, none⟩), (sfCall S O).2), (.pointer (some ⟨g2, 0, none⟩), (sfCall (sfCall (sfG S EE) O).2 O).2), (.pointer (some ⟨g3, 0, none⟩), S)] (fun k => k = W.heap.size)) ∧ Below W.heap.size w8 w' ∧ ∀ k, k = W.heap.size → w'.heap[k]? = w8.heap[k]?) := HX8.out.opc HCL.out HB8.out HLF.out 1 (by simp) (by show (sfCall (sfG S EE) O).2.pend.length < _; have := HPN.out; have h2 := sfCall_pend (sfG S EE) O; have h3 : (sfG S EE).pend = S.pend := rfl; rw [h3] at h2; omega)
              refine HCC8.out.mono ?_
              rintro e w9 ⟨rfl, hx9, hb9, -⟩
              have HX9 : Hid (FamX w9 W.heap.size [(.pointer (some ⟨g1, 0, none⟩), (sfCall S O).2), (.pointer (some ⟨g2, 0, none⟩), (sfCall (sfCall (sfG S EE) O).2 O).2), (.pointer (some ⟨g3, 0, none⟩), S)] (fun k => k = W.heap.size)) := hx9
              have HB9 : Hid (Below W.heap.size W w9) := HB8.out.trans hb9
              clear hx9 hb9 x0 x1 x2 x3 x4 x5 x6
              rw [HZ3.out]
              go_wp2_with fail
              refine (alive11_any w9).mono ?_
              rintro e wa ⟨rfl, hba⟩
              have HBa : Hid (Below W.heap.size W wa) := HB9.out.trans (hba.mono HB9.out.size)
              have HXa : Hid (FamX wa W.heap.size [(.pointer (some ⟨g1, 0, none⟩), (sfCall S O).2), (.pointer (some ⟨g2, 0, none⟩), (sfCall (sfCall (sfG S EE) O).2 O).2), (.pointer (some ⟨g3, 0, none⟩), S)] (fun k => k = W.heap.size)) := (HX9.out.below hba).less (fun k q => .inl q)
              clear hba
              go_wp2_with fail
              refine (HXa.out.fam.same 0 1 (by simp) (by simp) HZ4.out.symm).mono ?_
              rintro e wb ⟨rfl, hbb⟩
              go_wp2_with fail
              go_ret
              exact ⟨rfl, HBa.out.trans (hbb.mono HBa.out.size)⟩
            · obtain ⟨z1, z2, z3⟩ := HRF.out.1 (fun q => hC (HC.out.trans q))
              simp only at z1 z2 z3
              rw [← HC.out] at z2
              have iC : (C == 0) = false := by simpa using hC
              have jC : (C != 0) = true := by simpa using hC
              have HZ1 : Hid (sfView (sfCall S O).2 = sfView S) := z1
              have HZ3 : Hid (sfView (sfCall (sfG S EE) O).2 = sfView S) := z3
              have HZ2 : Hid ((sfCall (sfG S EE) O).1 = C) := z2
              clear z1 z2 z3 hC
              go_wp2_with fail
              refine (HX5.out.fam.same 0 1 (by simp) (by simp) HZ1.out).mono ?_
              rintro e w6 ⟨rfl, hb6⟩
              have HX6 : Hid (FamX w6 W.heap.size [(.pointer (some ⟨g1, 0, none⟩), (sfCall S O).2), (.pointer (some ⟨g2, 0, none⟩), S), (.pointer (some ⟨g3, 0, none⟩), S)] (fun k => k = W.heap.size)) := (HX5.out.below hb6).less (fun k q => .inl q)
              have HB6 : Hid (Below W.heap.size W w6) := HB5.out.trans (hb6.mono HB5.out.size)
              have HH6 : Hid (w6.heap[W.heap.size]? = some (.cells #[.int .i64 k, .string ⟨nm.toArray⟩, .string ⟨to.toArray⟩, .slice ba b.length bcp, .int .i64 n, .slice ka ks.length kcp, .int .i64 e0] 26)) := (hb6.block _ (Array.getElem?_eq_some_iff.1 HH5.out).1).trans HH5.out
              clear hb6
              go_wp2_with fail
              refine (HFL.out w6 HX6.out).mono ?_
              rintro e w7 ⟨rfl, hx7, hb7, hk7⟩
              have HX7 : Hid (FamX w7 W.heap.size [(.pointer (some ⟨g1, 0, none⟩), (sfCall S O).2), (.pointer (some ⟨g2, 0, none⟩), sfG S EE), (.pointer (some ⟨g3, 0, none⟩), S)] (fun k => k = W.heap.size)) := hx7
              have HB7 : Hid (Below W.heap.size W w7) := HB6.out.trans hb7
              have HH7 : Hid (w7.heap[W.heap.size]? = some (.cells #[.int .i64 k, .string ⟨nm.toArray⟩, .string ⟨to.toArray⟩, .slice ba b.length bcp, .int .i64 n, .slice ka ks.length kcp, .int .i64 e0] 26)) := (hk7 _ rfl).trans HH6.out
              clear hx7 hb7 hk7
              have x0 := cell_of HH7.out 0 _ rfl
              have x1 := cell_of HH7.out 1 _ rfl
              have x2 := cell_of HH7.out 2 _ rfl
              have x3 := cell_of HH7.out 3 _ rfl
              have x4 := cell_of HH7.out 4 _ rfl
              have x5 := cell_of HH7.out 5 _ rfl
              have x6 := cell_of HH7.out 6 _ rfl
              go_wp2_with fail
              have HCC7 : Hid (Calls Try.prog 11 #[.pointer (some ⟨g2, 0, none⟩), .agg #[.int .i64 k, .string ⟨nm.toArray⟩, .string ⟨to.toArray⟩, .slice ba b.length bcp, .int .i64 n, .slice ka ks.length kcp, .int .i64 e0]] w7 fun e w' => e = .returned (.int .i64 (sfCall (sfG S EE) O).1) ∧ (FamX w' W.heap.size [(.pointer (some ⟨g1, 0, none⟩), (sfCall S O).2), (.pointer (some ⟨g2, 0, none⟩), (sfCall (sfG S EE) O).2), (.pointer (some ⟨g3, 0, none⟩), S)] (fun k => k = W.heap.size)) ∧ Below W.heap.size w7 w' ∧ ∀ k, k = W.heap.size → w'.heap[k]? = w7.heap[k]?) := HX7.out.opc HCL.out HB7.out HLF.out 1 (by simp) (by show S.pend.length < _; have := HPN.out; omega)
              refine HCC7.out.mono ?_
              rintro e w8 ⟨rfl, hx8, hb8, -⟩
              have HX8 : Hid (FamX w8 W.heap.size [(.pointer (some ⟨g1, 0, none⟩), (sfCall S O).2), (.pointer (some ⟨g2, 0, none⟩), (sfCall (sfG S EE) O).2), (.pointer (some ⟨g3, 0, none⟩), S)] (fun k => k = W.heap.size)) := hx8
              have HB8 : Hid (Below W.heap.size W w8) := HB7.out.trans hb8
              clear hx8 hb8 x0 x1 x2 x3 x4 x5 x6
              rw [HZ2.out]
              go_wp2_with fail
              refine (alive11_any w8).mono ?_
              rintro e wa ⟨rfl, hba⟩
              have HBa : Hid (Below W.heap.size W wa) := HB8.out.trans (hba.mono HB8.out.size)
              have HXa : Hid (FamX wa W.heap.size [(.pointer (some ⟨g1, 0, none⟩), (sfCall S O).2), (.pointer (some ⟨g2, 0, none⟩), (sfCall (sfG S EE) O).2), (.pointer (some ⟨g3, 0, none⟩), S)] (fun k => k = W.heap.size)) := (HX8.out.below hba).less (fun k q => .inl q)
              clear hba
              go_wp2_with fail
              refine (HXa.out.fam.same 1 2 (by simp) (by simp) HZ3.out).mono ?_
              rintro e wb ⟨rfl, hbb⟩
              go_wp2_with fail
              go_ret
              exact ⟨rfl, HBa.out.trans (hbb.mono HBa.out.size)⟩
end Go.Proofs.Yteajfbgodfpioaa
