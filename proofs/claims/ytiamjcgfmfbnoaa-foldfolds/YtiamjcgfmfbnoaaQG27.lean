/- MA1 MA2 RQ2 RQ3, joined. -/
import Derived.Test.YtiamjcgfmfbnoaaQG9
import Derived.Test.YtiamjcgfmfbnoaaQG21
import Derived.Test.YtiamjcgfmfbnoaaQG26
import Derived.BigRegion
import Derived.Deep.RegionLaw
/- Where an entry is put. -/
namespace Go.Proofs.Ytiamjcgfmfbnoaa

theorem ins_behind (x : En) : ∀ (L : List En), (∀ y ∈ L, ltK y.1 x.1) → ins x L = L ++ [x]
  | [], _ => rfl
  | y :: L, h => by
    rw [ins_gt (h y (List.mem_cons_self ..)), ins_behind x L (fun z hz => h z (List.mem_cons_of_mem _ hz))]; rfl
theorem ins_into (x : En) : ∀ (A B : List En), (∀ y ∈ A, ltK y.1 x.1) → ins x (A ++ B) = A ++ ins x B
  | [], _, _ => rfl
  | y :: A, B, h => by
    rw [List.cons_append, ins_gt (h y (List.mem_cons_self ..)), ins_into x A B (fun z hz => h z (List.mem_cons_of_mem _ hz))]; rfl
theorem ins_same {x : En} {L : List En} {k : Nat} (hk : k < L.length) (h : ∀ y ∈ L.take k, ltK y.1 x.1) (e : x.1 = L[k].1) : ins x L = L.take k ++ (x.1, mrg x.2 L[k].2) :: L.drop (k + 1) := by
  conv => lhs; rw [← List.take_append_drop k L]
  rw [ins_into x _ _ h, List.drop_eq_getElem_cons hk, ins_eq e, e]
theorem ins_new {x : En} {L : List En} {k : Nat} (hk : k < L.length) (h : ∀ y ∈ L.take k, ltK y.1 x.1) (e : ltK x.1 L[k].1) : ins x L = L.take k ++ x :: L.drop k := by
  conv => lhs; rw [← List.take_append_drop k L]
  rw [ins_into x _ _ h, List.drop_eq_getElem_cons hk, ins_lt e]
/-- Entries that are put one behind the other. -/
def putA (M : List En) : List En := M.foldl (fun L x => ins x L) []
theorem putA_snoc (M : List En) (x : En) : putA (M ++ [x]) = ins x (putA M) := by simp [putA, List.foldl_append]
theorem putA_rev (M : List En) : putA M = can M.reverse := by
  unfold putA can ap
  rw [List.foldl_eq_foldr_reverse]
theorem putA_can {M : List En} (h : GdE M) : putA M = can M := by
  rw [putA_rev]
  exact can_perm (List.reverse_perm M) (fun y hy => h y (List.mem_reverse.1 hy))
end Go.Proofs.Ytiamjcgfmfbnoaa

/- Entries that are copied from row to row, with their keys' slices as they are. -/
namespace Go.Proofs.Ytiamjcgfmfbnoaa
open Go.RowKit

/-- A slice holds these entries. -/
def ERc (w : World) (v : Value) (xs : List Ev) : Prop :=
  ∃ a cap, v = .slice a xs.length cap ∧ xs.length ≤ cap ∧ cap ≤ maxLen ∧ (xs = [] ∨ ∃ b off, a = some ⟨b, off, none⟩ ∧ b < w.heap.size ∧ ∀ j (hj : j < xs.length) i (hi : i < 7), w.cell? ⟨b, off + (7 * j + i), none⟩ = some ((c7 xs[j])[i]'hi))
/-- What they hold can be read. -/
def EvR (w : World) (xs : List Ev) : Prop := ∀ x ∈ xs, Reads w x.kv x.k ∧ CnOk x.a
theorem EvR.below {w w' : World} {xs : List Ev} (h : EvR w xs) (hb : Below w.heap.size w w') : EvR w' xs := fun x hx => ⟨(h x hx).1.below hb, (h x hx).2⟩
theorem ERc.below {w w' : World} {v : Value} {xs : List Ev} (h : ERc w v xs) (hb : Below w.heap.size w w') : ERc w' v xs := by
  obtain ⟨a, cap, rfl, h1, h2, h3⟩ := h
  refine ⟨a, cap, rfl, h1, h2, ?_⟩
  rcases h3 with h3 | ⟨b, off, h4, h5, h6⟩
  · exact .inl h3
  · exact .inr ⟨b, off, h4, Nat.lt_of_lt_of_le h5 hb.size, fun j hj i hi => (hb.cell (p := ⟨b, off + (7 * j + i), none⟩) h5).trans (h6 j hj i hi)⟩
theorem ERc.of {w : World} {v : Value} {L : List En} (h : EReads w v L) : ∃ xs, ERc w v xs ∧ EvR w xs ∧ xs.map evE = L := by
  obtain ⟨a, cap, rfl, h1, h2, h3⟩ := h
  rcases h3 with rfl | ⟨b, off, rfl, h5, h6⟩
  · exact ⟨[], ⟨a, cap, rfl, h1, h2, .inl rfl⟩, (fun x hx => by cases hx), rfl⟩
  · have hall : ∀ j, ∃ kv : Value, ∀ hj : j < L.length, (∀ i (hi : i < 7), w.cell? ⟨b, off + (7 * j + i), none⟩ = some ((c7 ⟨kv, L[j].1, L[j].2⟩)[i]'hi)) ∧ Reads w kv L[j].1 ∧ CnOk L[j].2 := by
      intro j
      by_cases hj : j < L.length
      · obtain ⟨kv, g⟩ := h6 j hj
        exact ⟨kv, fun _ => g⟩
      · exact ⟨.bool false, fun h => absurd h hj⟩
    obtain ⟨ks, hks⟩ := Classical.axiomOfChoice hall
    have hl : (L.zipIdx.map fun p => (⟨ks p.2, p.1.1, p.1.2⟩ : Ev)).length = L.length := by simp
    have hg : ∀ j (hj : j < L.length), (L.zipIdx.map fun p => (⟨ks p.2, p.1.1, p.1.2⟩ : Ev))[j]'(by rw [hl]; exact hj) = ⟨ks j, L[j].1, L[j].2⟩ := by
      intro j hj; simp
    refine ⟨L.zipIdx.map fun p => ⟨ks p.2, p.1.1, p.1.2⟩, ⟨_, cap, by rw [hl], by rw [hl]; exact h1, h2, .inr ⟨b, off, rfl, h5, fun j hj i hi => ?_⟩⟩, fun x hx => ?_, ?_⟩
    · rw [hl] at hj
      rw [hg j hj]
      exact (hks j hj).1 i hi
    · obtain ⟨j, hj, rfl⟩ := List.getElem_of_mem hx
      rw [hl] at hj
      rw [hg j hj]
      exact (hks j hj).2
    · apply List.ext_getElem
      · simp
      · intro j h7 h8
        simp [evE]
theorem ERc.reads {w : World} {v : Value} {xs : List Ev} (h : ERc w v xs) (hr : EvR w xs) : EReads w v (xs.map evE) := by
  obtain ⟨a, cap, rfl, h1, h2, h3⟩ := h
  refine ⟨a, cap, by simp, by simpa using h1, h2, ?_⟩
  rcases h3 with rfl | ⟨b, off, h4, h5, h6⟩
  · exact .inl rfl
  · refine .inr ⟨b, off, h4, h5, fun j hj => ?_⟩
    simp at hj
    have e : (xs.map evE)[j]'(by simpa using hj) = evE xs[j] := by simp
    rw [e]
    exact ⟨xs[j].kv, fun i hi => h6 j hj i hi, (hr _ (List.getElem_mem hj)).1, (hr _ (List.getElem_mem hj)).2⟩
theorem ERc.form {w : World} {v : Value} {xs : List Ev} (h : ERc w v xs) : ∃ a cap, v = .slice a xs.length cap ∧ xs.length ≤ cap ∧ cap ≤ maxLen := by
  obtain ⟨a, cap, rfl, h1, h2, _⟩ := h
  exact ⟨a, cap, rfl, h1, h2⟩
theorem ERc.ptr {w : World} {a : Option Addr} {n cap : Nat} {xs : List Ev} (h : ERc w (.slice a n cap) xs) (h0 : 0 < xs.length) : ∃ b off, a = some ⟨b, off, none⟩ ∧ b < w.heap.size ∧ ∀ j (hj : j < xs.length) i (hi : i < 7), w.cell? ⟨b, off + (7 * j + i), none⟩ = some ((c7 xs[j])[i]'hi) := by
  obtain ⟨a', cap', hv, h1, h2, h3⟩ := h
  simp at hv
  obtain ⟨rfl, rfl, rfl⟩ := hv
  rcases h3 with rfl | h3
  · simp at h0
  · exact h3
theorem ERc.sliced {w : World} {a : Option Addr} {cap : Nat} {xs : List Ev} (h : ERc w (.slice a xs.length cap) xs) {c d : Nat} (hc : c ≤ d) (hd : d ≤ xs.length) : ERc w (Go.sliced a c d cap 7) ((xs.take d).drop c) := by
  obtain ⟨a', cap', hv, h1, h2, h3⟩ := h
  simp at hv
  obtain ⟨rfl, rfl⟩ := hv
  unfold Go.sliced
  have hl : ((xs.take d).drop c).length = d - c := by simp; omega
  refine ⟨_, cap - c, by rw [hl], by rw [hl]; omega, by omega, ?_⟩
  rcases Nat.eq_zero_or_pos (d - c) with h0 | h0
  · exact .inl (List.length_eq_zero_iff.1 (by rw [hl]; exact h0))
  · right
    rcases h3 with rfl | ⟨b, off, rfl, h5, h6⟩
    · simp at hd; omega
    · rw [if_neg (by omega)]
      refine ⟨b, off + c * 7, by simp [Addr.add], h5, fun j hj i hi => ?_⟩
      rw [hl] at hj
      rw [show off + c * 7 + (7 * j + i) = off + (7 * (c + j) + i) by omega, h6 (c + j) (by omega) i hi]
      congr 2
      simp
theorem elemEM : Try.prog.elem 25 = 43 := by kernel_rfl
theorem undEM : Try.prog.underlying 25 = some (.slice (Try.prog.elem 25)) := by rw [elemEM]; exact Try.underlying25
theorem sizeE7 (w : World) : (sizeOf 43).run Try.prog w = .ok 7 w := by
  simp [sizeOf]
  rfl
theorem esl_uptoM {w : World} {a : Option Addr} {cap : Nat} {xs : List Ev} (h : ERc w (.slice a xs.length cap) xs) {d : Nat} (hd : d ≤ xs.length) :
    ∃ a' cap', (∀ w', (Instr.slice 25 (.slice a xs.length cap) none (some (.int .i64 (d : Int))) none).run Try.prog w' = .ok (.slice a' d cap') w') ∧ ERc w (.slice a' d cap') (xs.take d) := by
  have hcap : xs.length ≤ cap := by obtain ⟨a', cap', hv, h1, _⟩ := h; simp at hv; omega
  have hs := h.sliced (Nat.zero_le d) hd
  refine ⟨(if cap = 0 then a else a.map (·.add (0 * 7))), cap - 0, fun w' => ?_, hs⟩
  rw [run_slice_h _ _ _ _ _ undEM _ _ (by omega) (by omega), elemEM, sizeE7]
  rfl
theorem esl_fromM {w : World} {a : Option Addr} {cap : Nat} {xs : List Ev} (h : ERc w (.slice a xs.length cap) xs) {c : Nat} (hc : c ≤ xs.length) :
    ∃ a' cap', (∀ w', (Instr.slice 25 (.slice a xs.length cap) (some (.int .i64 (c : Int))) none none).run Try.prog w' = .ok (.slice a' (xs.length - c) cap') w') ∧ ERc w (.slice a' (xs.length - c) cap') (xs.drop c) := by
  have hcap : xs.length ≤ cap := by obtain ⟨a', cap', hv, h1, _⟩ := h; simp at hv; omega
  have hs := h.sliced hc (Nat.le_refl _)
  rw [List.take_length] at hs
  refine ⟨(if cap = c then a else a.map (·.add (c * 7))), cap - c, fun w' => ?_, hs⟩
  rw [run_slice_l _ _ _ _ _ undEM _ _ (by omega) (by omega), elemEM, sizeE7]
  rfl
/-- A row of one's own. -/
def OwnE (w : World) (base : Nat) (v : Value) (xs : List Ev) : Prop := w.ownsRow base 43 7 v xs.length (xs.flatMap c7)
theorem OwnE.nil (w : World) (base : Nat) : OwnE w base (.slice none 0 0) [] := World.ownsRow_nil _ _ _ _
theorem OwnE.below {w w' : World} {base : Nat} {v : Value} {xs : List Ev} (h : OwnE w base v xs) (hb : Below w.heap.size w w') : OwnE w' base v xs := by
  have hlt := World.ownsRow.lt h
  obtain ⟨h1, h2⟩ := h
  refine ⟨h1, ?_⟩
  rcases h2 with h2 | ⟨g, cap, cur, hv, hg, hw, r⟩
  · exact .inl h2
  · exact .inr ⟨g, cap, cur, hv, hg, (hb.block g (hlt g (by rw [hv]; rfl)).2).trans hw, r⟩
theorem OwnE.rc {w : World} {base : Nat} {v : Value} {xs : List Ev} (h : OwnE w base v xs) : ERc w v xs := by
  have hlt := World.ownsRow.lt h
  have hr := h
  obtain ⟨h1, h2⟩ := h
  rcases h2 with ⟨rfl, h0⟩ | ⟨g, cap, cur, hv, hg, hw, hc, hm, hs, ht⟩
  · exact ⟨none, 0, by rw [h0], by omega, by simp, .inl (List.length_eq_zero_iff.1 h0)⟩
  · rw [hv] at hr
    refine ⟨_, cap, hv, hc, hm, .inr ⟨g, 0, rfl, (hlt g (by rw [hv]; rfl)).2, fun j hj i hi => ?_⟩⟩
    rw [show 0 + (7 * j + i) = 7 * j + i by omega, World.ownsRow.cellAt hr _ (by omega), flat7 xs j i hj hi, List.getElem?_eq_getElem hi]
theorem flat_len7 (xs : List Ev) : (xs.flatMap c7).length = xs.length * 7 := by
  induction xs with
  | nil => rfl
  | cons x xs ih => rw [List.flatMap_cons, List.length_append, ih, c7_len, List.length_cons]; omega
theorem infoE : (Try.prog.info? 43).map (fun i => (i.zero.map Value.cells, i.size, i.bytes)) = some (some #[.slice none 0 0, .int .u64 0, .bool false, .int .i64 0, .int .u64 0, .int .i64 0, .int .i64 0], 7, 72) := by kernel_rfl
theorem one_c7 {w : World} (xs : List Ev) (h : EvR w xs) : ∀ u ∈ xs.flatMap c7, u.oneCell' = true := by
  intro u hu
  obtain ⟨x, hx, hu⟩ := List.mem_flatMap.1 hu
  obtain ⟨a, cap, e, _⟩ := (h x hx).1.form
  unfold c7 at hu
  rw [e] at hu
  simp at hu
  rcases hu with rfl | rfl | rfl | rfl | rfl | rfl | rfl <;> rfl
/-- Entries behind those of one's own. -/
theorem run_appE {w : World} (base : Nat) (ty : TypeId) (v sv : Value) (xs ys : List Ev) (hown : OwnE w base v xs) (hs : ERc w sv ys) (hr : EvR w ys) (hlen : xs.length + ys.length ≤ 1000000000) (hbase : base ≤ w.heap.size) :
    ∃ v' w', (Builtin.append_ #[25, 25] ty #[v, sv]).run Try.prog w = .ok v' w' ∧ OwnE w' base v' (xs ++ ys) ∧ Below base w w' := by
  have hinf := infoE
  cases hi0 : Try.prog.info? 43 with
  | none => rw [hi0] at hinf; cases hinf
  | some i0 =>
    rw [hi0] at hinf
    simp only [Option.map_some, Option.some.injEq, Prod.mk.injEq] at hinf
    obtain ⟨hz0, hz1, hz2⟩ := hinf
    obtain ⟨z, hz, hzc⟩ := Option.map_eq_some_iff.1 hz0
    obtain ⟨a, cap, rfl, h1, h2, h3⟩ := hs
    have gen : ∀ ad : Addr, (∀ j u, (ys.flatMap c7)[j]? = some u → w.cell? (ad.add j) = some u) → ∃ v' w', (Builtin.append_ #[25, 25] ty #[v, .slice (some ad) ys.length cap]).run Try.prog w = .ok v' w' ∧ OwnE w' base v' (xs ++ ys) ∧ Below base w w' := by
      intro ad hnews
      obtain ⟨v', w', hrun, ho, hg, _⟩ := run_append_own (P := Try.prog) w base 25 ty 43 i0 z 7 72 Try.underlying25 hi0 hz hz1 hz2 (by rw [hzc]; rfl) (by decide) v xs.length (xs.flatMap c7) hown ad ys.length cap (ys.flatMap c7) (flat_len7 ys) hnews (one_c7 ys hr) (by simp [maxLen]; omega) (by omega) hbase
      refine ⟨v', w', hrun, ?_, (Below.refl _ _).grown hg hbase (own_block hown)⟩
      unfold OwnE
      rw [List.length_append, List.flatMap_append]
      exact ho
    rcases h3 with rfl | ⟨b, off, rfl, h5, h6⟩
    · cases a with
      | none =>
        refine ⟨v, w, ?_, by rw [List.append_nil]; exact hown, Below.refl _ _⟩
        rcases hown.2 with ⟨rfl, _⟩ | ⟨g, cap', cur, rfl, _, _, hnc, _⟩
        · simp [Builtin.append_, run_underlying Try.underlying25, sizeOf, typeInfo, hi0, Builtin.lenOf, Builtin.firstCells]
        · simp [Builtin.append_, run_underlying Try.underlying25, sizeOf, typeInfo, hi0, Builtin.lenOf, Builtin.firstCells, hnc, storeCells]
      | some ad => exact gen ad (fun j u hj => by simp at hj)
    · refine gen ⟨b, off, none⟩ (fun j u hj => ?_)
      have hjl : j < ys.length * 7 := by
        rw [← flat_len7]
        exact (List.getElem?_eq_some_iff.1 hj).1
      have ej : j = 7 * (j / 7) + j % 7 := by omega
      have hq : j / 7 < ys.length := by omega
      have hm : j % 7 < 7 := Nat.mod_lt _ (by decide)
      have ea : (⟨b, off, none⟩ : Addr).add j = ⟨b, off + j, none⟩ := by simp [Addr.add]
      rw [ej, flat7 ys _ _ hq hm, List.getElem?_eq_getElem (by rw [c7_len]; exact hm)] at hj
      rw [ea]
      have h7 := h6 (j / 7) hq (j % 7) hm
      rw [← ej] at h7
      rw [h7]; exact hj
end Go.Proofs.Ytiamjcgfmfbnoaa

/- The contract of the reference's Check (layer 15). -/
namespace Go.Proofs.Ytiamjcgfmfbnoaa
open Go.RowKit

def CkPost (R : Rl) (wm : Int) (L : List En) (w : World) (e : Ending) (w' : World) : Prop := e = .returned (.int .i64 (chkF R wm L)) ∧ Below w.heap.size w w'
theorem below_dn2 (w : World) (n : Nat) : Below w.heap.size w (w.drewN n) := below_drewN (Below.refl _ _) n
set_option maxRecDepth 100000 in
set_option maxHeartbeats 4000000 in
theorem refCheck_any (R : Rl) (wm : Int) (v : Value) (L : List En) (w : World) (hL : Lies R w.heap.size w) (hE : EReads w v L) (hl : L.length ≤ 100000) (hk : ∀ x ∈ L, x.1.length ≤ 1000) :
    Calls Try.prog 17 #[.agg #[.slice R.a R.len R.cap, .int .i64 R.kp], .int .i64 wm, v] w (CkPost R wm L w) := by
  have HE : Hid (EReads w v L) := hE
  have HL : Hid (Lies R w.heap.size w) := hL
  have HK : Hid (∀ x ∈ L, x.1.length ≤ 1000) := hk
  obtain ⟨a, cap, rfl, hm1, hm2⟩ := hE.form
  unfold maxLen at hm2
  clear hE hL hk
  obtain ⟨w1, HW1⟩ := hid_ex (w.alloc (.cells #[.slice R.a R.len R.cap, .int .i64 R.kp] 24))
  have HB1 : Hid (Below w.heap.size w w1) := by rw [HW1.out]; exact new_below _ _
  have HX1 : Hid (RBox R w.heap.size w1) := by rw [HW1.out]; exact RBox.new R w _
  go_enter Try.func17, Try.ntmps17
  go_wp2_with fail
  rw [← HW1.out]
  clear HW1
  refine (refRight_anyG R _ (HL.out.at HB1.out)).mono ?_
  rintro e w2 ⟨rfl, hb2⟩
  have HB2 : Hid (Below w.heap.size w w2) := HB1.out.trans (hb2.mono HB1.out.size)
  have HX2 : Hid (RBox R w.heap.size w2) := HX1.out.below hb2
  clear hb2 HX1 HB1
  by_cases hR : RightP R
  · have HR : Hid (RightP R) := hR
    rw [decide_eq_true hR]
    clear hR
    go_wp2_with fail
    refine (refTime_any wm _).mono ?_
    rintro e w3 ⟨rfl, rfl⟩
    cases hT : isT wm with
    | false =>
      have HEnd : Hid (Value.int .i64 (chkF R wm L) = .int .i64 1) := by
        unfold Hid
        have h1 : fE R 0 wm = 1 := by unfold fE; rw [if_pos HR.out, hT]; rfl
        rw [chkF_e (by rw [h1]; decide), h1]
      have HE2 : Hid (CkPost R wm L w (.returned (.int .i64 1)) w3) := ⟨by rw [HEnd.out], HB2.out⟩
      clear hT
      go_wp2_with fail
      go_ret
      exact HE2.out
    | true =>
      have HF : Hid (fE R 0 wm = 0) := fE_of HR.out (by decide) hT
      clear hT
      go_wp2_with fail
      go_loopw [7] (fun i wr => ∃ k : Nat, i = .int .i64 ((k + 1 : Nat) : Int) ∧ (k = 0 ∨ k + 1 ≤ L.length) ∧ Hid (((keysE L).take (k + 1)).Pairwise ltK) ∧ Hid (Below w.heap.size w wr) ∧ Hid (RBox R w.heap.size wr)) (fun i _ => L.length - (intOf i).toNat)
      case atStart =>
        refine ⟨0, rfl, .inl rfl, ?_, HB2, HX2⟩
        cases hk0 : keysE L with
        | nil => exact List.Pairwise.nil
        | cons x l => exact List.pairwise_singleton _ _
      case round =>
        obtain ⟨k, rfl, hk, HP, HB, HX⟩ := hrel
        clear HB2 HX2
        by_cases hlt : k + 1 < L.length
        · obtain ⟨b, off, cap', hv, hbw⟩ := eReads_some HE.out (by omega)
          simp at hv
          obtain ⟨rfl, rfl⟩ := hv
          obtain ⟨kv, hcw, hRw, _⟩ := eReads_at HE.out (k := k) (by omega) rfl
          obtain ⟨kv', hcw', hRw', _⟩ := eReads_at HE.out hlt rfl
          have c0 : wr.cell? ⟨b, off + k * 7, none⟩ = some kv := (HB.out.cell (p := ⟨b, off + k * 7, none⟩) hbw).trans (hcw 0 (by decide))
          have c1 : wr.cell? ⟨b, off + (k + 1) * 7, none⟩ = some kv' := (HB.out.cell (p := ⟨b, off + (k + 1) * 7, none⟩) hbw).trans (hcw' 0 (by decide))
          have HKL : Hid (k + 1 < (keysE L).length) := by unfold Hid keysE; simpa using hlt
          have HPN : Hid (ltK (L[k]'(by omega)).1 L[k + 1].1 → ((keysE L).take (k + 1 + 1)).Pairwise ltK) := fun h => pw_snoc HKL.out HP.out (fun h0 => by simpa [keysE] using h)
          have HBD : Hid (¬ ltK (L[k]'(by omega)).1 L[k + 1].1 → chkF R wm L = 50) := fun h => chkF_50 HF.out (srt_bad hlt h)
          have hR0 := hRw.below HB.out
          have hR1 := hRw'.below HB.out
          obtain ⟨Y, HY⟩ := hid_ex (L[k]'(by omega)).1
          obtain ⟨Z, HZ⟩ := hid_ex (L[k + 1]'hlt).1
          rw [← HY.out] at hR0 HPN HBD
          rw [← HZ.out] at hR1 HPN HBD
          obtain ⟨ay, cy, hkv, _⟩ := hR0.form
          subst hkv
          obtain ⟨az, cz, hkv, _⟩ := hR1.form
          subst hkv
          have HR0 : Hid (Reads wr (.slice ay Y.length cy) Y) := hR0
          have HR1 : Hid (Reads wr (.slice az Z.length cz) Z) := hR1
          have hq1 : ∀ n, (convert 36 9 (.slice ay Y.length cy)).run Try.prog (wr.drewN n) = .ok (.string ⟨Y.toArray⟩) (wr.drewN n) := fun n => reads_text (HR0.out.below (below_dn2 _ n))
          have hq2 : ∀ n, (convert 36 9 (.slice az Z.length cz)).run Try.prog (wr.drewN n) = .ok (.string ⟨Z.toArray⟩) (wr.drewN n) := fun n => reads_text (HR1.out.below (below_dn2 _ n))
          clear hcw hcw' hRw hRw' hR0 hR1 HKL HY HZ
          by_cases hlk : ltK Y Z
          · have hle : Op.bytesLess Y Z = true := (less_iff _ _).2 hlk
            have HPP : Hid _ := HPN.out hlk
            clear hlk HBD HPN
            go_wp2_with fail
            go_quiet (fail)
            have HB3 : Hid (Below w.heap.size w (wr.drewN nq)) := below_drewN HB.out nq
            have HX3 : Hid (RBox R w.heap.size (wr.drewN nq)) := HX.out
            clear c0 c1
            go_wp2_with fail
            go_roundw
            case rel => exact ⟨k + 1, by go_num, .inr (by omega), HPP, HB3, HX3⟩
            case measure => simp [intOf]; omega
          · have hle : Op.bytesLess Y Z = false := Bool.eq_false_iff.2 (fun h => hlk ((less_iff _ _).1 h))
            have H50 : Hid (chkF R wm L = 50) := HBD.out hlk
            clear hlk HBD HPN
            go_wp2_with fail
            go_quiet (fail)
            have HB3 : Hid (Below w.heap.size w (wr.drewN nq)) := below_drewN HB.out nq
            have HE3 : Hid (CkPost R wm L w (.returned (.int .i64 50)) (wr.drewN nq)) := ⟨by rw [H50.out], HB3.out⟩
            clear c0 c1
            go_wp2_with fail
            go_ret
            exact HE3.out
        · have HSR : Hid (SrtE L) := by
            have := HP.out
            rw [List.take_of_length_le (by unfold keysE; simp; omega)] at this
            exact this
          obtain ⟨r0, r1⟩ := HX.out.at
          have HLr : Hid (Lies R wr.heap.size wr) := HL.out.at HB.out
          have HEr : Hid (EReads wr (.slice a L.length cap) L) := HE.out.below HB.out
          go_wp2_with fail
          refine (refFits_any R _ L _ HLr.out HEr.out HK.out).mono ?_
          rintro e w4 ⟨rfl, hb4⟩
          have HB4 : Hid (Below w.heap.size w w4) := HB.out.trans (hb4.mono HB.out.size)
          by_cases hfl : FitL R L
          · have hfa : fitsA R L = true := fitsA_of ⟨fun _ => .inr ⟨HR.out, hfl⟩, fun _ => rfl⟩
            have H0 : Hid (chkF R wm L = 0) := chkF_of HF.out HSR.out hfl
            rw [hfa]
            have HE4 : Hid (CkPost R wm L w (.returned (.int .i64 0)) w4) := ⟨by rw [H0.out], HB4.out⟩
            clear hfl hfa hb4 r0 r1
            go_wp2_with fail
            go_ret
            exact HE4.out
          · have hfa : fitsA R L = false := by
              refine fitsA_of ⟨fun h => (by cases h), ?_⟩
              rintro (h | ⟨_, h⟩)
              · exact absurd (by rw [h]; intro x hx; cases hx) hfl
              · exact absurd h hfl
            have H3 : Hid (chkF R wm L = 3) := chkF_3 HF.out HSR.out hfl
            rw [hfa]
            have HE4 : Hid (CkPost R wm L w (.returned (.int .i64 3)) w4) := ⟨by rw [H3.out], HB4.out⟩
            clear hfl hfa hb4 r0 r1
            go_wp2_with fail
            go_ret
            exact HE4.out
  · have HEnd : Hid (chkF R wm L = 30) := by
      unfold Hid
      have h1 : fE R 0 wm = 30 := by unfold fE; rw [if_neg hR]
      rw [chkF_e (by rw [h1]; decide), h1]
    rw [decide_eq_false hR]
    have HE2 : Hid (CkPost R wm L w (.returned (.int .i64 30)) w2) := ⟨by rw [HEnd.out], HB2.out⟩
    clear hR
    go_wp2_with fail
    go_ret
    exact HE2.out
end Go.Proofs.Ytiamjcgfmfbnoaa

/- The contract of the reference's Key (layer 15). -/
namespace Go.Proofs.Ytiamjcgfmfbnoaa
open Go.RowKit

theorem set3 {w : World} {b : Nat} {T : TypeId} {x0 x1 x2 : Value} (h : w.heap[b]? = some (.cells #[x0, x1, x2] T)) (v : Value) : (w.setCell ⟨b, 1, none⟩ v).heap[b]? = some (.cells #[x0, v, x2] T) ∧ (w.setCell ⟨b, 2, none⟩ v).heap[b]? = some (.cells #[x0, x1, v] T) :=
  ⟨by simpa using Go.heap_setCell_same w b 1 _ _ v h, by simpa using Go.heap_setCell_same w b 2 _ _ v h⟩
theorem kfroz {w : World} {b : Nat} {x0 x1 x2 : Value} {t : TypeId} (h : w.heap[b]? = some (.cells #[x0, x1, x2] t)) : w.frozen? ⟨b, 1, none⟩ = false ∧ w.frozen? ⟨b, 2, none⟩ = false :=
  ⟨by simp [World.frozen?, h], by simp [World.frozen?, h]⟩
set_option maxRecDepth 100000 in
set_option maxHeartbeats 4000000 in
theorem refKey_any (R : Rl) (hR : RightP R) (wm : Int) (hwm : isT wm = true) (v : Value) (X : Ks) (D : List ByteArray) (f : Int) (g : Nat) (hrd : rdF X = some (D, f, (g : Int))) (hbg : Beg R f g) (w : World) (hL : Lies R w.heap.size w) (hRd : Reads w v X) (hxl : X.length ≤ 1000) :
    Calls Try.prog 18 #[.agg #[.slice R.a R.len R.cap, .int .i64 R.kp], .int .i64 wm, v] w fun e w' => ∃ v', e = .returned (.tuple #[v', .bool (!goneB R wm f)]) ∧ Own w' w.heap.size v' (kb D (flq R wm f g) ((stq R wm f g : Nat) : Int)) ∧ Below w.heap.size w w' := by
  have HRD : Hid (rdF X = some (D, f, (g : Int))) := hrd
  have HR : Hid (RightP R) := hR
  have HBG : Hid (Beg R f g) := hbg
  have HL : Hid (Lies R w.heap.size w) := hL
  have HRX : Hid (Reads w v X) := hRd
  have HF0 : Hid (fE R f wm = 0) := fE_of hR hbg.t hwm
  have HGN : Hid (exA R f wm = goneB R wm f) := by unfold Hid exA goneB; rw [if_pos HF0.out]
  have HST : Hid (IsStep R f wm (stp R f wm)) := stp_is hR f wm
  have hstl : stp R f wm < R.len := HST.out.1
  have hgl : g < R.len := hbg.gl
  have h4 : R.len ≤ 4 := hR.2.1
  have hq : stq R wm f g = max (stp R f wm) g := rfl
  have HNX : Hid (rightBK D (flq R wm f g) ((stq R wm f g : Nat) : Int) = true) := by have := right_next hR hrd (by rw [Int.toNat_natCast]; exact hgl) wm; rw [Int.toNat_natCast] at this; exact this
  have hfb := flq_bd hR hgl hbg.t wm
  have HFL : Hid (flq R wm f g = f - f % R.sz (stq R wm f g)) := rfl
  have HFV : Hid (floorV f (R.sz (stq R wm f g)) = .tuple #[.int .i64 (f - f % R.sz (stq R wm f g)), .int .i64 0]) := floor_fit hR hrd (stq_lt hR hgl)
  have hql : stq R wm f g < R.len := stq_lt hR hgl
  rw [← HFL.out] at HFV
  obtain ⟨fl, Hfl⟩ := hid_ex (flq R wm f g)
  obtain ⟨q, Hq⟩ := hid_ex (stq R wm f g)
  obtain ⟨K, HK⟩ := hid_ex (stp R f wm)
  rw [← Hfl.out] at HFV HNX hfb ⊢
  rw [← Hq.out] at HFV HNX hql hq ⊢
  rw [← HK.out] at hq hstl HST
  obtain ⟨s, Hs⟩ := hid_ex (R.sz q)
  rw [← Hs.out] at HFV
  obtain ⟨gn, Hgn⟩ := hid_ex (goneB R wm f)
  rw [← Hgn.out] at HGN ⊢
  clear hrd hR hbg hL hRd HFL Hfl Hq HK Hgn
  obtain ⟨av, cv, rfl, _⟩ := HRX.out.form
  obtain ⟨w1, HW1⟩ := hid_ex (w.alloc (.cells #[.slice R.a R.len R.cap, .int .i64 R.kp] 24))
  have HB1 : Hid (Below w.heap.size w w1) := by rw [HW1.out]; exact new_below _ _
  have HX1 : Hid (RBox R w.heap.size w1) := by rw [HW1.out]; exact RBox.new R w _
  have hs1 : w.heap.size < w1.heap.size := HX1.out.1
  go_enter Try.func18, Try.ntmps18
  go_wp2_with fail
  rw [← HW1.out]
  clear HW1
  refine (refRead_any _ X hxl _ (HRX.out.below HB1.out)).mono ?_
  rintro e w3 (⟨D', f', g', vd, hrd, rfl, hkl3, hb3⟩ | ⟨hrd, rfl, hb3⟩)
  · rw [HRD.out] at hrd
    simp only [Option.some.injEq, Prod.mk.injEq] at hrd
    obtain ⟨rfl, rfl, rfl⟩ := hrd
    have HB3 : Hid (Below w1.heap.size w1 w3) := hb3
    have hs3 : w1.heap.size ≤ w3.heap.size := hb3.size
    obtain ⟨va, vc, hvd, _⟩ := hkl3.r.form
    simp only at hvd
    subst hvd
    have HSR3 : Hid (SReads w3 (.slice va D.length vc) D) := hkl3.r
    obtain ⟨dn, Hdn⟩ := hid_ex D.length
    rw [← Hdn.out] at HSR3 ⊢
    obtain ⟨w4, HW4⟩ := hid_ex (w3.alloc (.cells #[.slice va dn vc, .int .i64 f, .int .i64 (g : Int)] 59))
    have hb4 : Below w3.heap.size w3 w4 := by rw [HW4.out]; exact new_below _ _
    have HY4 : Hid (w4.heap[w3.heap.size]? = some (.cells #[.slice va dn vc, .int .i64 f, .int .i64 (g : Int)] 59)) := by rw [HW4.out]; exact heap_alloc_new _ _
    have HB4 : Hid (Below w3.heap.size w3 w4) := hb4
    have HB4' : Hid (Below w1.heap.size w1 w4) := HB3.out.trans (hb4.mono HB3.out.size)
    obtain ⟨hx3, r0, r1⟩ := HX1.out.below HB3.out
    have HL4 : Hid (Lies R w4.heap.size w4) := HL.out.at (HB1.out.trans (HB4'.out.mono HB1.out.size))
    clear hkl3 hb3 hb4 Hdn
    go_wp2_with fail
    rw [← HW4.out]
    clear HW4
    refine (refExpired_any R f wm _ HL4.out).mono ?_
    rintro e w5 ⟨rfl, hb5⟩
    rw [HGN.out, HF0.out]
    have HB5 : Hid (Below w3.heap.size w3 w5) := HB4.out.trans (hb5.mono HB4.out.size)
    have HY5 : Hid (w5.heap[w3.heap.size]? = some (.cells #[.slice va dn vc, .int .i64 f, .int .i64 (g : Int)] 59)) := (hb5.block _ (Array.getElem?_eq_some_iff.1 HY4.out).1).trans HY4.out
    have HB5' : Hid (Below w1.heap.size w1 w5) := HB3.out.trans (HB5.out.mono HB3.out.size)
    clear hb5 r0 r1 HY4 HL4 HB4 HB4'
    obtain ⟨r0, r1⟩ := (HX1.out.below HB5'.out).at
    obtain ⟨k0, k1, k2⟩ := kcells HY5.out
    have HL5 : Hid (Lies R w5.heap.size w5) := HL.out.at (HB1.out.trans (HB5'.out.mono HB1.out.size))
    go_wp2_with fail
    refine (refStep_ok R f wm HF0.out K HST.out _ HL5.out).mono ?_
    rintro e w6 ⟨rfl, hb6⟩
    have HB6 : Hid (Below w3.heap.size w3 w6) := HB5.out.trans (hb6.mono HB5.out.size)
    have HY6 : Hid (w6.heap[w3.heap.size]? = some (.cells #[.slice va dn vc, .int .i64 f, .int .i64 (g : Int)] 59)) := (hb6.block _ (Array.getElem?_eq_some_iff.1 HY5.out).1).trans HY5.out
    clear hb6 r0 r1 k0 k1 k2 HY5 HL5 HB5 HB5'
    obtain ⟨k0, k1, k2⟩ := kcells HY6.out
    obtain ⟨f1, f2⟩ := kfroz HY6.out
    have HTL : Hid (∀ w7 : World, Below w3.heap.size w3 w7 → w7.heap[w3.heap.size]? = some (.cells #[.slice va dn vc, .int .i64 f, .int .i64 (q : Int)] 59) → RBox R w.heap.size w7 ∧ Lies R w7.heap.size w7 ∧ Below w.heap.size w w7 ∧ SReads w7 (.slice va dn vc) D) := fun w7 h1 _ => by
      have h2 : Below w1.heap.size w1 w7 := HB3.out.trans (h1.mono HB3.out.size)
      have h3 : Below w.heap.size w w7 := HB1.out.trans (h2.mono HB1.out.size)
      exact ⟨HX1.out.below h2, HL.out.at h3, h3, HSR3.out.below h1⟩
    by_cases hgt : (g : Int) < (K : Int)
    · have HY7 : Hid ((w6.setCell ⟨w3.heap.size, 2, none⟩ (.int .i64 (K : Int))).heap[w3.heap.size]? = some (.cells #[.slice va dn vc, .int .i64 f, .int .i64 (q : Int)] 59)) := by
        have h9 := (set3 HY6.out (.int .i64 (K : Int))).2
        rw [show q = K by omega]
        exact h9
      have HB7 : Hid (Below w3.heap.size w3 (w6.setCell ⟨w3.heap.size, 2, none⟩ (.int .i64 (K : Int)))) := HB6.out.setCell (Nat.le_refl _) _
      clear HY6 HB6
      go_wp2_with fail
      obtain ⟨w7, HW7⟩ := hid_ex (w6.setCell ⟨w3.heap.size, 2, none⟩ (.int .i64 (K : Int)))
      rw [← HW7.out] at HY7 HB7 ⊢
      clear k0 k1 k2 f1 f2 HW7 hgt
      obtain ⟨hX7, hL7, hB7, hS7⟩ := HTL.out w7 HB7.out HY7.out
      obtain ⟨r0, r1⟩ := hX7.at
      obtain ⟨k0, k1, k2⟩ := kcells HY7.out
      obtain ⟨f1, f2⟩ := kfroz HY7.out
      obtain ⟨rb, ro, ha, hrb, hsz0⟩ := HL.out.sz hql
      rw [ha] at r0
      rw [← Hs.out] at hsz0
      have hsz : w7.cell? ⟨rb, ro + q * 2, none⟩ = some (.int .i64 s) := (hB7.cell (p := ⟨rb, ro + q * 2, none⟩) hrb).trans hsz0
      have HS7 : Hid (SReads w7 (.slice va dn vc) D) := hS7
      have HBw7 : Hid (Below w.heap.size w w7) := hB7
      have hn1 : w3.heap.size ≠ w.heap.size := by omega
      have hn2 : w3.heap.size ≠ rb := by omega
      have hqi : (q : Int) < (R.len : Int) := by omega
      have HS8 : Hid ((w7.setCell ⟨w3.heap.size, 1, none⟩ (.int .i64 fl)).cell? ⟨w.heap.size, 0, none⟩ = some (.slice (some ⟨rb, ro, none⟩) R.len R.cap) ∧ (w7.setCell ⟨w3.heap.size, 1, none⟩ (.int .i64 fl)).cell? ⟨w3.heap.size, 2, none⟩ = some (.int .i64 (q : Int)) ∧ (w7.setCell ⟨w3.heap.size, 1, none⟩ (.int .i64 fl)).cell? ⟨rb, ro + q * 2, none⟩ = some (.int .i64 s)) :=
        ⟨(World.cell?_setCell_far w7 ⟨w3.heap.size, 1, none⟩ ⟨w.heap.size, 0, none⟩ _ hn1).trans r0, (kcells (set3 HY7.out (.int .i64 fl)).1).2.2, (World.cell?_setCell_far w7 ⟨w3.heap.size, 1, none⟩ ⟨rb, ro + q * 2, none⟩ _ hn2).trans hsz⟩
      have hqn : ¬ R.len ≤ q := by omega
      clear hX7 hL7 hB7 hS7 ha hrb hsz0 k0 r1 f2 hq
      refine wp_region_noPanic ?_
      refine wp_region_held_drew (S := (fun w' => w'.cell? ⟨w.heap.size, 0, none⟩ = some (.slice (some ⟨rb, ro, none⟩) R.len R.cap) ∧ w'.cell? ⟨w3.heap.size, 2, none⟩ = some (.int .i64 (q : Int)) ∧ w'.cell? ⟨rb, ro + q * 2, none⟩ = some (.int .i64 s))) (by kernel_rfl) ?_ (fun hHeld => ?_)
      · exact ⟨r0, k2, hsz⟩
      refine wpAnyH_take (i := 0) (v := .pointer (some ⟨w3.heap.size, 1, none⟩)) rfl (by kernel_rfl) (by kernel_rfl) (by kernel_rfl) (fun _ _ _ h => h) (Or.inl ⟨by rfl, ?_⟩) (by assumption) ?_
      · (intro w1 hSw; (try dsimp only at hSw); go_simp)
      simp only [List.getElem_toArray, List.getElem_cons_zero, Act.put, List.setIfInBounds_toArray, List.set_cons_zero, List.set_cons_succ]
      refine wpAnyH_take (i := 2) (v := .pointer (some ⟨w.heap.size, 0, none⟩)) rfl (by kernel_rfl) (by kernel_rfl) (by kernel_rfl) (fun _ _ _ h => h) (Or.inl ⟨by rfl, ?_⟩) (by assumption) ?_
      · (intro w1 hSw; (try dsimp only at hSw); go_simp)
      simp only [List.getElem_toArray, List.getElem_cons_succ, List.getElem_cons_zero, Act.put, List.setIfInBounds_toArray, List.set_cons_zero, List.set_cons_succ]
      refine wpAnyH_take (i := 3) (v := .slice (some ⟨rb, ro, none⟩) R.len R.cap) rfl (by kernel_rfl) (by kernel_rfl) (by kernel_rfl) (fun _ _ _ h => h) (Or.inl ⟨by rfl, ?_⟩) (by assumption) ?_
      · (intro w1 hSw; (try dsimp only at hSw); obtain ⟨h1, h2, h3⟩ := hSw; go_simp)
      simp only [List.getElem_toArray, List.getElem_cons_succ, List.getElem_cons_zero, Act.put, List.setIfInBounds_toArray, List.set_cons_zero, List.set_cons_succ]
      refine wpAnyH_take (i := 4) (v := .pointer (some ⟨w3.heap.size, 2, none⟩)) rfl (by kernel_rfl) (by kernel_rfl) (by kernel_rfl) (fun _ _ _ h => h) (Or.inl ⟨by rfl, ?_⟩) (by assumption) ?_
      · (intro w1 hSw; (try dsimp only at hSw); go_simp)
      simp only [List.getElem_toArray, List.getElem_cons_succ, List.getElem_cons_zero, Act.put, List.setIfInBounds_toArray, List.set_cons_zero, List.set_cons_succ]
      refine wpAnyH_take (i := 5) (v := .int .i64 (q : Int)) rfl (by kernel_rfl) (by kernel_rfl) (by kernel_rfl) (fun _ _ _ h => h) (Or.inl ⟨by rfl, ?_⟩) (by assumption) ?_
      · (intro w1 hSw; (try dsimp only at hSw); obtain ⟨h1, h2, h3⟩ := hSw; go_simp)
      simp only [List.getElem_toArray, List.getElem_cons_succ, List.getElem_cons_zero, Act.put, List.setIfInBounds_toArray, List.set_cons_zero, List.set_cons_succ]
      refine wpAnyH_take (i := 6) (v := .pointer (some ⟨rb, ro + q * 2, none⟩)) rfl (by kernel_rfl) (by kernel_rfl) (by kernel_rfl) (fun _ _ _ h => h) (Or.inl ⟨by rfl, ?_⟩) (by assumption) ?_
      · (intro w1 hSw; (try dsimp only at hSw); go_simp)
      simp only [List.getElem_toArray, List.getElem_cons_succ, List.getElem_cons_zero, Act.put, List.setIfInBounds_toArray, List.set_cons_zero, List.set_cons_succ]
      refine wpAnyH_take (i := 7) (v := .pointer (some ⟨rb, ro + q * 2, none⟩)) rfl (by kernel_rfl) (by kernel_rfl) (by kernel_rfl) (fun _ _ _ h => h) (Or.inl ⟨by rfl, ?_⟩) (by assumption) ?_
      · (intro w1 hSw; (try dsimp only at hSw); go_simp)
      simp only [List.getElem_toArray, List.getElem_cons_succ, List.getElem_cons_zero, Act.put, List.setIfInBounds_toArray, List.set_cons_zero, List.set_cons_succ]
      refine wpAnyH_take (i := 8) (v := .int .i64 s) rfl (by kernel_rfl) (by kernel_rfl) (by kernel_rfl) (fun _ _ _ h => h) (Or.inl ⟨by rfl, ?_⟩) (by assumption) ?_
      · (intro w1 hSw; (try dsimp only at hSw); obtain ⟨h1, h2, h3⟩ := hSw; go_simp)
      simp only [List.getElem_toArray, List.getElem_cons_succ, List.getElem_cons_zero, Act.put, List.setIfInBounds_toArray, List.set_cons_zero, List.set_cons_succ]
      refine wpAnyH_ready (rs := [1]) (by kernel_rfl) (by simp) ?_
      refine AllReadyH.cons (o := _) rfl (fun K hK => ?_) AllReadyH.nil
      go_simp
      refine hK.out _ _ ?_ (fun hHeld => ?_)
      · exact ⟨r0, k2, hsz⟩
      clear hK K
      refine wpAnyH_ready (rs := [9]) (by kernel_rfl) (by simp) ?_
      refine AllReadyH.cons (o := _) rfl (fun K hK => ?_) AllReadyH.nil
      go_simp
      refine (refFloor_any f s _).mono ?_
      rintro e w' ⟨rfl, rfl⟩
      rw [HFV.out]
      refine hK.out _ _ ?_ (fun hHeld => ?_)
      · exact ⟨r0, k2, hsz⟩
      clear hK K
      refine wpAnyH_take (i := 10) (v := .tuple #[.int .i64 fl, .int .i64 0]) rfl (by kernel_rfl) (by kernel_rfl) (by kernel_rfl) (fun _ _ _ h => h) (Or.inl ⟨by rfl, ?_⟩) (by assumption) ?_
      · (intro w1 hSw; (try dsimp only at hSw); go_simp)
      simp only [List.getElem_toArray, List.getElem_cons_succ, List.getElem_cons_zero, Act.put, List.setIfInBounds_toArray, List.set_cons_zero, List.set_cons_succ]
      refine wpAnyH_take (i := 11) (v := .int .i64 fl) rfl (by kernel_rfl) (by kernel_rfl) (by kernel_rfl) (fun _ _ _ h => h) (Or.inl ⟨by rfl, ?_⟩) (by assumption) ?_
      · (intro w1 hSw; (try dsimp only at hSw); go_simp)
      simp only [List.getElem_toArray, List.getElem_cons_succ, List.getElem_cons_zero, Act.put, List.setIfInBounds_toArray, List.set_cons_zero, List.set_cons_succ]
      refine wpAnyH_take (i := 12) (v := .int .i64 0) rfl (by kernel_rfl) (by kernel_rfl) (by kernel_rfl) (fun _ _ _ h => h) (Or.inl ⟨by rfl, ?_⟩) (by assumption) ?_
      · (intro w1 hSw; (try dsimp only at hSw); go_simp)
      simp only [List.getElem_toArray, List.getElem_cons_succ, List.getElem_cons_zero, Act.put, List.setIfInBounds_toArray, List.set_cons_zero, List.set_cons_succ]
      refine wpAnyH_take (i := 13) (v := .pointer (some ⟨w3.heap.size, 1, none⟩)) rfl (by kernel_rfl) (by kernel_rfl) (by kernel_rfl) (fun _ _ _ h => h) (Or.inl ⟨by rfl, ?_⟩) (by assumption) ?_
      · (intro w1 hSw; (try dsimp only at hSw); go_simp)
      simp only [List.getElem_toArray, List.getElem_cons_succ, List.getElem_cons_zero, Act.put, List.setIfInBounds_toArray, List.set_cons_zero, List.set_cons_succ]
      refine wpAnyH_ready (rs := [14]) (by kernel_rfl) (by simp) ?_
      refine AllReadyH.cons (o := _) rfl (fun K hK => ?_) AllReadyH.nil
      go_simp
      refine hK.out _ _ ?_ (fun hHeld => ?_)
      · exact HS8.out
      clear hK K
      clear hHeld
      refine wpAnyH_done (by kernel_rfl) ?_ _
      refine NoPanic.normal ?_
      obtain ⟨w8, HW8⟩ := hid_ex ((w7.setCell ⟨w3.heap.size, 1, none⟩ (.int .i64 fl)).drew)
      have HY8 : Hid (w8.heap[w3.heap.size]? = some (.cells #[.slice va dn vc, .int .i64 fl, .int .i64 (q : Int)] 59)) := by rw [HW8.out]; exact (set3 HY7.out (.int .i64 fl)).1
      have HB8 : Hid (Below w3.heap.size w3 w8) := by rw [HW8.out]; exact (HB7.out.setCell (Nat.le_refl _) _).drew
      have HBw8 : Hid (Below w.heap.size w w8) := by
        have h2 : Below w1.heap.size w1 w8 := HB3.out.trans (HB8.out.mono HB3.out.size)
        exact HB1.out.trans (h2.mono HB1.out.size)
      have HS8' : Hid (SReads w8 (.slice va dn vc) D) := HSR3.out.below HB8.out
      obtain ⟨j0, j1, j2⟩ := kcells HY8.out
      rw [← HW8.out]
      clear HW8 r0 k1 k2 f1 hsz HS8 HY7 HB7 HS7 HBw7 HY8 HB8
      go_wp2_with fail
      refine (refWrite_yes ⟨.slice va dn vc, D, fl, (q : Int)⟩ HNX.out _ ⟨HS8'.out, by simp only; omega, by simp only; omega, by simp only; omega, by simp only; omega⟩).mono ?_
      rintro e w9 ⟨v9, rfl, ho9, hb9⟩
      have HO9 : Hid (Own w9 w.heap.size v9 (kb D fl (q : Int))) := ho9.mono HBw8.out.size
      have HB9 : Hid (Below w.heap.size w w9) := HBw8.out.trans (hb9.mono HBw8.out.size)
      clear ho9 hb9 j0 j1 j2
      go_wp2_with fail
      go_ret2
      exact ⟨v9, rfl, HO9.out, HB9.out⟩
    · have HY7 : Hid (w6.heap[w3.heap.size]? = some (.cells #[.slice va dn vc, .int .i64 f, .int .i64 (q : Int)] 59)) := by
        rw [show q = g by omega]
        exact HY6.out
      have HB7 : Hid (Below w3.heap.size w3 w6) := HB6.out
      clear HY6 HB6
      go_wp2_with fail
      obtain ⟨w7, HW7⟩ := hid_ex w6
      rw [← HW7.out] at HY7 HB7 ⊢
      clear k0 k1 k2 f1 f2 HW7 hgt
      obtain ⟨hX7, hL7, hB7, hS7⟩ := HTL.out w7 HB7.out HY7.out
      obtain ⟨r0, r1⟩ := hX7.at
      obtain ⟨k0, k1, k2⟩ := kcells HY7.out
      obtain ⟨f1, f2⟩ := kfroz HY7.out
      obtain ⟨rb, ro, ha, hrb, hsz0⟩ := HL.out.sz hql
      rw [ha] at r0
      rw [← Hs.out] at hsz0
      have hsz : w7.cell? ⟨rb, ro + q * 2, none⟩ = some (.int .i64 s) := (hB7.cell (p := ⟨rb, ro + q * 2, none⟩) hrb).trans hsz0
      have HS7 : Hid (SReads w7 (.slice va dn vc) D) := hS7
      have HBw7 : Hid (Below w.heap.size w w7) := hB7
      have hn1 : w3.heap.size ≠ w.heap.size := by omega
      have hn2 : w3.heap.size ≠ rb := by omega
      have hqi : (q : Int) < (R.len : Int) := by omega
      have HS8 : Hid ((w7.setCell ⟨w3.heap.size, 1, none⟩ (.int .i64 fl)).cell? ⟨w.heap.size, 0, none⟩ = some (.slice (some ⟨rb, ro, none⟩) R.len R.cap) ∧ (w7.setCell ⟨w3.heap.size, 1, none⟩ (.int .i64 fl)).cell? ⟨w3.heap.size, 2, none⟩ = some (.int .i64 (q : Int)) ∧ (w7.setCell ⟨w3.heap.size, 1, none⟩ (.int .i64 fl)).cell? ⟨rb, ro + q * 2, none⟩ = some (.int .i64 s)) :=
        ⟨(World.cell?_setCell_far w7 ⟨w3.heap.size, 1, none⟩ ⟨w.heap.size, 0, none⟩ _ hn1).trans r0, (kcells (set3 HY7.out (.int .i64 fl)).1).2.2, (World.cell?_setCell_far w7 ⟨w3.heap.size, 1, none⟩ ⟨rb, ro + q * 2, none⟩ _ hn2).trans hsz⟩
      have hqn : ¬ R.len ≤ q := by omega
      clear hX7 hL7 hB7 hS7 ha hrb hsz0 k0 r1 f2 hq
      refine wp_region_noPanic ?_
      refine wp_region_held_drew (S := (fun w' => w'.cell? ⟨w.heap.size, 0, none⟩ = some (.slice (some ⟨rb, ro, none⟩) R.len R.cap) ∧ w'.cell? ⟨w3.heap.size, 2, none⟩ = some (.int .i64 (q : Int)) ∧ w'.cell? ⟨rb, ro + q * 2, none⟩ = some (.int .i64 s))) (by kernel_rfl) ?_ (fun hHeld => ?_)
      · exact ⟨r0, k2, hsz⟩
      refine wpAnyH_take (i := 0) (v := .pointer (some ⟨w3.heap.size, 1, none⟩)) rfl (by kernel_rfl) (by kernel_rfl) (by kernel_rfl) (fun _ _ _ h => h) (Or.inl ⟨by rfl, ?_⟩) (by assumption) ?_
      · (intro w1 hSw; (try dsimp only at hSw); go_simp)
      simp only [List.getElem_toArray, List.getElem_cons_zero, Act.put, List.setIfInBounds_toArray, List.set_cons_zero, List.set_cons_succ]
      refine wpAnyH_take (i := 2) (v := .pointer (some ⟨w.heap.size, 0, none⟩)) rfl (by kernel_rfl) (by kernel_rfl) (by kernel_rfl) (fun _ _ _ h => h) (Or.inl ⟨by rfl, ?_⟩) (by assumption) ?_
      · (intro w1 hSw; (try dsimp only at hSw); go_simp)
      simp only [List.getElem_toArray, List.getElem_cons_succ, List.getElem_cons_zero, Act.put, List.setIfInBounds_toArray, List.set_cons_zero, List.set_cons_succ]
      refine wpAnyH_take (i := 3) (v := .slice (some ⟨rb, ro, none⟩) R.len R.cap) rfl (by kernel_rfl) (by kernel_rfl) (by kernel_rfl) (fun _ _ _ h => h) (Or.inl ⟨by rfl, ?_⟩) (by assumption) ?_
      · (intro w1 hSw; (try dsimp only at hSw); obtain ⟨h1, h2, h3⟩ := hSw; go_simp)
      simp only [List.getElem_toArray, List.getElem_cons_succ, List.getElem_cons_zero, Act.put, List.setIfInBounds_toArray, List.set_cons_zero, List.set_cons_succ]
      refine wpAnyH_take (i := 4) (v := .pointer (some ⟨w3.heap.size, 2, none⟩)) rfl (by kernel_rfl) (by kernel_rfl) (by kernel_rfl) (fun _ _ _ h => h) (Or.inl ⟨by rfl, ?_⟩) (by assumption) ?_
      · (intro w1 hSw; (try dsimp only at hSw); go_simp)
      simp only [List.getElem_toArray, List.getElem_cons_succ, List.getElem_cons_zero, Act.put, List.setIfInBounds_toArray, List.set_cons_zero, List.set_cons_succ]
      refine wpAnyH_take (i := 5) (v := .int .i64 (q : Int)) rfl (by kernel_rfl) (by kernel_rfl) (by kernel_rfl) (fun _ _ _ h => h) (Or.inl ⟨by rfl, ?_⟩) (by assumption) ?_
      · (intro w1 hSw; (try dsimp only at hSw); obtain ⟨h1, h2, h3⟩ := hSw; go_simp)
      simp only [List.getElem_toArray, List.getElem_cons_succ, List.getElem_cons_zero, Act.put, List.setIfInBounds_toArray, List.set_cons_zero, List.set_cons_succ]
      refine wpAnyH_take (i := 6) (v := .pointer (some ⟨rb, ro + q * 2, none⟩)) rfl (by kernel_rfl) (by kernel_rfl) (by kernel_rfl) (fun _ _ _ h => h) (Or.inl ⟨by rfl, ?_⟩) (by assumption) ?_
      · (intro w1 hSw; (try dsimp only at hSw); go_simp)
      simp only [List.getElem_toArray, List.getElem_cons_succ, List.getElem_cons_zero, Act.put, List.setIfInBounds_toArray, List.set_cons_zero, List.set_cons_succ]
      refine wpAnyH_take (i := 7) (v := .pointer (some ⟨rb, ro + q * 2, none⟩)) rfl (by kernel_rfl) (by kernel_rfl) (by kernel_rfl) (fun _ _ _ h => h) (Or.inl ⟨by rfl, ?_⟩) (by assumption) ?_
      · (intro w1 hSw; (try dsimp only at hSw); go_simp)
      simp only [List.getElem_toArray, List.getElem_cons_succ, List.getElem_cons_zero, Act.put, List.setIfInBounds_toArray, List.set_cons_zero, List.set_cons_succ]
      refine wpAnyH_take (i := 8) (v := .int .i64 s) rfl (by kernel_rfl) (by kernel_rfl) (by kernel_rfl) (fun _ _ _ h => h) (Or.inl ⟨by rfl, ?_⟩) (by assumption) ?_
      · (intro w1 hSw; (try dsimp only at hSw); obtain ⟨h1, h2, h3⟩ := hSw; go_simp)
      simp only [List.getElem_toArray, List.getElem_cons_succ, List.getElem_cons_zero, Act.put, List.setIfInBounds_toArray, List.set_cons_zero, List.set_cons_succ]
      refine wpAnyH_ready (rs := [1]) (by kernel_rfl) (by simp) ?_
      refine AllReadyH.cons (o := _) rfl (fun K hK => ?_) AllReadyH.nil
      go_simp
      refine hK.out _ _ ?_ (fun hHeld => ?_)
      · exact ⟨r0, k2, hsz⟩
      clear hK K
      refine wpAnyH_ready (rs := [9]) (by kernel_rfl) (by simp) ?_
      refine AllReadyH.cons (o := _) rfl (fun K hK => ?_) AllReadyH.nil
      go_simp
      refine (refFloor_any f s _).mono ?_
      rintro e w' ⟨rfl, rfl⟩
      rw [HFV.out]
      refine hK.out _ _ ?_ (fun hHeld => ?_)
      · exact ⟨r0, k2, hsz⟩
      clear hK K
      refine wpAnyH_take (i := 10) (v := .tuple #[.int .i64 fl, .int .i64 0]) rfl (by kernel_rfl) (by kernel_rfl) (by kernel_rfl) (fun _ _ _ h => h) (Or.inl ⟨by rfl, ?_⟩) (by assumption) ?_
      · (intro w1 hSw; (try dsimp only at hSw); go_simp)
      simp only [List.getElem_toArray, List.getElem_cons_succ, List.getElem_cons_zero, Act.put, List.setIfInBounds_toArray, List.set_cons_zero, List.set_cons_succ]
      refine wpAnyH_take (i := 11) (v := .int .i64 fl) rfl (by kernel_rfl) (by kernel_rfl) (by kernel_rfl) (fun _ _ _ h => h) (Or.inl ⟨by rfl, ?_⟩) (by assumption) ?_
      · (intro w1 hSw; (try dsimp only at hSw); go_simp)
      simp only [List.getElem_toArray, List.getElem_cons_succ, List.getElem_cons_zero, Act.put, List.setIfInBounds_toArray, List.set_cons_zero, List.set_cons_succ]
      refine wpAnyH_take (i := 12) (v := .int .i64 0) rfl (by kernel_rfl) (by kernel_rfl) (by kernel_rfl) (fun _ _ _ h => h) (Or.inl ⟨by rfl, ?_⟩) (by assumption) ?_
      · (intro w1 hSw; (try dsimp only at hSw); go_simp)
      simp only [List.getElem_toArray, List.getElem_cons_succ, List.getElem_cons_zero, Act.put, List.setIfInBounds_toArray, List.set_cons_zero, List.set_cons_succ]
      refine wpAnyH_take (i := 13) (v := .pointer (some ⟨w3.heap.size, 1, none⟩)) rfl (by kernel_rfl) (by kernel_rfl) (by kernel_rfl) (fun _ _ _ h => h) (Or.inl ⟨by rfl, ?_⟩) (by assumption) ?_
      · (intro w1 hSw; (try dsimp only at hSw); go_simp)
      simp only [List.getElem_toArray, List.getElem_cons_succ, List.getElem_cons_zero, Act.put, List.setIfInBounds_toArray, List.set_cons_zero, List.set_cons_succ]
      refine wpAnyH_ready (rs := [14]) (by kernel_rfl) (by simp) ?_
      refine AllReadyH.cons (o := _) rfl (fun K hK => ?_) AllReadyH.nil
      go_simp
      refine hK.out _ _ ?_ (fun hHeld => ?_)
      · exact HS8.out
      clear hK K
      clear hHeld
      refine wpAnyH_done (by kernel_rfl) ?_ _
      refine NoPanic.normal ?_
      obtain ⟨w8, HW8⟩ := hid_ex ((w7.setCell ⟨w3.heap.size, 1, none⟩ (.int .i64 fl)).drew)
      have HY8 : Hid (w8.heap[w3.heap.size]? = some (.cells #[.slice va dn vc, .int .i64 fl, .int .i64 (q : Int)] 59)) := by rw [HW8.out]; exact (set3 HY7.out (.int .i64 fl)).1
      have HB8 : Hid (Below w3.heap.size w3 w8) := by rw [HW8.out]; exact (HB7.out.setCell (Nat.le_refl _) _).drew
      have HBw8 : Hid (Below w.heap.size w w8) := by
        have h2 : Below w1.heap.size w1 w8 := HB3.out.trans (HB8.out.mono HB3.out.size)
        exact HB1.out.trans (h2.mono HB1.out.size)
      have HS8' : Hid (SReads w8 (.slice va dn vc) D) := HSR3.out.below HB8.out
      obtain ⟨j0, j1, j2⟩ := kcells HY8.out
      rw [← HW8.out]
      clear HW8 r0 k1 k2 f1 hsz HS8 HY7 HB7 HS7 HBw7 HY8 HB8
      go_wp2_with fail
      refine (refWrite_yes ⟨.slice va dn vc, D, fl, (q : Int)⟩ HNX.out _ ⟨HS8'.out, by simp only; omega, by simp only; omega, by simp only; omega, by simp only; omega⟩).mono ?_
      rintro e w9 ⟨v9, rfl, ho9, hb9⟩
      have HO9 : Hid (Own w9 w.heap.size v9 (kb D fl (q : Int))) := ho9.mono HBw8.out.size
      have HB9 : Hid (Below w.heap.size w w9) := HBw8.out.trans (hb9.mono HBw8.out.size)
      clear ho9 hb9 j0 j1 j2
      go_wp2_with fail
      go_ret2
      exact ⟨v9, rfl, HO9.out, HB9.out⟩
  · rw [HRD.out] at hrd
    cases hrd
end Go.Proofs.Ytiamjcgfmfbnoaa
