/- S10 S11 FX S12, joined. -/
import Derived.Test.YtopemhlkjicjpaaTG3
import Derived.Test.YtopemhlkjicjpaaTG5
import Derived.RangeFuncNested
import Derived.RangeFuncBound
import Derived.RangeFuncCalls
import Derived.RangeFuncBox
import Derived.Shelf.Abstract
import Derived.Shelf.RegionOpen
import Derived.WalkKit
import Derived.OwnWalkIn
import Derived.TacticsInMore
import Derived.LoopNIn
import Derived.LoopIn
import Derived.RegionIn
/- Put, as a whole: what it makes of the entries. -/
namespace Go.Proofs.Ytopemhlkjicjpaa
open Go.RowKit

/-- Entries: keys, and what is known. -/
abbrev En := Ks × Ag
def ents (N : List Nd) : List En := N.map fun x => (x.k, x.a)
def keysE (E : List En) : List Ks := E.map Prod.fst
/-- An entry is put. -/
def putE (E : List En) (k : Ks) (a : Ag) : List En :=
  if h : plK (keysE E) k < E.length then
    (if E[plK (keysE E) k].1 = k then E.set (plK (keysE E) k) (k, mrg E[plK (keysE E) k].2 a) else E.take (plK (keysE E) k) ++ (k, a) :: E.drop (plK (keysE E) k))
  else E ++ [(k, a)]
def sizE (E : List En) : Nat := (E.map fun x => x.1.length + 41).sum
/-- A list that holds entries. -/
def SK (w : World) (base L0 : Nat) (E : List En) (fr : Bool) : Prop := ∃ N, SL w base L0 N (sizE E : Nat) fr ∧ ents N = E
theorem keys_ents (N : List Nd) : keysE (ents N) = N.map Nd.k := by simp [keysE, ents]
theorem sizE_ents (N : List Nd) : sizE (ents N) = (N.map fun x => x.k.length + 41).sum := by simp [sizE, ents, Function.comp_def]
theorem SK.below {A B : World} {base L0 : Nat} {E : List En} {fr : Bool} (h : SK A base L0 E fr) (hb : Below A.heap.size A B) : SK B base L0 E fr := by
  obtain ⟨N, h1, h2⟩ := h
  exact ⟨N, h1.below hb, h2⟩
theorem mrg_ok {a b : Ag} (ha : 0 < a.c ∧ a.c < 18446744073709551616 ∧ rightB a = true) (hb : 0 < b.c ∧ b.c < 18446744073709551616 ∧ rightB b = true) : 0 < (mrg a b).c ∧ (mrg a b).c < 18446744073709551616 ∧ rightB (mrg a b) = true := by
  obtain ⟨a1, a2, a3⟩ := ha
  obtain ⟨b1, b2, b3⟩ := hb
  rw [mrg_both a b (by omega) (by omega)]
  unfold rightB at a3 b3 ⊢
  rw [if_neg (by omega)] at a3 b3
  simp only [Bool.and_eq_true, decide_eq_true_eq, Bool.or_eq_true, Bool.not_eq_true', beq_iff_eq] at a3 b3
  have hc : 0 < cntF a.c b.c ∧ cntF a.c b.c < 18446744073709551616 := by unfold cntF; split <;> omega
  refine ⟨hc.1, hc.2, ?_⟩
  show (if cntF a.c b.c = 0 then _ else _) = true
  rw [if_neg (by omega)]
  simp only [Bool.and_eq_true, decide_eq_true_eq, Bool.or_eq_true, Bool.not_eq_true', beq_iff_eq]
  refine ⟨by unfold minF maxF; split <;> split <;> omega, ?_⟩
  by_cases h : 18446744073709551616 ≤ a.c + b.c
  · right; unfold cntF; rw [if_neg (by omega)]
  · have hov : ovF a.c b.c = false := by unfold ovF; simp; omega
    rw [hov]
    cases ho : a.o
    · cases ho2 : b.o
      · left; rfl
      · rcases b3.2 with h2 | h2
        · rw [ho2] at h2; cases h2
        · omega
    · rcases a3.2 with h2 | h2
      · rw [ho] at h2; cases h2
      · omega
theorem sum_ins {α : Type} (f : α → Nat) (A B : List α) (x : α) : ((A ++ x :: B).map f).sum = ((A ++ B).map f).sum + f x := by
  simp; omega
theorem sorted_ins {N : List Ks} {k : Ks} (hs : N.Pairwise ltK) (hk : ∀ h : plK N k < N.length, N[plK N k] ≠ k) : (N.take (plK N k) ++ k :: N.drop (plK N k)).Pairwise ltK := by
  have h1 : ∀ x ∈ N.take (plK N k), ltK x k := by
    intro x hx
    obtain ⟨j, hj, rfl⟩ := List.mem_iff_getElem.1 hx
    simp at hj
    rw [List.getElem_take]; exact plK_lt (by omega) (by omega)
  have h2 : ∀ x ∈ N.drop (plK N k), ltK k x := by
    intro x hx
    obtain ⟨j, hj, rfl⟩ := List.mem_iff_getElem.1 hx
    simp at hj
    rw [List.getElem_drop]
    have hge := plK_ge hs (k := k) (i := plK N k + j) (by omega) (by omega)
    rcases not_ltK.1 hge with e | e
    · exfalso
      rcases Nat.eq_zero_or_pos j with rfl | hj0
      · exact hk (by omega) e
      · have h3 := plK_ge hs (k := k) (i := plK N k) (Nat.le_refl _) (by omega)
        have h4 : ltK N[plK N k] N[plK N k + j] := List.pairwise_iff_getElem.1 hs _ _ (by omega) (by omega) (by omega)
        rw [e] at h4
        exact h3 h4
    · exact e
  rw [← List.take_append_drop (plK N k) N, List.pairwise_append] at hs
  rw [List.pairwise_append, List.pairwise_cons]
  refine ⟨hs.1, ⟨h2, hs.2.1⟩, fun x hx y hy => ?_⟩
  rcases List.mem_cons.1 hy with rfl | hy
  · exact h1 x hx
  · exact hs.2.2 x hx y hy
def hb2 (x : Nd) : Nat × Nat := (x.h, x.b)
theorem nxt_hb (N : List Nd) (k : Nat) : nxt N k = .pointer ((((N.map hb2).find? fun x => decide (k < x.1)).map fun x => x.2).map fun b => ⟨b, 0, none⟩) := by
  unfold nxt
  rw [List.find?_map, Option.map_map, Option.map_map]
  rfl
theorem hgt_hb (N : List Nd) : ∀ p, p ≤ N.length → hgt N p = match p with | 0 => 8 | q + 1 => ((N.map hb2).getD q (0, 0)).1
  | 0, _ => rfl
  | q + 1, h => by
    rw [hgt_at (by omega)]
    simp [List.getD, show q < N.length by omega, hb2]
theorem nxF_hb {M N : List Nd} (h : M.map hb2 = N.map hb2) {p : Nat} (hp : p ≤ N.length) (k : Nat) : nxFS M p k = nxFS N p k := by
  have hl : M.length = N.length := by have := congrArg List.length h; simpa using this
  unfold nxFS
  rw [hgt_hb M p (by omega), hgt_hb N p hp, h, nxt_hb, nxt_hb, List.map_drop, List.map_drop, h]
theorem SLm.congrF {w : World} {base L0 : Nat} {N : List Nd} {F G : Nat → Nat → Value} {n sz : Int} {fr : Bool} (h : SLm w base L0 N F n sz fr) (e : ∀ p k, p ≤ N.length → k < 8 → F p k = G p k) : SLm w base L0 N G n sz fr :=
  ⟨by rw [h.hd, hdc_congr (fun k hk => e 0 k (Nat.zero_le _) hk)], fun i hi => by rw [h.nd i hi, ndc_congr (fun k hk => e (i + 1) k hi hk)], h.ky, h.b0, h.bs, h.ne⟩
theorem putE_merge {N : List Nd} {i : Nat} {k : Ks} (hlt : i < N.length) (hi : plK (N.map Nd.k) k = i) (hk : N[i].k = k) (a : Ag) : putE (ents N) k a = ents (N.set i { N[i] with a := mrg N[i].a a }) := by
  have hEl : (ents N).length = N.length := by simp [ents]
  have hpl : plK (keysE (ents N)) k = i := by rw [keys_ents]; exact hi
  unfold putE
  rw [dif_pos (by rw [hpl, hEl]; exact hlt)]
  simp only [hpl]
  have e1 : (ents N)[i]'(by rw [hEl]; exact hlt) = (N[i].k, N[i].a) := by simp [ents]
  rw [e1, if_pos hk]
  unfold ents
  rw [List.map_set, ← hk]
theorem putE_new {N : List Nd} {i : Nat} {k : Ks} (hle : i ≤ N.length) (hi : plK (N.map Nd.k) k = i) (hk : ∀ hlt : i < N.length, N[i].k ≠ k) (a : Ag) (b : Nat) (kv : Value) (hh : Nat) : putE (ents N) k a = ents (insN N i ⟨b, kv, k, a, hh⟩) := by
  have hEl : (ents N).length = N.length := by simp [ents]
  have hpl : plK (keysE (ents N)) k = i := by rw [keys_ents]; exact hi
  have e2 : ents (insN N i ⟨b, kv, k, a, hh⟩) = (ents N).take i ++ (k, a) :: (ents N).drop i := by
    unfold ents insN; rw [List.map_append, List.map_cons, List.map_take, List.map_drop]
  rw [e2]
  unfold putE
  by_cases hlt : i < N.length
  · rw [dif_pos (by rw [hpl, hEl]; exact hlt)]
    simp only [hpl]
    have e1 : (ents N)[i]'(by rw [hEl]; exact hlt) = (N[i].k, N[i].a) := by simp [ents]
    rw [e1, if_neg (hk hlt)]
  · have hie : i = N.length := by omega
    rw [dif_neg (by rw [hpl, hEl]; exact hlt), hie, ← hEl, List.take_length, List.drop_length]
theorem sla_merge {N : List Nd} {sz : Int} {i : Nat} (h : SLa N sz) (hlt : i < N.length) (m : Ag) (hm : 0 < m.c ∧ m.c < 18446744073709551616 ∧ rightB m = true) : SLa (N.set i { N[i] with a := m }) sz := by
  have hin : ∀ x ∈ N.set i { N[i] with a := m }, x ∈ N ∨ x = { N[i] with a := m } := fun x hx => List.mem_or_eq_of_mem_set hx
  have hmk : (N.set i { N[i] with a := m }).map Nd.k = N.map Nd.k := by
    apply List.ext_getElem
    · simp
    · intro j h1 h2
      rw [List.getElem_map, List.getElem_map, List.getElem_set]; split
      · rename_i e; subst e; rfl
      · rfl
  have hms : (N.set i { N[i] with a := m }).map (fun x => x.k.length + 41) = N.map fun x => x.k.length + 41 := by
    have e : ∀ M : List Nd, (M.map fun x => x.k.length + 41) = (M.map Nd.k).map fun k => k.length + 41 := fun M => by simp
    rw [e, e, hmk]
  refine ⟨by rw [hmk]; exact h.so, fun x hx => ?_, fun x hx => ?_, fun x hx => ?_, by rw [hms]; exact h.sz, by rw [List.length_set]; exact h.le⟩
  · rcases hin x hx with hx | rfl
    · exact h.ht x hx
    · exact h.ht N[i] (List.getElem_mem hlt)
  · rcases hin x hx with hx | rfl
    · exact h.kl x hx
    · exact h.kl N[i] (List.getElem_mem hlt)
  · rcases hin x hx with hx | rfl
    · exact h.ag x hx
    · exact hm
theorem sla_new {N : List Nd} {sz : Int} {i : Nat} {k : Ks} (h : SLa N sz) (hle : i ≤ N.length) (hi : plK (N.map Nd.k) k = i) (hk : ∀ hlt : i < N.length, N[i].k ≠ k) (hl : N.length < 4096) (x : Nd) (hxk : x.k = k) (hx : 1 ≤ x.h ∧ x.h ≤ 8) (hkl : 1 ≤ k.length ∧ k.length ≤ 256) (hm : 0 < x.a.c ∧ x.a.c < 18446744073709551616 ∧ rightB x.a = true) : SLa (insN N i x) (sz + k.length + 41) := by
  have hin : ∀ y ∈ insN N i x, y ∈ N ∨ y = x := by
    intro y hy
    unfold insN at hy
    rcases List.mem_append.1 hy with hy | hy
    · exact .inl (List.mem_of_mem_take hy)
    · rcases List.mem_cons.1 hy with rfl | hy
      · exact .inr rfl
      · exact .inl (List.mem_of_mem_drop hy)
  refine ⟨?_, fun y hy => ?_, fun y hy => ?_, fun y hy => ?_, ?_, by rw [insN_len _ _ _ hle]; omega⟩
  · unfold insN
    rw [List.map_append, List.map_cons, List.map_take, List.map_drop, hxk, ← hi]
    exact sorted_ins h.so (fun hlt => by rw [List.getElem_map]; subst hi; exact hk (by simpa using hlt))
  · rcases hin y hy with hy | rfl
    · exact h.ht y hy
    · exact hx
  · rcases hin y hy with hy | rfl
    · exact h.kl y hy
    · rw [hxk]; exact hkl
  · rcases hin y hy with hy | rfl
    · exact h.ag y hy
    · exact hm
  · have h1 := h.sz
    unfold insN
    rw [sum_ins, List.take_append_drop, h1, hxk]; omega
set_option maxRecDepth 10000 in
theorem put_any (L0 : Nat) (E : List En) (fr : Bool) (kv : Value) (k : Ks) (a : Ag) (h : Int) (w : World) (base : Nat) (hbase : base ≤ w.heap.size) (hS : SK w base L0 E fr) (hR : Reads w kv k) (ha : 0 ≤ a.c ∧ a.c < 18446744073709551616) (hlen : E.length < 4096) :
    Calls Try.prog 7 #[.pointer (some ⟨L0, 0, none⟩), env kv a, .int .i64 h] w fun e w' => e = .returned (.int .i64 (mpF fr h k.length a)) ∧ SK w' base L0 (if mpF fr h k.length a = 0 then putE E k a else E) fr ∧ Below base w w' ∧ Kt w w' := by
  obtain ⟨N, hSL, rfl⟩ := hS
  have hlN : N.length < 4096 := by simpa [ents] using hlen
  by_cases hok : mpF fr h k.length a = 0
  · rw [hok, if_pos rfl]
    obtain ⟨m1, m2, m3, m4, m5, m6, m7⟩ := mpF_ok hok
    have hag : 0 < a.c ∧ a.c < 18446744073709551616 ∧ rightB a = true := ⟨by omega, ha.2, m7⟩
    have hsz := hSL.2.sz
    have hpl : plK (keysE (ents N)) k = plK (N.map Nd.k) k := by rw [keys_ents]
    have hle : plK (N.map Nd.k) k ≤ N.length := by have := plK_le (N.map Nd.k) k; simpa using this
    have hEl : (ents N).length = N.length := by simp [ents]
    generalize hi : plK (N.map Nd.k) k = i at *
    have hszb : sizE (ents N) ≤ 4096 * 300 := by
      rw [sizE_ents]
      have : ∀ (M : List Nd), (∀ x ∈ M, x.k.length ≤ 256) → (M.map fun x => x.k.length + 41).sum ≤ M.length * 300 := by
        intro M
        induction M with
        | nil => intro _; simp
        | cons x M ih => intro hM; have h1 := ih (fun y hy => hM y (List.mem_cons_of_mem _ hy)); have h2 := hM x (List.mem_cons_self ..); simp; omega
      have := this N (fun x hx => (hSL.2.kl x hx).2)
      omega
    by_cases hc : ∃ hlt : i < N.length, N[i].k = k
    · obtain ⟨hlt, hk⟩ := hc
      refine (put_merge L0 N _ fr kv k a h w base hbase hSL hR hok ha i hlt hi.symm hk).mono ?_
      rintro e w' ⟨rfl, hs, hb, hkt⟩
      refine ⟨rfl, ⟨N.set i { N[i] with a := mrg N[i].a a }, ⟨?_, ?_⟩, ?_⟩, hb, hkt⟩
      · have hmap : (N.set i { N[i] with a := mrg N[i].a a }).map hb2 = N.map hb2 := by
          rw [List.map_set]; apply List.ext_getElem
          · simp
          · intro j h1 h2
            rw [List.getElem_set]; split
            · rename_i e; subst e; simp [hb2]
            · rfl
        have hsz2 : sizE (putE (ents N) k a) = sizE (ents N) := by
          rw [putE_merge hlt hi hk]
          have h1 := (sla_merge hSL.2 hlt _ (mrg_ok (hSL.2.ag _ (List.getElem_mem hlt)) hag)).sz
          rw [sizE_ents]; omega
        rw [hsz2, List.length_set]
        exact hs.congrF (fun p j hp _ => (nxF_hb hmap (by simpa using hp) j).symm)
      · have h1 := sla_merge hSL.2 hlt _ (mrg_ok (hSL.2.ag _ (List.getElem_mem hlt)) hag)
        have hsz2 : sizE (putE (ents N) k a) = sizE (ents N) := by
          rw [putE_merge hlt hi hk]
          have h2 := h1.sz
          rw [sizE_ents]; omega
        rw [hsz2]; exact h1
      · exact (putE_merge hlt hi hk a).symm
    · have hnk : ∀ hlt : i < N.length, N[i].k ≠ k := fun hlt e => hc ⟨hlt, e⟩
      have hnx := nxF_zero hSL.2.ht hle
      obtain ⟨pn, hpn, hhas⟩ : ∃ pn, nxFS N i 0 = .pointer pn ∧ ∀ w', Below w.heap.size w w' → Calls Try.prog 23 #[.pointer pn, kv] w' fun e w'' => e = .returned (.bool false) ∧ w'' = w' := by
        by_cases hlt : i < N.length
        · rw [dif_pos hlt] at hnx
          refine ⟨_, hnx, fun w' hb => ?_⟩
          have hn := hSL.1.nd i hlt
          have hbl := (Array.getElem?_eq_some_iff.1 hn).1
          have h1 : w.cell? ⟨N[i].b, 0, none⟩ = some N[i].kv := by simp [World.cell?, hn, ndc]
          have := has_some N[i].b N[i].kv N[i].k kv k w' ((hb.cell (p := ⟨N[i].b, 0, none⟩) hbl).trans h1) ((hSL.1.ky i hlt).reads.below hb) (hR.below hb)
          rw [decide_eq_false (hnk hlt)] at this
          exact this
        · rw [dif_neg hlt] at hnx
          exact ⟨_, hnx, fun w' hb => has_none kv k w' (hR.below hb)⟩
      refine (put_new L0 N _ fr kv k a h w base hbase hSL hR hok i hle hi.symm pn hpn hhas (by omega) ⟨by omega, by omega⟩).mono ?_
      rintro e w' ⟨rfl, ⟨b, kv', hs, hbk⟩, hb, hkt⟩
      have h1 := sla_new hSL.2 hle hi hnk hlN ⟨b, kv', k, a, h.toNat⟩ rfl ⟨by show 1 ≤ h.toNat; omega, by show h.toNat ≤ 8; omega⟩ ⟨m4, m5⟩ hag
      have hsz2 : ((sizE (putE (ents N) k a) : Nat) : Int) = (sizE (ents N) : Nat) + k.length + 41 := by
        rw [putE_new hle hi hnk a b kv' h.toNat, sizE_ents]
        exact h1.sz.symm
      refine ⟨rfl, ⟨_, ⟨?_, ?_⟩, (putE_new hle hi hnk a b kv' h.toNat).symm⟩, hb, hkt⟩
      · rw [hsz2, insN_len _ _ _ hle]; exact hs
      · rw [hsz2]; exact h1
  · rw [if_neg hok]
    refine (put_no L0 N _ fr kv k a h w base hSL hR hok).mono ?_
    rintro e w' ⟨rfl, hb⟩
    exact ⟨rfl, ⟨N, hSL.below hb, rfl⟩, hb.mono hbase, Kt.of_below hb⟩
end Go.Proofs.Ytopemhlkjicjpaa

/- The contracts of New, Len, Size, Freeze and Frozen. -/
namespace Go.Proofs.Ytopemhlkjicjpaa
open Go.RowKit

theorem new_anyS (w : World) : Calls Try.prog 4 #[] w fun e w' => ∃ L0, e = .returned (.pointer (some ⟨L0, 0, none⟩)) ∧ SK w' w.heap.size L0 [] false ∧ Below w.heap.size w w' := by
  go_enter Try.func4, Try.ntmps4
  go_wp2_with fail
  go_ret
  refine ⟨w.heap.size, rfl, ⟨[], ⟨⟨?_, fun i hi => (by simp at hi), fun i hi => (by simp at hi), Nat.le_refl _, fun x hx => (by cases hx), List.nodup_nil⟩, ⟨List.Pairwise.nil, fun x hx => (by cases hx), fun x hx => (by cases hx), fun x hx => (by cases hx), rfl, by simp⟩⟩, rfl⟩, (Below.refl _ _).alloc (Nat.le_refl _) _⟩
  refine (World.alloc_heap_new _ _).trans ?_
  congr 2
theorem SK.cells {w : World} {base L0 : Nat} {E : List En} {fr : Bool} (h : SK w base L0 E fr) : w.cell? ⟨L0, 17, none⟩ = some (.bool fr) ∧ w.cell? ⟨L0, 15, none⟩ = some (.int .i64 (E.length : Int)) ∧ w.cell? ⟨L0, 16, none⟩ = some (.int .i64 (sizE E : Nat)) ∧ L0 < w.heap.size := by
  obtain ⟨N, h1, rfl⟩ := h
  have := h1.frozen
  rw [show ((ents N).length : Int) = (N.length : Int) by simp [ents]]
  exact this
theorem len_any (L0 : Nat) (E : List En) (fr : Bool) (w : World) (base : Nat) (hS : SK w base L0 E fr) : Calls Try.prog 13 #[.pointer (some ⟨L0, 0, none⟩)] w fun e w' => e = .returned (.int .i64 (E.length : Int)) ∧ w' = w := by
  obtain ⟨_, c, _, _⟩ := hS.cells
  clear hS
  go_enter Try.func13, Try.ntmps13
  go_wp2_with fail
  go_ret
  exact ⟨rfl, rfl⟩
theorem SLm.setFrozen {w : World} {base L0 : Nat} {N : List Nd} {F : Nat → Nat → Value} {n sz : Int} {fr : Bool} (h : SLm w base L0 N F n sz fr) (b : Bool) : SLm (w.setCell ⟨L0, 17, none⟩ (.bool b)) base L0 N F n sz b := by
  have hne : ∀ i (hi : i < N.length), N[i].b ≠ L0 := fun i hi e => by
    have := blk_inj h (p := i + 1) (q := 0) (by omega) (by omega) (by rw [blk_at hi]; exact e)
    omega
  refine ⟨?_, fun i hi => ?_, fun i hi => own7 L0 (h.ky i hi) h.hd (by decide) _ _, h.b0, h.bs, h.ne⟩
  · have := Go.heap_setCell_same w L0 17 _ _ (.bool b) h.hd
    simpa [hdc] using this
  · rw [Below.heap_setCell _ _ _ _ (hne i hi)]; exact h.nd i hi
theorem freeze_any (L0 : Nat) (E : List En) (fr : Bool) (w : World) (base : Nat) (hS : SK w base L0 E fr) : Calls Try.prog 8 #[.pointer (some ⟨L0, 0, none⟩)] w fun e w' => e = .returned (.int .i64 (if fr = true then 7 else 0)) ∧ SK w' base L0 E true ∧ Below base w w' := by
  obtain ⟨c, _, _, _⟩ := hS.cells
  have hfz : w.frozen? ⟨L0, 17, none⟩ = false := by obtain ⟨N, h1, _⟩ := hS; simp [World.frozen?, h1.1.hd]
  have HS : Hid (SK w base L0 E fr) := hS
  clear hS
  cases hfr : fr
  · rw [hfr] at c
    go_enter Try.func8, Try.ntmps8
    go_wp2_with fail
    go_ret
    obtain ⟨N, h1, h2⟩ := HS.out
    exact ⟨rfl, ⟨N, ⟨h1.1.setFrozen true, h1.2⟩, h2⟩, (Below.refl _ _).setCell h1.1.b0 _⟩
  · rw [hfr] at c HS
    go_enter Try.func8, Try.ntmps8
    go_wp2_with fail
    go_ret
    exact ⟨rfl, HS.out, Below.refl _ _⟩
end Go.Proofs.Ytopemhlkjicjpaa

/- A range over a function whose body may leave early: a law of our own. -/
namespace Go.Proofs.Ytopemhlkjicjpaa
open Go.RowKit

variable {F : Fence} {n : Nat} {P : Program}
/-- What the function that is ranged over must do, if rounds may say no more. -/
def SeqX {α : Type} (F : Fence) (n : Nat) (P : Program) (g : Nat) (lb : Array Value) (encs : α → Array Value) (n₀ : Nat) (Pre : List α → α → World → Prop) (S Sp : List α → Prop) (w : World) : Prop :=
  ∀ (l : Nat) (J Jx : List α → World → Prop) (W : World), Kc n₀ w W → n₀ ≤ W.heap.size → (∀ pre A B, J pre A → Below A.heap.size A B → J pre B) → (∀ pre A B, Jx pre A → Below A.heap.size A B → Jx pre B) →
    (∀ pre x W1, J pre W1 → Pre pre x W1 → n₀ ≤ W1.heap.size → YieldAt F (n - 1) P l (encs x) W1 fun e W' => (e = .returned (.bool true) ∧ J (pre ++ [x]) W' ∧ Below n₀ W1 W') ∨ (e = .returned (.bool false) ∧ Jx (pre ++ [x]) W')) →
    J [] W → CallsIn F n P g (#[.func (.yield l) #[] #[]] ++ lb) W fun e W' => (∃ v, e = .returned v) ∧ ((∃ xs, S xs ∧ J xs W') ∨ ∃ xs, Sp xs ∧ Jx xs W')
/-- How a round ends. -/
def postX {α : Type} (n₀ : Nat) (I : List α → World → Prop) (Ix : Code → List α → World → Prop) (xs : List α) (W : World) : Exit → Act → World → Prop
  | .normal, _, W' => KeepsOthers W W' ∧ Below n₀ W W' ∧ I xs W'
  | .ret, _, W' => KeepsOthers W W' ∧ Ix .ret xs W'
  | .exit id, _, W' => KeepsOthers W W' ∧ Ix (.exit id) xs W'
  | _, _, _ => False
theorem wpIn_range_x {α : Type} {g : Operand} {ps : Array Tmp} {assign body : Code} {Q : Exit → Act → World → Prop} {a : Act} {w : World}
    (hro : F.round = none) (h1 : 1 ≤ n) {gf : Nat} {lb : Array Value} (hg : a.eval g = .func (.func gf) #[] lb) (hFg : F.fn gf) (eg : ∀ args w, (callFunc gf args).run P w = .ok (.enter gf args) w)
    {encs : α → Array Value} (hps : ∀ x, (encs x).size = ps.size) (I : List α → World → Prop) (Ix : Code → List α → World → Prop) (Pre : List α → α → World → Prop) (S Sp : List α → Prop)
    (n₀ : Nat) (hn₀ : n₀ ≤ w.heap.size) (hseq : SeqX F (n - 1) P gf lb encs n₀ Pre S Sp w)
    (hI : ∀ pre A B, I pre A → Kc n₀ A B → I pre B) (hIx : ∀ c pre A B, Ix c pre A → Kc n₀ A B → Ix c pre B) (hP : ∀ pre x A B, Pre pre x A → Kc n₀ A B → Pre pre x B) (h0 : I [] w) (a₁ : α → Act)
    (hassign : ∀ (l : Nat) (x : α) (W : World) (K : Act → World → Prop), K (a₁ x) W →
      assign.wpIn (F.inRound l) (n - 1 - 1) P (Exit.then K (fun _ _ _ => False)) { tmps := (ps.zip (encs x)).foldl (fun t (p, v) => t.setIfInBounds p v) a.tmps, defers := [] } W)
    (hbody : ∀ (l : Nat) (pre : List α) (x : α) (W : World), I pre W → Pre pre x W → n₀ ≤ W.heap.size → body.wpIn (F.inRound l) (n - 1 - 1) P (postX n₀ I Ix (pre ++ [x]) W) (a₁ x) W)
    (hdone : ∀ (D : Nat) (xs : List α) (W : World), w.heap.size ≤ D → S xs → I xs W → W.heap[D]? = some (.deferred (some [])) → Q .normal { a with defers := { target := .collected D, args := #[] } :: a.defers } W)
    (hleft : ∀ (D : Nat) (xs : List α) (c : Code) (W : World), w.heap.size ≤ D → Sp xs → Ix c xs W → W.heap[D]? = some (.deferred (some [])) → c.wpIn F n P Q { a with defers := { target := .collected D, args := #[] } :: a.defers } W) :
    (Code.rangeFunc g ps assign body).wpIn F n P Q a w := by
  refine wpIn_rangeFunc ?_
  intro fn hfn
  rw [hro]
  have hen := run_enterLoop_outer (P := P) (w := w) fn a.tmps ps assign body
  generalize hd : w.heap.size = d at *
  generalize hr0 : ({ state := .ready, pending := none, fn := fn, tmps := a.tmps, params := ps, assign := assign, body := body, defers := d } : Loop) = r0 at *
  have e1 : r0.fn = fn := by rw [← hr0]
  have e2 : r0.params = ps := by rw [← hr0]
  have e3 : r0.state = .ready := by rw [← hr0]
  have e4 : r0.tmps = a.tmps := by rw [← hr0]
  have e5 : r0.assign = assign := by rw [← hr0]
  have e6 : r0.body = body := by rw [← hr0]
  have e7 : r0.pending = none := by rw [← hr0]
  generalize hW : (w.alloc (.deferred (some []))).alloc (.loop r0) = W0 at *
  have hB : Below d w W0 := by
    rw [← hW]
    exact ((Below.refl d w).alloc (by omega) _).alloc (by simp; omega) _
  have hz : W0.heap.size = d + 2 := by rw [← hW]; simp; omega
  have hD0 : W0.heap[d]? = some (.deferred (some [])) := by
    rw [← hW, Below.heap_alloc _ _ _ (by simp; omega), ← hd]; exact World.alloc_heap_new w _
  have hL0 : W0.heap[d + 1]? = some (.loop r0) := by
    have := World.alloc_heap_new (w.alloc (.deferred (some []))) (.loop r0)
    rw [World.size_alloc, hd, hW] at this
    exact this
  refine ⟨d + 1, _, W0, { target := .fn (.func gf) lb, args := #[.func (.yield (d + 1)) #[] #[]] }, W0, gf, #[.func (.yield (d + 1)) #[] #[]] ++ lb, W0, hen, ?_, ?_, ?_, fun _ => h1, ?_⟩
  · simp only [resolve, hg]; simp [go_sem]
  · intro f' hf'; simp [Target.leads] at hf'; subst hf'; exact hFg
  · simp [invoke, go_sem, eg]
  · have hKw : Kc n₀ w W0 := ⟨hB.mono hn₀, fun k _ _ _ hk => (hB.block k (by have := (Array.getElem?_eq_some_iff.1 hk).1; omega)).trans hk⟩
    have hI0 : I [] W0 := hI [] w W0 h0 hKw
    refine (hseq (d + 1) (fun pre W => I pre W ∧ W.heap[d + 1]? = some (.loop r0) ∧ W.heap[d]? = some (.deferred (some [])) ∧ d ≤ W.heap.size)
      (fun pre W => ∃ c, Ix c pre W ∧ W.heap[d + 1]? = some (.loop { r0 with state := .done, pending := some c }) ∧ W.heap[d]? = some (.deferred (some [])) ∧ d ≤ W.heap.size) W0 hKw (by omega) ?_ ?_ ?_ ⟨hI0, hL0, hD0, by omega⟩).mono ?_
    · rintro pre A B ⟨q1, q2, q3, q4⟩ hb
      have hs := hb.size
      exact ⟨hI pre A B q1 (Kc.of_below hb (by omega)), (hb.block _ (Array.getElem?_eq_some_iff.1 q2).1).trans q2, (hb.block _ (Array.getElem?_eq_some_iff.1 q3).1).trans q3, by omega⟩
    · rintro pre A B ⟨c, q1, q2, q3, q4⟩ hb
      have hs := hb.size
      exact ⟨c, hIx c pre A B q1 (Kc.of_below hb (by omega)), (hb.block _ (Array.getElem?_eq_some_iff.1 q2).1).trans q2, (hb.block _ (Array.getElem?_eq_some_iff.1 q3).1).trans q3, by omega⟩
    · rintro pre x W ⟨q1, q2, q3, q4⟩ hpx hdw
      have hl := (Array.getElem?_eq_some_iff.1 q2).1
      have hy := run_yield (P := P) (args := encs x) q2 (by rw [e2]; exact hps x)
      rw [e1, e2, e4, e5, e6] at hy
      refine ⟨fn, _, assign, body, hy, roundIn_of_wpIn hfn (hassign _ x W _ ⟨_, run_beginRound q2 e3, ?_⟩)⟩
      have k1 := Kc.put (n := n₀) (.loop { r0 with state := .busy }) q2 rfl (by omega)
      have l1 : (W.putObj (d + 1) (.loop { r0 with state := .busy })).heap[d + 1]? = some (.loop { r0 with state := .busy }) := World.putObj_heap_same hl
      have d1 : (W.putObj (d + 1) (.loop { r0 with state := .busy })).heap[d]? = some (.deferred (some [])) := (World.putObj_heap_other (by omega)).trans q3
      refine wpIn_mono (hbody _ pre x _ (hI _ _ _ q1 k1) (hP _ _ _ _ hpx k1) (by simp; omega)) ?_
      have left : ∀ (c : Code) (W3 : World), KeepsOthers (W.putObj (d + 1) (.loop { r0 with state := .busy })) W3 → Ix c (pre ++ [x]) W3 →
          ∃ w', (Instr.endRound (d + 1) (some c)).run P W3 = .ok (.bool false) w' ∧ ∃ c, Ix c (pre ++ [x]) w' ∧ w'.heap[d + 1]? = some (.loop { r0 with state := .done, pending := some c }) ∧ w'.heap[d]? = some (.deferred (some [])) ∧ d ≤ w'.heap.size := by
        intro c W3 m1 m3
        have l3 := m1.same _ _ l1 rfl
        have d3 := m1.same _ _ d1 rfl
        have hend := run_endRound (P := P) (some c) l3
        have hl3 := (Array.getElem?_eq_some_iff.1 l3).1
        have k3 := Kc.put (n := n₀) (.loop { r0 with state := .done, pending := some c }) l3 rfl (by omega)
        exact ⟨_, hend, c, hIx _ _ _ _ m3 k3, World.putObj_heap_same hl3, (World.putObj_heap_other (by omega)).trans d3, by have := m1.size; simp at this ⊢; omega⟩
      intro e a3 W3 hp
      cases e with
      | normal =>
        obtain ⟨m1, m2, m3⟩ := hp
        have l3 := m1.same _ _ l1 rfl
        have d3 := m1.same _ _ d1 rfl
        have hend := run_endRound (P := P) none l3
        have hl3 := (Array.getElem?_eq_some_iff.1 l3).1
        have e9 : ({ ({ r0 with state := .busy } : Loop) with state := if (none : Option Code).isNone then .ready else .done, pending := none } : Loop) = r0 := by
          rw [← hr0]; rfl
        rw [e9] at hend
        have k3 := Kc.put (n := n₀) (.loop r0) l3 rfl (by omega)
        exact ⟨_, _, hend, .inl ⟨rfl, ⟨hI _ _ _ m3 k3, World.putObj_heap_same hl3, (World.putObj_heap_other (by omega)).trans d3, by have := m1.size; simp at this ⊢; omega⟩, (k1.b.trans m2).trans k3.b⟩⟩
      | ret =>
        obtain ⟨w', g1, g2⟩ := left _ _ hp.1 hp.2
        exact ⟨_, w', g1, .inr ⟨rfl, g2⟩⟩
      | exit id =>
        obtain ⟨w', g1, g2⟩ := left _ _ hp.1 hp.2
        exact ⟨_, w', g1, .inr ⟨rfl, g2⟩⟩
      | goto t => exact hp.elim
      | panic ch => exact hp.elim
      | outgrown => exact hp.elim
    · rintro e W2 ⟨⟨v, rfl⟩, ⟨xs, hS, q1, q2, q3, q4⟩ | ⟨xs, hS, c, q1, q2, q3, q4⟩⟩
      · have hend := run_endLoop (P := P) q2 (by rw [e3]; simp)
        rw [e7] at hend
        refine ⟨none, _, hend, ?_⟩
        exact hdone d xs _ (by omega) hS (hI _ _ _ q1 (Kc.put _ q2 rfl (by omega))) ((World.putObj_heap_other (by omega)).trans q3)
      · have hend := run_endLoop (P := P) q2 (by simp)
        refine ⟨some c, _, hend, ?_⟩
        exact hleft d xs c _ (by omega) hS (hIx _ _ _ _ q1 (Kc.put _ q2 rfl (by omega))) ((World.putObj_heap_other (by omega)).trans q3)
end Go.Proofs.Ytopemhlkjicjpaa

/- The contract of the list's from: what the function that is ranged over hands over. -/
namespace Go.Proofs.Ytopemhlkjicjpaa
open Go.RowKit Go.Shelf
attribute [local go_sem] Oper.semAt_some

def encN (x : Nd) : Array Value := #[env x.kv x.a]
def PreN (N : List Nd) (i : Nat) (pre : List Nd) (x : Nd) (_ : World) : Prop := ∃ h : i + pre.length < N.length, x = N[i + pre.length] ∧ pre = (N.drop i).take pre.length
def mes (L0 : Nat) (N : List Nd) : Value → Nat
  | .pointer none => 0
  | v => N.length + 1 - pIdx L0 N v
theorem take_dr {N : List Nd} {i m : Nat} (h : i + m < N.length) : (N.drop i).take (m + 1) = (N.drop i).take m ++ [N[i + m]] := by
  rw [List.take_add_one, List.getElem?_drop, List.getElem?_eq_getElem h]; rfl
set_option maxRecDepth 100000 in
set_option maxHeartbeats 2000000 in
theorem from1_in (n : Nat) (_hn : 1 ≤ n) (l Bl Bk L0 : Nat) (N : List Nd) (sz : Int) (fr : Bool) (kv : Value) (key : Ks) (w0 : World) (base : Nat) (hS : SL w0 base L0 N sz fr) (hR : Reads w0 kv key) (J Jx : List Nd → World → Prop) (W : World) (hW : Below w0.heap.size w0 W)
    (hJ : ∀ pre A B, J pre A → Below A.heap.size A B → J pre B)
    (hY : ∀ pre x W1, J pre W1 → PreN N (plK (N.map Nd.k) key) pre x W1 → w0.heap.size ≤ W1.heap.size → YieldAt Fence.wide (n - 1) Try.prog l (encN x) W1 fun e W' => (e = .returned (.bool true) ∧ J (pre ++ [x]) W' ∧ Below w0.heap.size W1 W') ∨ (e = .returned (.bool false) ∧ Jx (pre ++ [x]) W'))
    (hBl : W.cell? ⟨Bl, 0, none⟩ = some (.pointer (some ⟨L0, 0, none⟩))) (hBk : W.cell? ⟨Bk, 0, none⟩ = some kv) (h0 : J [] W) :
    CallsIn Fence.wide n Try.prog 67 #[.func (.yield l) #[] #[], .pointer (some ⟨Bl, 0, none⟩), .pointer (some ⟨Bk, 0, none⟩)] W fun e W' => (∃ v, e = .returned v) ∧ (J (N.drop (plK (N.map Nd.k) key)) W' ∨ ∃ xs, (∃ m, xs = (N.drop (plK (N.map Nd.k) key)).take m) ∧ Jx xs W') := by
  have hag := hS.2
  obtain ⟨i, Hi⟩ := hid_ex (plK (N.map Nd.k) key)
  have hiN : i ≤ N.length := by rw [Hi.out]; have := plK_le (N.map Nd.k) key; simpa using this
  rw [← Hi.out] at hY ⊢
  have HBR : Hid _ := before_any L0 N sz fr kv key W base (hS.below hW) (hR.below hW)
  rw [← Hi.out] at HBR
  obtain ⟨g, Hg⟩ := hid_ex (fun j => blk L0 N (bp N j i))
  have HEG : Hid ((fun j => (.pointer (some ⟨blk L0 N (bp N j i), 0, none⟩) : Value)) = fun j => .pointer (some ⟨g j, 0, none⟩)) := by rw [Hg.out]; rfl
  have HG0 : Hid (g 0 = blk L0 N i) := by rw [Hg.out]; unfold Hid; dsimp only; rw [bp_zero hag.ht hiN]
  rw [HEG.out] at HBR
  obtain ⟨ak, ck, rfl, _⟩ := hR.form
  have HS : Hid (SL w0 base L0 N sz fr) := hS
  have HW : Hid (Below w0.heap.size w0 W) := hW
  have HJ : Hid (∀ pre A B, J pre A → Below A.heap.size A B → J pre B) := hJ
  have HY : Hid (∀ pre x W1, J pre W1 → PreN N i pre x W1 → w0.heap.size ≤ W1.heap.size → YieldAt Fence.wide (n - 1) Try.prog l (encN x) W1 fun e W' => (e = .returned (.bool true) ∧ J (pre ++ [x]) W' ∧ Below w0.heap.size W1 W') ∨ (e = .returned (.bool false) ∧ Jx (pre ++ [x]) W')) := hY
  clear hS hR hW hJ hY hag
  refine callsIn_of_wp Try.func67 rfl trivial ?_ rfl
  simp only [Try.ntmps67, List.size_toArray, List.length_cons, List.length_nil, Nat.reduceAdd, Nat.reduceSub, Array.replicate_succ, Array.replicate_zero, List.push_toArray, List.append_toArray, List.nil_append, List.cons_append]
  gi_wp2_with fail
  refine ⟨trivial, ?_⟩
  refine (callsIn_wide.2 HBR.out).mono ?_
  rintro e w1 ⟨rfl, hb1⟩
  have HB1 : Hid (Below w0.heap.size w0 w1) := HW.out.trans (hb1.mono HW.out.size)
  have hJ1 : J [] w1 := HJ.out [] _ _ h0 hb1
  have hix : (Instr.index 52 (.agg (ar8 fun j => .pointer (some ⟨g j, 0, none⟩))) (.int .i64 0)).run Try.prog w1 = .ok (.pointer (some ⟨g 0, 0, none⟩)) w1 := idx8 _ 0 (by decide) w1
  obtain ⟨cN, _, hbl⟩ := HS.out.1.blk_hd (p := i) hiN (k := 0) (by decide)
  have cN2 := (HB1.out.cell (p := ⟨blk L0 N i, 7 + 0, none⟩) hbl).trans cN
  rw [← HG0.out] at cN2
  obtain ⟨pn, hpn⟩ : ∃ pn, nxFS N i 0 = .pointer pn := by unfold nxFS nxt; split <;> exact ⟨_, rfl⟩
  rw [hpn] at cN2
  have HPN : Hid (nxFS N i 0 = .pointer pn) := hpn
  clear hb1 cN hpn HBR
  gi_wp2_with fail
  gi_loopw [4] (fun v wr => ∃ m : Nat, i + m ≤ N.length ∧ Hid (nxFS N (i + m) 0 = v) ∧ J ((N.drop i).take m) wr ∧ Hid (Below w0.heap.size w0 wr)) (fun v _ => mes L0 N v)
  case atStart => exact ⟨0, hiN, HPN, hJ1, HB1⟩
  case round =>
    clear cN2 hix HB1 HPN hJ1
    obtain ⟨m, hm, HV, hJm, HB⟩ := hrel
    have hnz := nxF_zero HS.out.2.ht hm
    by_cases hlt : i + m < N.length
    · rw [dif_pos hlt] at hnz
      obtain ⟨x, Hx⟩ := hid_ex N[i + m]
      rw [← Hx.out] at hnz
      have hv := HV.out
      rw [hnz] at hv
      subst hv
      have hn := HS.out.1.nd (i + m) hlt
      rw [← Hx.out] at hn
      have hbn := (Array.getElem?_eq_some_iff.1 hn).1
      have HN1 : Hid (wr.heap[x.b]? = some (.cells (ndc x.kv x.a (nxFS N (i + m + 1))) 55)) := (HB.out.block _ hbn).trans hn
      have HN0 : Hid (w0.heap[x.b]? = some (.cells (ndc x.kv x.a (nxFS N (i + m + 1))) 55)) := hn
      obtain ⟨a0, _⟩ := cell_row HN1.out 0 (by simp [ndc])
      obtain ⟨a1, _⟩ := cell_row HN1.out 1 (by simp [ndc])
      obtain ⟨a2, _⟩ := cell_row HN1.out 2 (by simp [ndc])
      obtain ⟨a3, _⟩ := cell_row HN1.out 3 (by simp [ndc])
      obtain ⟨a4, _⟩ := cell_row HN1.out 4 (by simp [ndc])
      obtain ⟨a5, _⟩ := cell_row HN1.out 5 (by simp [ndc])
      obtain ⟨a6, _⟩ := cell_row HN1.out 6 (by simp [ndc])
      simp only [ndc, List.getElem_toArray, List.getElem_cons_succ, List.getElem_cons_zero] at a0 a1 a2 a3 a4 a5 a6
      have hlm : ((N.drop i).take m).length = m := by simp; omega
      obtain ⟨fn, tmps, assign, body, hy, hRd⟩ := HY.out _ x _ hJm ⟨by rw [hlm]; exact hlt, by simp only [hlm]; exact Hx.out, by rw [hlm]⟩ HB.out.size
      dsimp only [encN, env] at hy
      have HTK : Hid ((N.drop i).take m ++ [x] = (N.drop i).take (m + 1)) := by unfold Hid; rw [take_dr hlt, Hx.out]
      have HM1 : Hid (mes L0 N (.pointer (some ⟨x.b, 0, none⟩)) = N.length - (i + m)) := by
        have := pIdx_blk HS.out.1 (p := i + m + 1) (by omega)
        rw [blk_at hlt, ← Hx.out] at this
        unfold Hid mes
        simp only [this]; omega
      obtain ⟨pn, hpn⟩ : ∃ pn, nxFS N (i + (m + 1)) 0 = .pointer pn := by unfold nxFS nxt; split <;> exact ⟨_, rfl⟩
      have HPN : Hid (nxFS N (i + (m + 1)) 0 = .pointer pn) := hpn
      have HM2 : Hid (mes L0 N (.pointer pn) < N.length - (i + m)) := by
        have h2 := nxF_zero HS.out.2.ht (show i + (m + 1) ≤ N.length by omega)
        rw [hpn] at h2
        by_cases hl2 : i + (m + 1) < N.length
        · rw [dif_pos hl2] at h2
          have := pIdx_blk HS.out.1 (p := i + (m + 1) + 1) (by omega)
          rw [blk_at hl2] at this
          rw [h2]
          unfold Hid mes
          simp only [this]; omega
        · rw [dif_neg hl2] at h2
          rw [h2]
          show 0 < _
          omega
      clear hn hnz HV hlm hpn
      gi_wp2
      refine hRd.mono ?_
      rintro e W3 (⟨rfl, hJ3, hk3⟩ | ⟨rfl, hX3⟩)
      · rw [HTK.out] at hJ3
        have HB3 : Hid (Below w0.heap.size w0 W3) := HB.out.trans hk3
        have HN3 : Hid (W3.heap[x.b]? = some (.cells (ndc x.kv x.a (nxFS N (i + m + 1))) 55)) := (HB3.out.block _ hbn).trans HN0.out
        obtain ⟨a7, _⟩ := cell_row HN3.out 7 (by simp [ndc])
        simp only [ndc, List.getElem_toArray, List.getElem_cons_succ, List.getElem_cons_zero] at a7
        rw [Nat.add_assoc, HPN.out] at a7
        clear hy hRd hk3 a0 a1 a2 a3 a4 a5 a6
        gi_wp2
        go_roundw
        case rel => exact ⟨m + 1, by omega, HPN, hJ3, HB3⟩
        case measure => rw [HM1.out]; exact HM2.out
      · rw [HTK.out] at hX3
        clear hy hRd a0 a1 a2 a3 a4 a5 a6
        gi_wp2
        refine bodyPost_ret (results_none rfl _ _ _) rfl ?_
        exact ⟨⟨_, rfl⟩, .inr ⟨_, ⟨m + 1, rfl⟩, hX3⟩⟩
    · rw [dif_neg hlt] at hnz
      have hv := HV.out
      rw [hnz] at hv
      subst hv
      have hte : (N.drop i).take m = N.drop i := List.take_of_length_le (by simp; omega)
      rw [hte] at hJm
      clear hnz HV hte
      gi_wp2
      refine bodyPost_end (results_none rfl _ _ _) rfl ?_
      exact ⟨⟨_, rfl⟩, .inl hJm⟩
end Go.Proofs.Ytopemhlkjicjpaa
