/- Put, as a whole: what it makes of the entries. -/
import Derived.Test.YtbeemkcdpmbhmaaS9
namespace Go.Proofs.Ytbeemkcdpmbhmaa
open Go.RowKit

/-- Entries: keys, and what is known. -/
abbrev En := Ks × Ag
def ents (N : List Nd) : List En := N.map fun x => (x.k, x.a)
def keysE (E : List En) : List Ks := E.map Prod.fst
/-- An entry is put. -/
def putE (E : List En) (k : Ks) (a : Ag) : List En :=
  if h : plK (keysE E) k < E.length then
    (if E[plK (keysE E) k].1 = k then E.set (plK (keysE E) k) (k, mrg E[plK (keysE E) k].2 a) else E.take (plK (keysE E) k) ++ (k, a) :: E.drop (plK (keysE E) k))
  else E ++ [(k, a)]
def sizE (E : List En) : Nat := (E.map fun x => x.1.length + 41).sum
/-- A list that holds entries. -/
def SK (w : World) (base L0 : Nat) (E : List En) (fr : Bool) : Prop := ∃ N, SL w base L0 N (sizE E : Nat) fr ∧ ents N = E
theorem keys_ents (N : List Nd) : keysE (ents N) = N.map Nd.k := by simp [keysE, ents]
theorem sizE_ents (N : List Nd) : sizE (ents N) = (N.map fun x => x.k.length + 41).sum := by simp [sizE, ents, Function.comp_def]
theorem SK.below {A B : World} {base L0 : Nat} {E : List En} {fr : Bool} (h : SK A base L0 E fr) (hb : Below A.heap.size A B) : SK B base L0 E fr := by
  obtain ⟨N, h1, h2⟩ := h
  exact ⟨N, h1.below hb, h2⟩
theorem mrg_ok {a b : Ag} (ha : 0 < a.c ∧ a.c < 18446744073709551616 ∧ rightB a = true) (hb : 0 < b.c ∧ b.c < 18446744073709551616 ∧ rightB b = true) : 0 < (mrg a b).c ∧ (mrg a b).c < 18446744073709551616 ∧ rightB (mrg a b) = true := by
  obtain ⟨a1, a2, a3⟩ := ha
  obtain ⟨b1, b2, b3⟩ := hb
  rw [mrg_both a b (by omega) (by omega)]
  unfold rightB at a3 b3 ⊢
  rw [if_neg (by omega)] at a3 b3
  simp only [Bool.and_eq_true, decide_eq_true_eq, Bool.or_eq_true, Bool.not_eq_true', beq_iff_eq] at a3 b3
  have hc : 0 < cntF a.c b.c ∧ cntF a.c b.c < 18446744073709551616 := by unfold cntF; split <;> omega
  refine ⟨hc.1, hc.2, ?_⟩
  show (if cntF a.c b.c = 0 then _ else _) = true
  rw [if_neg (by omega)]
  simp only [Bool.and_eq_true, decide_eq_true_eq, Bool.or_eq_true, Bool.not_eq_true', beq_iff_eq]
  refine ⟨by unfold minF maxF; split <;> split <;> omega, ?_⟩
  by_cases h : 18446744073709551616 ≤ a.c + b.c
  · right; unfold cntF; rw [if_neg (by omega)]
  · have hov : ovF a.c b.c = false := by unfold ovF; simp; omega
    rw [hov]
    cases ho : a.o
    · cases ho2 : b.o
      · left; rfl
      · rcases b3.2 with h2 | h2
        · rw [ho2] at h2; cases h2
        · omega
    · rcases a3.2 with h2 | h2
      · rw [ho] at h2; cases h2
      · omega
theorem sum_ins {α : Type} (f : α → Nat) (A B : List α) (x : α) : ((A ++ x :: B).map f).sum = ((A ++ B).map f).sum + f x := by
  simp; omega
theorem sorted_ins {N : List Ks} {k : Ks} (hs : N.Pairwise ltK) (hk : ∀ h : plK N k < N.length, N[plK N k] ≠ k) : (N.take (plK N k) ++ k :: N.drop (plK N k)).Pairwise ltK := by
  have h1 : ∀ x ∈ N.take (plK N k), ltK x k := by
    intro x hx
    obtain ⟨j, hj, rfl⟩ := List.mem_iff_getElem.1 hx
    simp at hj
    rw [List.getElem_take]; exact plK_lt (by omega) (by omega)
  have h2 : ∀ x ∈ N.drop (plK N k), ltK k x := by
    intro x hx
    obtain ⟨j, hj, rfl⟩ := List.mem_iff_getElem.1 hx
    simp at hj
    rw [List.getElem_drop]
    have hge := plK_ge hs (k := k) (i := plK N k + j) (by omega) (by omega)
    rcases not_ltK.1 hge with e | e
    · exfalso
      rcases Nat.eq_zero_or_pos j with rfl | hj0
      · exact hk (by omega) e
      · have h3 := plK_ge hs (k := k) (i := plK N k) (Nat.le_refl _) (by omega)
        have h4 : ltK N[plK N k] N[plK N k + j] := List.pairwise_iff_getElem.1 hs _ _ (by omega) (by omega) (by omega)
        rw [e] at h4
        exact h3 h4
    · exact e
  rw [← List.take_append_drop (plK N k) N, List.pairwise_append] at hs
  rw [List.pairwise_append, List.pairwise_cons]
  refine ⟨hs.1, ⟨h2, hs.2.1⟩, fun x hx y hy => ?_⟩
  rcases List.mem_cons.1 hy with rfl | hy
  · exact h1 x hx
  · exact hs.2.2 x hx y hy
def hb2 (x : Nd) : Nat × Nat := (x.h, x.b)
theorem nxt_hb (N : List Nd) (k : Nat) : nxt N k = .pointer ((((N.map hb2).find? fun x => decide (k < x.1)).map fun x => x.2).map fun b => ⟨b, 0, none⟩) := by
  unfold nxt
  rw [List.find?_map, Option.map_map, Option.map_map]
  rfl
theorem hgt_hb (N : List Nd) : ∀ p, p ≤ N.length → hgt N p = match p with | 0 => 8 | q + 1 => ((N.map hb2).getD q (0, 0)).1
  | 0, _ => rfl
  | q + 1, h => by
    rw [hgt_at (by omega)]
    simp [List.getD, show q < N.length by omega, hb2]
theorem nxF_hb {M N : List Nd} (h : M.map hb2 = N.map hb2) {p : Nat} (hp : p ≤ N.length) (k : Nat) : nxF M p k = nxF N p k := by
  have hl : M.length = N.length := by have := congrArg List.length h; simpa using this
  unfold nxF
  rw [hgt_hb M p (by omega), hgt_hb N p hp, h, nxt_hb, nxt_hb, List.map_drop, List.map_drop, h]
theorem SLm.congrF {w : World} {base L0 : Nat} {N : List Nd} {F G : Nat → Nat → Value} {n sz : Int} {fr : Bool} (h : SLm w base L0 N F n sz fr) (e : ∀ p k, p ≤ N.length → k < 8 → F p k = G p k) : SLm w base L0 N G n sz fr :=
  ⟨by rw [h.hd, hdc_congr (fun k hk => e 0 k (Nat.zero_le _) hk)], fun i hi => by rw [h.nd i hi, ndc_congr (fun k hk => e (i + 1) k hi hk)], h.ky, h.b0, h.bs, h.ne⟩
theorem putE_merge {N : List Nd} {i : Nat} {k : Ks} (hlt : i < N.length) (hi : plK (N.map Nd.k) k = i) (hk : N[i].k = k) (a : Ag) : putE (ents N) k a = ents (N.set i { N[i] with a := mrg N[i].a a }) := by
  have hEl : (ents N).length = N.length := by simp [ents]
  have hpl : plK (keysE (ents N)) k = i := by rw [keys_ents]; exact hi
  unfold putE
  rw [dif_pos (by rw [hpl, hEl]; exact hlt)]
  simp only [hpl]
  have e1 : (ents N)[i]'(by rw [hEl]; exact hlt) = (N[i].k, N[i].a) := by simp [ents]
  rw [e1, if_pos hk]
  unfold ents
  rw [List.map_set, ← hk]
theorem putE_new {N : List Nd} {i : Nat} {k : Ks} (hle : i ≤ N.length) (hi : plK (N.map Nd.k) k = i) (hk : ∀ hlt : i < N.length, N[i].k ≠ k) (a : Ag) (b : Nat) (kv : Value) (hh : Nat) : putE (ents N) k a = ents (insN N i ⟨b, kv, k, a, hh⟩) := by
  have hEl : (ents N).length = N.length := by simp [ents]
  have hpl : plK (keysE (ents N)) k = i := by rw [keys_ents]; exact hi
  have e2 : ents (insN N i ⟨b, kv, k, a, hh⟩) = (ents N).take i ++ (k, a) :: (ents N).drop i := by
    unfold ents insN; rw [List.map_append, List.map_cons, List.map_take, List.map_drop]
  rw [e2]
  unfold putE
  by_cases hlt : i < N.length
  · rw [dif_pos (by rw [hpl, hEl]; exact hlt)]
    simp only [hpl]
    have e1 : (ents N)[i]'(by rw [hEl]; exact hlt) = (N[i].k, N[i].a) := by simp [ents]
    rw [e1, if_neg (hk hlt)]
  · have hie : i = N.length := by omega
    rw [dif_neg (by rw [hpl, hEl]; exact hlt), hie, ← hEl, List.take_length, List.drop_length]
theorem sla_merge {N : List Nd} {sz : Int} {i : Nat} (h : SLa N sz) (hlt : i < N.length) (m : Ag) (hm : 0 < m.c ∧ m.c < 18446744073709551616 ∧ rightB m = true) : SLa (N.set i { N[i] with a := m }) sz := by
  have hin : ∀ x ∈ N.set i { N[i] with a := m }, x ∈ N ∨ x = { N[i] with a := m } := fun x hx => List.mem_or_eq_of_mem_set hx
  have hmk : (N.set i { N[i] with a := m }).map Nd.k = N.map Nd.k := by
    apply List.ext_getElem
    · simp
    · intro j h1 h2
      rw [List.getElem_map, List.getElem_map, List.getElem_set]; split
      · rename_i e; subst e; rfl
      · rfl
  have hms : (N.set i { N[i] with a := m }).map (fun x => x.k.length + 41) = N.map fun x => x.k.length + 41 := by
    have e : ∀ M : List Nd, (M.map fun x => x.k.length + 41) = (M.map Nd.k).map fun k => k.length + 41 := fun M => by simp
    rw [e, e, hmk]
  refine ⟨by rw [hmk]; exact h.so, fun x hx => ?_, fun x hx => ?_, fun x hx => ?_, by rw [hms]; exact h.sz, by rw [List.length_set]; exact h.le⟩
  · rcases hin x hx with hx | rfl
    · exact h.ht x hx
    · exact h.ht N[i] (List.getElem_mem hlt)
  · rcases hin x hx with hx | rfl
    · exact h.kl x hx
    · exact h.kl N[i] (List.getElem_mem hlt)
  · rcases hin x hx with hx | rfl
    · exact h.ag x hx
    · exact hm
theorem sla_new {N : List Nd} {sz : Int} {i : Nat} {k : Ks} (h : SLa N sz) (hle : i ≤ N.length) (hi : plK (N.map Nd.k) k = i) (hk : ∀ hlt : i < N.length, N[i].k ≠ k) (hl : N.length < 4096) (x : Nd) (hxk : x.k = k) (hx : 1 ≤ x.h ∧ x.h ≤ 8) (hkl : 1 ≤ k.length ∧ k.length ≤ 256) (hm : 0 < x.a.c ∧ x.a.c < 18446744073709551616 ∧ rightB x.a = true) : SLa (insN N i x) (sz + k.length + 41) := by
  have hin : ∀ y ∈ insN N i x, y ∈ N ∨ y = x := by
    intro y hy
    unfold insN at hy
    rcases List.mem_append.1 hy with hy | hy
    · exact .inl (List.mem_of_mem_take hy)
    · rcases List.mem_cons.1 hy with rfl | hy
      · exact .inr rfl
      · exact .inl (List.mem_of_mem_drop hy)
  refine ⟨?_, fun y hy => ?_, fun y hy => ?_, fun y hy => ?_, ?_, by rw [insN_len _ _ _ hle]; omega⟩
  · unfold insN
    rw [List.map_append, List.map_cons, List.map_take, List.map_drop, hxk, ← hi]
    exact sorted_ins h.so (fun hlt => by rw [List.getElem_map]; subst hi; exact hk (by simpa using hlt))
  · rcases hin y hy with hy | rfl
    · exact h.ht y hy
    · exact hx
  · rcases hin y hy with hy | rfl
    · exact h.kl y hy
    · rw [hxk]; exact hkl
  · rcases hin y hy with hy | rfl
    · exact h.ag y hy
    · exact hm
  · have h1 := h.sz
    unfold insN
    rw [sum_ins, List.take_append_drop, h1, hxk]; omega
set_option maxRecDepth 10000 in
theorem put_any (L0 : Nat) (E : List En) (fr : Bool) (kv : Value) (k : Ks) (a : Ag) (h : Int) (w : World) (base : Nat) (hbase : base ≤ w.heap.size) (hS : SK w base L0 E fr) (hR : Reads w kv k) (ha : 0 ≤ a.c ∧ a.c < 18446744073709551616) (hlen : E.length < 4096) :
    Calls Try.prog 8 #[.pointer (some ⟨L0, 0, none⟩), env kv a, .int .i64 h] w fun e w' => e = .returned (.int .i64 (mpF fr h k.length a)) ∧ SK w' base L0 (if mpF fr h k.length a = 0 then putE E k a else E) fr ∧ Below base w w' ∧ Kt w w' := by
  obtain ⟨N, hSL, rfl⟩ := hS
  have hlN : N.length < 4096 := by simpa [ents] using hlen
  by_cases hok : mpF fr h k.length a = 0
  · rw [hok, if_pos rfl]
    obtain ⟨m1, m2, m3, m4, m5, m6, m7⟩ := mpF_ok hok
    have hag : 0 < a.c ∧ a.c < 18446744073709551616 ∧ rightB a = true := ⟨by omega, ha.2, m7⟩
    have hsz := hSL.2.sz
    have hpl : plK (keysE (ents N)) k = plK (N.map Nd.k) k := by rw [keys_ents]
    have hle : plK (N.map Nd.k) k ≤ N.length := by have := plK_le (N.map Nd.k) k; simpa using this
    have hEl : (ents N).length = N.length := by simp [ents]
    generalize hi : plK (N.map Nd.k) k = i at *
    have hszb : sizE (ents N) ≤ 4096 * 300 := by
      rw [sizE_ents]
      have : ∀ (M : List Nd), (∀ x ∈ M, x.k.length ≤ 256) → (M.map fun x => x.k.length + 41).sum ≤ M.length * 300 := by
        intro M
        induction M with
        | nil => intro _; simp
        | cons x M ih => intro hM; have h1 := ih (fun y hy => hM y (List.mem_cons_of_mem _ hy)); have h2 := hM x (List.mem_cons_self ..); simp; omega
      have := this N (fun x hx => (hSL.2.kl x hx).2)
      omega
    by_cases hc : ∃ hlt : i < N.length, N[i].k = k
    · obtain ⟨hlt, hk⟩ := hc
      refine (put_merge L0 N _ fr kv k a h w base hbase hSL hR hok ha i hlt hi.symm hk).mono ?_
      rintro e w' ⟨rfl, hs, hb, hkt⟩
      refine ⟨rfl, ⟨N.set i { N[i] with a := mrg N[i].a a }, ⟨?_, ?_⟩, ?_⟩, hb, hkt⟩
      · have hmap : (N.set i { N[i] with a := mrg N[i].a a }).map hb2 = N.map hb2 := by
          rw [List.map_set]; apply List.ext_getElem
          · simp
          · intro j h1 h2
            rw [List.getElem_set]; split
            · rename_i e; subst e; simp [hb2]
            · rfl
        have hsz2 : sizE (putE (ents N) k a) = sizE (ents N) := by
          rw [putE_merge hlt hi hk]
          have h1 := (sla_merge hSL.2 hlt _ (mrg_ok (hSL.2.ag _ (List.getElem_mem hlt)) hag)).sz
          rw [sizE_ents]; omega
        rw [hsz2, List.length_set]
        exact hs.congrF (fun p j hp _ => (nxF_hb hmap (by simpa using hp) j).symm)
      · have h1 := sla_merge hSL.2 hlt _ (mrg_ok (hSL.2.ag _ (List.getElem_mem hlt)) hag)
        have hsz2 : sizE (putE (ents N) k a) = sizE (ents N) := by
          rw [putE_merge hlt hi hk]
          have h2 := h1.sz
          rw [sizE_ents]; omega
        rw [hsz2]; exact h1
      · exact (putE_merge hlt hi hk a).symm
    · have hnk : ∀ hlt : i < N.length, N[i].k ≠ k := fun hlt e => hc ⟨hlt, e⟩
      have hnx := nxF_zero hSL.2.ht hle
      obtain ⟨pn, hpn, hhas⟩ : ∃ pn, nxF N i 0 = .pointer pn ∧ ∀ w', Below w.heap.size w w' → Calls Try.prog 22 #[.pointer pn, kv] w' fun e w'' => e = .returned (.bool false) ∧ w'' = w' := by
        by_cases hlt : i < N.length
        · rw [dif_pos hlt] at hnx
          refine ⟨_, hnx, fun w' hb => ?_⟩
          have hn := hSL.1.nd i hlt
          have hbl := (Array.getElem?_eq_some_iff.1 hn).1
          have h1 : w.cell? ⟨N[i].b, 0, none⟩ = some N[i].kv := by simp [World.cell?, hn, ndc]
          have := has_some N[i].b N[i].kv N[i].k kv k w' ((hb.cell (p := ⟨N[i].b, 0, none⟩) hbl).trans h1) ((hSL.1.ky i hlt).reads.below hb) (hR.below hb)
          rw [decide_eq_false (hnk hlt)] at this
          exact this
        · rw [dif_neg hlt] at hnx
          exact ⟨_, hnx, fun w' hb => has_none kv k w' (hR.below hb)⟩
      refine (put_new L0 N _ fr kv k a h w base hbase hSL hR hok i hle hi.symm pn hpn hhas (by omega) ⟨by omega, by omega⟩).mono ?_
      rintro e w' ⟨rfl, ⟨b, kv', hs⟩, hb, hkt⟩
      have h1 := sla_new hSL.2 hle hi hnk hlN ⟨b, kv', k, a, h.toNat⟩ rfl ⟨by show 1 ≤ h.toNat; omega, by show h.toNat ≤ 8; omega⟩ ⟨m4, m5⟩ hag
      have hsz2 : ((sizE (putE (ents N) k a) : Nat) : Int) = (sizE (ents N) : Nat) + k.length + 41 := by
        rw [putE_new hle hi hnk a b kv' h.toNat, sizE_ents]
        exact h1.sz.symm
      refine ⟨rfl, ⟨_, ⟨?_, ?_⟩, (putE_new hle hi hnk a b kv' h.toNat).symm⟩, hb, hkt⟩
      · rw [hsz2, insN_len _ _ _ hle]; exact hs
      · rw [hsz2]; exact h1
  · rw [if_neg hok]
    refine (put_no L0 N _ fr kv k a h w base hSL hR hok).mono ?_
    rintro e w' ⟨rfl, hb⟩
    exact ⟨rfl, ⟨N, hSL.below hb, rfl⟩, hb.mono hbase, Kt.of_below hb⟩
end Go.Proofs.Ytbeemkcdpmbhmaa
