/- SV5 RH, joined. -/
import Derived.Test.YtoibmjmajbkbcaaSG1
import Derived.Test.YtoibmjmajbkbcaaSG8
import Derived.Test.YtoibmjmajbkbcaaSG11
import Derived.Test.YtoibmjmajbkbcaaSG18
/- Rows of entries: what one holds is set in place; places of keys. -/
namespace Go.Proofs.Ytoibmjmajbkbcaa
open Go.RowKit

theorem pl_of {E : List En} (hs : srt E) {k : Ks} {n : Nat} (hn : n ≤ E.length) (h1 : ∀ j (hj : j < E.length), j < n → ltK E[j].1 k) (h2 : ∀ hn : n < E.length, ¬ ltK E[n].1 k) : plK (keysE E) k = n := by
  have hl : (keysE E).length = E.length := by simp [keysE]
  have hg : ∀ j (hj : j < E.length), (keysE E)[j]'(by rw [hl]; exact hj) = E[j].1 := fun j hj => by simp [keysE]
  have hle := plK_le (keysE E) k
  rcases Nat.lt_trichotomy (plK (keysE E) k) n with h | h | h
  · have hj : plK (keysE E) k < E.length := by omega
    have h3 := plK_ge hs (Nat.le_refl (plK (keysE E) k)) (by rw [hl]; exact hj)
    rw [hg _ hj] at h3
    exact absurd (h1 _ hj h) h3
  · exact h
  · have hj : n < E.length := by omega
    have h3 := plK_lt h (by rw [hl]; exact hj)
    rw [hg _ hj] at h3
    exact absurd h3 (h2 hj)
/-- What is known of an entry of a row is set. -/
def setG (w : World) (g o : Nat) (a : Ag) : World := (((((w.setCell ⟨g, o, none⟩ (.int .u64 a.c)).setCell ⟨g, o + 1, none⟩ (.bool a.o)).setCell ⟨g, o + 2, none⟩ (.int .i64 (hi a.s))).setCell ⟨g, o + 3, none⟩ (.int .u64 (lo a.s))).setCell ⟨g, o + 4, none⟩ (.int .i64 a.mn)).setCell ⟨g, o + 5, none⟩ (.int .i64 a.mx)
theorem setG_other {w : World} {g o c : Nat} (a : Ag) (h : c ≠ g) : (setG w g o a).heap[c]? = w.heap[c]? := by
  unfold setG
  rw [Below.heap_setCell _ _ _ _ h, Below.heap_setCell _ _ _ _ h, Below.heap_setCell _ _ _ _ h, Below.heap_setCell _ _ _ _ h, Below.heap_setCell _ _ _ _ h, Below.heap_setCell _ _ _ _ h]
theorem setG_below {w0 w : World} {n g : Nat} (o : Nat) (a : Ag) (h : Below n w0 w) (hb : n ≤ g) : Below n w0 (setG w g o a) := (((((h.setCell hb _).setCell hb _).setCell hb _).setCell hb _).setCell hb _).setCell hb _
theorem flat_split (xs : List Ev) (k : Nat) (hk : k < xs.length) : xs.flatMap c7 = (xs.take k).flatMap c7 ++ (c7 xs[k] ++ (xs.drop (k + 1)).flatMap c7) := by
  conv => lhs; rw [← List.take_append_drop k xs, List.drop_eq_getElem_cons hk]
  rw [List.flatMap_append, List.flatMap_cons]
theorem flat_set (xs : List Ev) (k : Nat) (hk : k < xs.length) (m : Ag) : (xs.set k { xs[k] with a := m }).flatMap c7 = ((((((xs.flatMap c7).set (7 * k + 1) (.int .u64 m.c)).set (7 * k + 1 + 1) (.bool m.o)).set (7 * k + 1 + 2) (.int .i64 (hi m.s))).set (7 * k + 1 + 3) (.int .u64 (lo m.s))).set (7 * k + 1 + 4) (.int .i64 m.mn)).set (7 * k + 1 + 5) (.int .i64 m.mx) := by
  have hl : ((xs.take k).flatMap c7).length = 7 * k := by rw [flat_len7, List.length_take, Nat.min_eq_left (by omega)]; omega
  have hA : ∀ (B : List Value) (i : Nat) (u : Value), ((xs.take k).flatMap c7 ++ B).set (7 * k + 1 + i) u = (xs.take k).flatMap c7 ++ B.set (1 + i) u := by
    intro B i u
    rw [List.set_append_right _ _ (by rw [hl]; omega), hl, show 7 * k + 1 + i - 7 * k = 1 + i by omega]
  have hA0 := fun (B : List Value) (u : Value) => hA B 0 u
  simp only [Nat.add_zero] at hA0
  rw [flat_split xs k hk, hA0, hA, hA, hA, hA, hA]
  have hk' : k < (xs.set k { xs[k] with a := m }).length := by rw [List.length_set]; exact hk
  rw [flat_split _ k hk', List.take_set_of_le (Nat.le_refl _), List.getElem_set_self, List.drop_set_of_lt (by omega)]
  rfl
theorem OwnE.setG {w : World} {base g cap : Nat} {xs : List Ev} (h : OwnE w base (.slice (some ⟨g, 0, none⟩) xs.length cap) xs) (k : Nat) (hk : k < xs.length) (m : Ag) : OwnE (setG w g (7 * k + 1) m) base (.slice (some ⟨g, 0, none⟩) xs.length cap) (xs.set k { xs[k] with a := m }) := by
  unfold OwnE
  rw [List.length_set, flat_set xs k hk m]
  unfold Go.Proofs.Ytoibmjmajbkbcaa.setG
  exact (World.ownsRow.stored (World.ownsRow.stored (World.ownsRow.stored (World.ownsRow.stored (World.ownsRow.stored (World.ownsRow.stored h _ _).1 _ _).1 _ _).1 _ _).1 _ _).1 _ _).1
theorem OwnE.at {w : World} {base : Nat} {v : Value} {xs : List Ev} (h : OwnE w base v xs) (h0 : 0 < xs.length) : ∃ g off cap, Hid (off = 0) ∧ v = .slice (some ⟨g, off, none⟩) xs.length cap ∧ base ≤ g ∧ g < w.heap.size ∧ (∃ cs, w.heap[g]? = some (.cells cs 36)) ∧ (∀ j (hj : j < xs.length) i (hi : i < 7), w.cell? ⟨g, off + (7 * j + i), none⟩ = some ((c7 xs[j])[i]'hi)) ∧ ∀ i, w.frozen? ⟨g, i, none⟩ = false := by
  have hlt := World.ownsRow.lt h
  have hr := h
  obtain ⟨h1, h2⟩ := h
  rcases h2 with ⟨rfl, h3⟩ | ⟨g, cap, cur, hv, hg, hw, hc, hm, hs, ht⟩
  · omega
  · rw [hv] at hr
    refine ⟨g, 0, cap, rfl, hv, hg, (hlt g (by rw [hv]; rfl)).2, ⟨cur, hw⟩, fun j hj i hi => ?_, fun i => World.ownsRow.frozenAt hr i⟩
    rw [show 0 + (7 * j + i) = 7 * j + i by omega, World.ownsRow.cellAt hr _ (by omega), flat7 xs j i hj hi, List.getElem?_eq_getElem hi]
theorem over_of {a : Ag} (h : rightB a = true) : a.o = true → a.c = 18446744073709551615 := by
  intro ho
  unfold rightB at h
  split at h
  · rw [ho] at h; simp at h
  · rw [ho] at h; simp at h; exact h.2
/-- The reference's list with one entry's knowledge set. -/
theorem RL.setG {P : Nat → Prop} {w : World} {base Y : Nat} {f : Bool} {g cap : Nat} {xs : List Ev} (hY : w.heap[Y]? = some (.cells #[.slice (some ⟨g, 0, none⟩) xs.length cap, .bool f] 28)) (hO : EOwn w base (.slice (some ⟨g, 0, none⟩) xs.length cap) xs) (hb : base ≤ Y) (hP : ∀ x ∈ xs, ∀ g, x.kv.ownBlock = some g → P g) (hPv : P g) (hg : ∃ cs, w.heap[g]? = some (.cells cs 36)) (k : Nat) (hk : k < xs.length) (m : Ag) : RL P (setG w g (7 * k + 1) m) base Y ((xs.map evE).set k (xs[k].k, m)) f ∧ Ku w (setG w g (7 * k + 1) m) := by
  obtain ⟨cs, hg⟩ := hg
  have hne : ∀ c cs' T q, T ≠ 36 → w.heap[c]? = some (.cells cs' T q) → c ≠ g := by
    intro c cs' T q hT hc e
    subst e
    rw [hg] at hc
    simp at hc
    exact hT hc.2.1.symm
  refine ⟨⟨.slice (some ⟨g, 0, none⟩) xs.length cap, xs.set k { xs[k] with a := m }, ?_, ⟨hO.row.setG k hk m, fun x hx => ?_⟩, ?_, hb, fun x hx => ?_, fun g' hg' => ?_⟩, fun c cs' T q h1 _ hc => ?_⟩
  · rw [setG_other m (hne _ _ _ _ (by decide) hY)]; exact hY
  · have : ∀ x ∈ xs, Own (Go.Proofs.Ytoibmjmajbkbcaa.setG w g (7 * k + 1) m) base x.kv x.k := fun x hx => own_via (hO.2 x hx) fun c cs' q _ hc => by
      rw [setG_other m (hne _ _ _ _ (by decide) hc)]; exact hc
    rcases List.mem_or_eq_of_mem_set hx with hx | rfl
    · exact this x hx
    · exact this xs[k] (List.getElem_mem hk)
  · rw [List.map_set]; rfl
  · rcases List.mem_or_eq_of_mem_set hx with hx | rfl
    · exact hP x hx
    · exact hP xs[k] (List.getElem_mem hk)
  · simp [Value.ownBlock] at hg'
    subst hg'
    exact hPv
  · rw [setG_other m (hne _ _ _ _ h1 hc)]; exact hc
theorem wpList_app_runE {w w' : World} {ops : Array Oper} {rest : List Oper} {o : Oper} {a : Act} {Q : Exit → Act → World → Prop} (hgd : o.guard = none) (s x : Operand) (t ty : TypeId) (ho : o.op = .call { callee := .builtin .append, args := #[s, x], argTypes := #[t, t] }) (hty : o.type = ty) (v vx v' : Value) (hs : a.eval s = v) (hx : a.eval x = vx)
    (hrun : (Builtin.append_ #[t, t] ty #[v, vx]).run Try.prog w = .ok v' w') (h : wpList Try.prog ops Q rest (a.put o.dst v') w') : wpList Try.prog ops Q (o :: rest) a w :=
  wpList_plain hgd fun _ hK => wp_app_run s x t ty ho hty v vx v' hs hx hrun (hK _ _ h)
theorem box7 {w : World} {b : Nat} {kv : Value} {a : Ag} {T : TypeId} (h : w.heap[b]? = some (.cells #[kv, .int .u64 a.c, .bool a.o, .int .i64 (hi a.s), .int .u64 (lo a.s), .int .i64 a.mn, .int .i64 a.mx] T)) :
    w.cell? ⟨b, 0, none⟩ = some kv ∧ w.cell? ⟨b, 1, none⟩ = some (.int .u64 a.c) ∧ w.cell? ⟨b, 2, none⟩ = some (.bool a.o) ∧ w.cell? ⟨b, 3, none⟩ = some (.int .i64 (hi a.s)) ∧ w.cell? ⟨b, 4, none⟩ = some (.int .u64 (lo a.s)) ∧ w.cell? ⟨b, 5, none⟩ = some (.int .i64 a.mn) ∧ w.cell? ⟨b, 6, none⟩ = some (.int .i64 a.mx) := by
  refine ⟨?_, ?_, ?_, ?_, ?_, ?_, ?_⟩ <;> simp [World.cell?, h]
theorem new7 {w : World} {kv : Value} {a : Ag} {k : Ks} {T : TypeId} : ERc (w.alloc (.cells #[kv, .int .u64 a.c, .bool a.o, .int .i64 (hi a.s), .int .u64 (lo a.s), .int .i64 a.mn, .int .i64 a.mx] T)) (.slice (some ⟨w.heap.size, 0, none⟩) 1 1) [⟨kv, k, a⟩] := by
  refine ⟨_, 1, rfl, by simp, by simp [maxLen], .inr ⟨w.heap.size, 0, rfl, by simp, fun j hj i hlt7 => ?_⟩⟩
  have e : j = 0 := by simpa using hj
  subst e
  have hn := World.alloc_heap_new w (.cells #[kv, .int .u64 a.c, .bool a.o, .int .i64 (hi a.s), .int .u64 (lo a.s), .int .i64 a.mn, .int .i64 a.mx] T)
  simp only [World.cell?]
  rw [hn]
  match i, hlt7 with
  | 0, _ => rfl
  | 1, _ => rfl
  | 2, _ => rfl
  | 3, _ => rfl
  | 4, _ => rfl
  | 5, _ => rfl
  | 6, _ => rfl
end Go.Proofs.Ytoibmjmajbkbcaa

/- A drawn region with a store at its end: what is loaded ahead of it is taken in the world ahead of it. -/
namespace Go.Proofs.Ytoibmjmajbkbcaa
open Go.RowKit

section
variable {P : Program} {ops : Array Oper} {Q : Exit → Act → World → Prop} {md : Region.Mode} {k : Nat} {St Pr : World → Prop}
/-- What holds all the time, and what holds till operation k has come up. -/
def StK (k : Nat) (St Pr : World → Prop) (L : Array Bool) (w : World) : Prop := St w ∧ (L.getD k false = false → Pr w)
def wpAnyS (P : Program) (md : Region.Mode) (ops : Array Oper) (Q : Exit → Act → World → Prop) (k : Nat) (St Pr : World → Prop) : Nat → Array Bool → Act → World → Prop
  | 0, listed, a, w => Region.ready md ops listed = [] ∧ Q .normal a w
  | fuel + 1, listed, a, w =>
    (Region.ready md ops listed = [] → Q .normal a w) ∧
    ∀ i ∈ Region.ready md ops listed, wpOp P ops Q i (fun a' w' => StK k St Pr (listed.setIfInBounds i true) w' ∧ wpAnyS P md ops Q k St Pr fuel (listed.setIfInBounds i true) a' w') a w
theorem wpAny_of_S : ∀ (fuel : Nat) (listed : Array Bool) (a : Act) (w : World), wpAnyS P md ops Q k St Pr fuel listed a w → wpAny P md ops Q fuel listed a w
  | 0, _, _, _, h => h
  | fuel + 1, _, _, _, h => ⟨h.1, fun i hi => wpOp_mono (fun a' w' h' => wpAny_of_S fuel _ a' w' h'.2) (h.2 i hi)⟩
/-- Whatever came up, what it waits for came up. -/
def Cl (md : Region.Mode) (ops : Array Oper) (L : Array Bool) : Prop := ∀ j o, ops[j]? = some o → L.getD j false = true → ∀ e ∈ o.after, Region.binds md e = true → L.getD e.on false = true
def clB (md : Region.Mode) (ops : Array Oper) (L : Array Bool) : Bool := (List.range ops.size).all fun j => !L.getD j false || match ops[j]? with | some o => o.after.all (fun e => !Region.binds md e || L.getD e.on false) | none => true
theorem clB_spec {L : Array Bool} (h : clB md ops L = true) : Cl md ops L := by
  intro j o ho hl e he hb
  have h1 := List.all_eq_true.1 h j (List.mem_range.2 (Array.getElem?_eq_some_iff.1 ho).1)
  rw [hl, ho] at h1
  simp only [Bool.not_true, Bool.false_or] at h1
  have h2 := Array.all_eq_true_iff_forall_mem.1 h1 e he
  rw [hb] at h2
  simpa using h2
theorem Cl.set {L : Array Bool} {j : Nat} (h : Cl md ops L) (hj : j ∈ Region.ready md ops L) : Cl md ops (L.setIfInBounds j true) := by
  obtain ⟨_, o, ho, hall⟩ := mem_ready.1 hj
  intro i oi hoi hl e he hb
  by_cases hij : j = i
  · subst hij
    rw [ho] at hoi
    obtain rfl : o = oi := by simpa using hoi
    exact getD_set_true (hall e he hb)
  · rw [getD_set_ne false hij] at hl
    exact getD_set_true (h i oi hoi hl e he hb)
/-- Does operation k wait for i? -/
def waits (md : Region.Mode) (ops : Array Oper) (k i : Nat) : Bool := match ops[k]? with | some o => o.after.any (fun e => Region.binds md e && e.on == i) | none => false
theorem wpAnyS_first {i : Nat} {oi : Oper} {v : Value} (hi : ops[i]? = some oi) (hsel : ∀ (j : Nat) (o : Oper) cs b, ops[j]? = some o → o.op ≠ .select cs b)
    (hQ : ∀ c a w, Q (.panic c) (a.put oi.dst v) w → Q (.panic c) a w) (hik : i ≠ k) (dep : Bool) (hdep : waits md ops k i = dep) :
    ∀ (fuel : Nat) (listed : Array Bool) (a : Act) (w : World), Cl md ops listed →
      (∀ j oj, ops[j]? = some oj → j ≠ i → listed.getD j true = false → (∀ e ∈ oj.after, Region.binds md e = true → e.on ≠ i) → oi.apart ops oj = true) →
      i ∈ Region.ready md ops listed → YieldsIf P ops (fun w' => St w' ∧ (dep = true → Pr w')) oi v a → StK k St Pr listed w →
      wpAnyS P md ops Q k St Pr fuel (listed.setIfInBounds i true) (a.put oi.dst v) w → wpAnyS P md ops Q k St Pr (fuel + 1) listed a w := by
  have hdone : ∀ (listed : Array Bool) (w : World), Cl md ops listed → i ∈ Region.ready md ops listed → StK k St Pr listed w → (St w ∧ (dep = true → Pr w)) := fun listed w hcl hr hS => by
    refine ⟨hS.1, fun hd => hS.2 ?_⟩
    subst hdep
    unfold waits at hd
    cases hok : ops[k]? with
    | none => rw [hok] at hd; cases hd
    | some ok =>
      rw [hok] at hd
      obtain ⟨e, he, hq⟩ := Array.any_eq_true'.1 hd
      simp only [Bool.and_eq_true, beq_iff_eq] at hq
      cases hl : listed.getD k false with
      | false => rfl
      | true =>
        have h1 := hcl k ok hok hl e he hq.1
        rw [hq.2] at h1
        have h0 := (mem_ready.1 hr).1
        rcases Nat.lt_or_ge i listed.size with h' | h'
        · simp [h'] at h0 h1; rw [h0] at h1; cases h1
        · simp [Array.getElem?_eq_none h'] at h1
  have hset : ∀ (listed : Array Bool) (w : World), StK k St Pr listed w → StK k St Pr (listed.setIfInBounds i true) w := fun listed w h => ⟨h.1, fun hk => h.2 (by rw [getD_set_ne false hik] at hk; exact hk)⟩
  intro fuel
  induction fuel with
  | zero =>
    intro listed a w hcl _ hr hy hS H
    refine ⟨fun h => (by rw [h] at hr; cases hr), fun j hj => ?_⟩
    by_cases hji : j = i
    · subst hji; exact YieldsIf.wpOp (S := fun w' => St w' ∧ (dep = true → Pr w')) hi hy (hdone _ _ hcl hr hS) ⟨hset _ _ hS, H⟩
    · have := ready_mono hj hji
      rw [H.1] at this
      cases this
  | succ fuel ih =>
    intro listed a w hcl hfree hr hy hS H
    refine ⟨fun h => (by rw [h] at hr; cases hr), fun j hj => ?_⟩
    by_cases hji : j = i
    · subst hji; exact YieldsIf.wpOp (S := fun w' => St w' ∧ (dep = true → Pr w')) hi hy (hdone _ _ hcl hr hS) ⟨hset _ _ hS, H⟩
    · have h1 := H.2 j (ready_mono hj hji)
      obtain ⟨hjun, oj, hoj, hall⟩ := mem_ready.1 hj
      have hnot : ∀ e ∈ oj.after, Region.binds md e = true → e.on ≠ i := fun e he hb heq => by
        have h1 := hall e he hb
        have h0 := (mem_ready.1 hr).1
        rw [heq] at h1
        rcases Nat.lt_or_ge i listed.size with h' | h'
        · simp [h'] at h0 h1; rw [h0] at h1; cases h1
        · simp [Array.getElem?_eq_none h'] at h1
      have h2 := wpOp_putIf hoj (hfree j oj hoj hji hjun hnot) (fun cs b => hsel i oi cs b hi) (fun cs b => hsel j oj cs b hoj) hQ hy h1
      have hfree' : ∀ k ok, ops[k]? = some ok → k ≠ i → (listed.setIfInBounds j true).getD k true = false →
          (∀ e ∈ ok.after, Region.binds md e = true → e.on ≠ i) → oi.apart ops ok = true := fun k ok hk hki hun hno => by
        refine hfree k ok hk hki ?_ hno
        by_cases hjk : j = k
        · subst hjk; exact hjun
        · rw [getD_set_ne true hjk] at hun; exact hun
      refine wpOp_mono (fun a' w' h3 => ?_) h2
      have hS' : StK k St Pr (listed.setIfInBounds j true) w' := ⟨h3.2.1.1, fun hk => h3.2.1.2 (by
        rw [Array.setIfInBounds_comm _ _ (Ne.symm hji), getD_set_ne false hik]; exact hk)⟩
      refine ⟨hS', ih (listed.setIfInBounds j true) a' w' (hcl.set hj) hfree' (ready_mono hr (Ne.symm hji)) h3.1 hS' ?_⟩
      rw [Array.setIfInBounds_comm _ _ hji]
      exact h3.2.2
theorem wpAnyS_take {i : Nat} {oi : Oper} {v : Value} {fuel : Nat} {listed : Array Bool} {a : Act} {w : World} (dep : Bool) (hi : ops[i]? = some oi)
    (hs : Region.noSelect ops = true) (hf : Region.free md ops listed i = true) (hr : (Region.ready md ops listed).contains i = true) (hcl : clB md ops listed = true) (hik : Nat.beq i k = false) (hdep : waits md ops k i = dep)
    (hQ : ∀ c a w, Q (.panic c) (a.put oi.dst v) w → Q (.panic c) a w) (hy : YieldsIf P ops (fun w' => St w' ∧ (dep = true → Pr w')) oi v a) (hS : StK k St Pr listed w)
    (h : StK k St Pr (listed.setIfInBounds i true) w → wpAnyS P md ops Q k St Pr fuel (listed.setIfInBounds i true) (a.put oi.dst v) w) : wpAnyS P md ops Q k St Pr (fuel + 1) listed a w := by
  have hne : i ≠ k := fun e => by subst e; simp at hik
  exact wpAnyS_first hi (Region.noSelect_spec hs) hQ hne dep hdep fuel listed a w (clB_spec hcl) (Region.free_spec hi hf) (by simpa using hr) hy hS (h ⟨hS.1, fun hk => hS.2 (by rw [getD_set_ne false hne] at hk; exact hk)⟩)
theorem wpAnyS_ready {i : Nat} {o : Oper} {fuel : Nat} {listed : Array Bool} {a : Act} {w : World} (hr : Region.ready md ops listed = [i]) (ho : ops[i]? = some o)
    (h : ∀ K : Act → World → Prop, Shut (∀ a w, StK k St Pr (listed.setIfInBounds i true) w → (StK k St Pr (listed.setIfInBounds i true) w → wpAnyS P md ops Q k St Pr fuel (listed.setIfInBounds i true) a w) → K a w) → if Region.wanted o (yielded ops a.tmps) = true then Oper.wp P o a w K Q else K (a.put o.dst undef) w) : wpAnyS P md ops Q k St Pr (fuel + 1) listed a w := by
  refine ⟨fun h0 => (by rw [hr] at h0; cases h0), fun j hj => ?_⟩
  rw [hr] at hj
  obtain rfl : j = i := by simpa using hj
  exact wpOp_step ho (fun K' hK => h K' (fun a w h1 h2 => hK a w ⟨h1, h2 h1⟩))
theorem wpAnyS_done {listed : Array Bool} {a : Act} {w : World} (hr : Region.ready md ops listed = []) (h : Q .normal a w) : ∀ fuel, wpAnyS P md ops Q k St Pr fuel listed a w
  | 0 => ⟨hr, h⟩
  | _ + 1 => ⟨fun _ => h, by rw [hr]; simp⟩
theorem wp_region_S {id : Nat} {a : Act} {w : World} (k : Nat) (St Pr : World → Prop) (hm : P.follows .mixedOrders = true) (hS : St w.drew) (hP : Pr w.drew)
    (h : StK k St Pr (Array.replicate ops.size false) w.drew → wpAnyS P .any ops Q k St Pr ops.size (Array.replicate ops.size false) a w.drew) : (Code.region id ops true).wp P Q a w :=
  wp_region_any hm (wpAny_of_S _ _ _ _ (h ⟨hS, fun _ => hP⟩))
end
end Go.Proofs.Ytoibmjmajbkbcaa
