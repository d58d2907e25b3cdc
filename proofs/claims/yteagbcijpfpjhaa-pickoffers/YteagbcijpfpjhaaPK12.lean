/- Runs put behind runs of one's own; the same runs in another order. -/
import Derived.Test.YteagbcijpfpjhaaPK11
namespace Go.Proofs.Yteagbcijpfpjhaa
open Go.RowKit Go.Shelf

theorem wp_app_run {w w' : World} {o : Oper} {a : Act} {K : Act → World → Prop} {Q : Exit → Act → World → Prop} (s x : Operand) (t ty : TypeId) (ho : o.op = .call { callee := .builtin .append, args := #[s, x], argTypes := #[t, t] }) (hty : o.type = ty) (v vx v' : Value) (hs : a.eval s = v) (hx : a.eval x = vx)
    (hrun : (Builtin.append_ #[t, t] ty #[v, vx]).run Try.prog w = .ok v' w') (h : K (a.put o.dst v') w') : o.wp Try.prog a w K Q := by
  subst hty
  unfold Oper.wp
  simp [execOp, ho, resolve, invoke, builtin, hs, hx, hrun, Result.andThen]
  exact h
theorem wpList_app_run {w w' : World} {ops : Array Oper} {rest : List Oper} {o : Oper} {a : Act} {Q : Exit → Act → World → Prop} (hgd : o.guard = none) (s x : Operand) (t ty : TypeId) (ho : o.op = .call { callee := .builtin .append, args := #[s, x], argTypes := #[t, t] }) (hty : o.type = ty) (v vx v' : Value) (hs : a.eval s = v) (hx : a.eval x = vx)
    (hrun : (Builtin.append_ #[t, t] ty #[v, vx]).run Try.prog w = .ok v' w') (h : wpList Try.prog ops Q rest (a.put o.dst v') w') : wpList Try.prog ops Q (o :: rest) a w :=
  wpList_plain hgd fun _ hK => wp_app_run s x t ty ho hty v vx v' hs hx hrun (hK _ _ h)
def rnZ : Rn := ⟨0, 0, 0, false⟩
def rotN (L : List Rn) (t : Nat) : List Rn := (List.range L.length).map fun j => L.getD ((j + t) % L.length) rnZ
theorem rotN_len (L : List Rn) (t : Nat) : (rotN L t).length = L.length := by simp [rotN]
theorem rotN_step' {L : List Rn} {t k : Nat} (hk : k < L.length) : (rotN L t).take (k + 1) = (rotN L t).take k ++ [L[(k + t) % L.length]'(Nat.mod_lt _ (by omega))] := by
  rw [List.take_add_one]
  congr 1
  have h1 : (k + t) % L.length < L.length := Nat.mod_lt _ (by omega)
  simp [rotN, hk, List.getD, h1]
theorem rotN_eq (L : List Rn) (t : Nat) : rotN L t = L.drop (t % L.length) ++ L.take (t % L.length) := by
  by_cases h0 : L.length = 0
  · have : L = [] := List.length_eq_zero_iff.1 h0
    subst this; simp [rotN]
  · have hm : t % L.length < L.length := Nat.mod_lt _ (by omega)
    apply List.ext_getElem
    · simp [rotN_len]; omega
    · intro j h1 h2
      rw [rotN_len] at h1
      have hj : (j + t) % L.length < L.length := Nat.mod_lt _ (by omega)
      have e1 : (rotN L t)[j]'(by rw [rotN_len]; exact h1) = L[(j + t) % L.length] := by
        simp [rotN, List.getD, hj]
      rw [e1]
      have e2 : (j + t) % L.length = (j + t % L.length) % L.length := by rw [Nat.add_mod_mod]
      by_cases hlt : j < (L.drop (t % L.length)).length
      · rw [List.getElem_append_left hlt, List.getElem_drop]
        have : (j + t) % L.length = t % L.length + j := by
          rw [List.length_drop] at hlt
          rw [e2, Nat.mod_eq_of_lt (by omega)]; omega
        simp only [this]
      · rw [List.getElem_append_right (by omega), List.getElem_take]
        have hl2 := hlt
        rw [List.length_drop] at hl2
        have : (j + t) % L.length = j - (L.drop (t % L.length)).length := by
          rw [List.length_drop, e2, show j + t % L.length = (j - (L.length - t % L.length)) + L.length by omega, Nat.add_mod_right, Nat.mod_eq_of_lt (by omega)]
        simp only [this]
theorem rotN_perm (L : List Rn) (t : Nat) : (rotN L t).Perm L := by
  rw [rotN_eq]
  have := List.perm_append_comm (l₁ := L.drop (t % L.length)) (l₂ := L.take (t % L.length))
  rwa [List.take_append_drop] at this
theorem i64_and1023 (n : Int) : bits .and .i64 n 1023 = n % 1024 := by
  have h127 : (BitVec.ofInt 64 1023).toNat = 2 ^ 10 - 1 := by decide
  have key : (BitVec.ofInt 64 n &&& BitVec.ofInt 64 1023).toNat = (n % ((2 ^ 64 : Nat) : Int)).toNat % 2 ^ 10 := by
    rw [BitVec.toNat_and, BitVec.toNat_ofInt, h127, Nat.and_two_pow_sub_one_eq_mod]
  show IntKind.i64.wrap ((BitVec.ofInt 64 n &&& BitVec.ofInt 64 1023).toNat : Nat) = n % 1024
  rw [key, IntKind.wrap_i64]
  omega
theorem oneR4 {r : Rn} : ∀ u ∈ r4 r, u.oneCell' = true := by
  intro u hu
  simp [r4] at hu
  rcases hu with rfl | rfl | rfl | rfl <;> rfl
theorem newsR4 {w : World} {r : Rn} {T : TypeId} : ∀ j u, (r4 r)[j]? = some u → (w.alloc (.cells #[.int .i64 r.f, .int .i64 r.l, .int .i64 r.c, .bool r.s] T)).cell? ((⟨w.heap.size, 0, none⟩ : Addr).add j) = some u := by
  intro j u hj
  match j, hj with
  | 0, hj => simp [r4] at hj; subst hj; simp [Addr.add]
  | 1, hj => simp [r4] at hj; subst hj; simp [Addr.add]
  | 2, hj => simp [r4] at hj; subst hj; simp [Addr.add]
  | 3, hj => simp [r4] at hj; subst hj; simp [Addr.add]
  | j + 4, hj => simp [r4] at hj
/-- One run, just laid, behind runs of one's own. -/
theorem run_appN {S T : TypeId} (und : Try.prog.underlying S = some (.slice T)) (inf : (Try.prog.info? T).map (fun i => (i.zero, i.size, i.bytes)) = some (some (.agg #[.int .i64 0, .int .i64 0, .int .i64 0, .bool false]), 4, 32)) {w0 : World} (ty : TypeId) (base : Nat) (v : Value) (L : List Rn) (r : Rn) (M : List Rn) (hM : M = L ++ [r]) (hown : NOwn T w0 base v L) (hr : RnOk r) (hlen : L.length ≤ 1000000) (hbase : base ≤ w0.heap.size) :
    ∃ v' w', (Builtin.append_ #[S, S] ty #[v, .slice (some ⟨w0.heap.size, 0, none⟩) 1 1]).run Try.prog (w0.alloc (.cells #[.int .i64 r.f, .int .i64 r.l, .int .i64 r.c, .bool r.s] T)) = .ok v' w' ∧ NOwn T w' base v' M ∧ Below base w0 w' := by
  subst hM
  obtain ⟨i0, hi, hz0, hz1, hz2⟩ := info_parts inf
  obtain ⟨v', w', hrun, hown', hgrow, _⟩ := run_append_own (P := Try.prog) (w0.alloc (.cells #[.int .i64 r.f, .int .i64 r.l, .int .i64 r.c, .bool r.s] T)) base S ty T i0 _ 4 32 und hi hz0 hz1 hz2 rfl (by decide) v L.length (L.flatMap r4) (hown.1.alloc _) ⟨w0.heap.size, 0, none⟩ 1 1 (r4 r) rfl newsR4 oneR4 (by unfold maxLen; omega) (by omega) (by simp; omega)
  refine ⟨v', w', hrun, ⟨?_, ?_⟩, ((Below.refl _ _).alloc hbase _).grown hgrow (by simp; omega) (own_block hown.1)⟩
  · rw [List.flatMap_append, List.length_append]
    simpa using hown'
  · intro x hx
    rcases List.mem_append.1 hx with h | h
    · exact hown.2 x h
    · simp at h; subst h; exact hr
theorem infoN : (Try.prog.info? 48).map (fun i => (i.zero, i.size, i.bytes)) = some (some (.agg #[.int .i64 0, .int .i64 0, .int .i64 0, .bool false]), 4, 32) := by kernel_rfl
theorem apart_symm {a b : Rn} (h : apart a b) : apart b a := ⟨fun e => h.1 e.symm, fun ⟨h1, h2⟩ => h.2 ⟨by omega, h2.symm⟩⟩
theorem okR_perm {L M : List Rn} (h : L.Perm M) (hL : okR L) : okR M :=
  ⟨by rw [← h.length_eq]; exact hL.1, fun r hr => hL.2.1 r (h.mem_iff.2 hr), (h.pairwise_iff (fun {a b} => apart_symm)).1 hL.2.2⟩
theorem pkF_perm {L M : List Rn} (h : L.Perm M) (ls : List Int) : (pkF ls L).Perm (pkF ls M) := (h.filter _).map _
theorem filF_perm {L M : List Rn} (h : L.Perm M) (ls : List Int) : filF ls L = filF ls M := srt_of_perm (pkF_perm h ls)
theorem fulF_perm {L M : List Rn} (h : L.Perm M) (lv : Int) : fulF L lv = fulF M lv := by
  have ha : ∀ p : Rn → Bool, L.any p = M.any p := fun p => by
    rw [Bool.eq_iff_iff, List.any_eq_true, List.any_eq_true]
    exact ⟨fun ⟨x, h1, h2⟩ => ⟨x, h.mem_iff.1 h1, h2⟩, fun ⟨x, h1, h2⟩ => ⟨x, h.mem_iff.2 h1, h2⟩⟩
  unfold fulF
  rw [filF_perm h, ha, ha]
theorem foldl_le (lv : Int) : ∀ (L : List Rn) (m : Int), (∀ r ∈ L, 1 ≤ r.f) → 0 ≤ m → 0 ≤ L.foldl (stepR lv) m ∧ (m ≠ 0 → L.foldl (stepR lv) m ≠ 0 ∧ L.foldl (stepR lv) m ≤ m) ∧ ∀ r ∈ L, r.l = lv → r.s = true → L.foldl (stepR lv) m ≠ 0 ∧ L.foldl (stepR lv) m ≤ r.f
  | [], m, _, hm => ⟨hm, fun h => ⟨h, Int.le_refl _⟩, fun r hr => by simp at hr⟩
  | r :: L, m, hL, hm => by
    have h1 : 1 ≤ r.f := hL r (List.mem_cons_self ..)
    have hs : 0 ≤ stepR lv m r ∧ (m ≠ 0 → stepR lv m r ≠ 0 ∧ stepR lv m r ≤ m) ∧ (r.l = lv → r.s = true → stepR lv m r ≠ 0 ∧ stepR lv m r ≤ r.f) := by
      unfold stepR
      split
      · rename_i hc
        exact ⟨by omega, fun h => ⟨by omega, by rcases hc.2.2 with h | h <;> omega⟩, fun _ _ => ⟨by omega, Int.le_refl _⟩⟩
      · rename_i hc
        refine ⟨hm, fun h => ⟨h, Int.le_refl _⟩, fun h2 h3 => ?_⟩
        have h4 : ¬ (m = 0 ∨ r.f < m) := fun h => hc ⟨h2, h3, h⟩
        exact ⟨fun e => h4 (.inl e), by omega⟩
    obtain ⟨i1, i2, i3⟩ := foldl_le lv L (stepR lv m r) (fun x hx => hL x (List.mem_cons_of_mem _ hx)) hs.1
    rw [List.foldl_cons]
    refine ⟨i1, fun h => ?_, fun x hx h2 h3 => ?_⟩
    · obtain ⟨a1, a2⟩ := hs.2.1 h
      obtain ⟨b1, b2⟩ := i2 a1
      exact ⟨b1, by omega⟩
    · rcases List.mem_cons.1 hx with rfl | hx
      · obtain ⟨a1, a2⟩ := hs.2.2 h2 h3
        obtain ⟨b1, b2⟩ := i2 a1
        exact ⟨b1, by omega⟩
      · exact i3 x hx h2 h3
theorem renF_le {L : List Rn} (hL : ∀ r ∈ L, 1 ≤ r.f) (lv : Int) {r : Rn} (hr : r ∈ L) (h1 : r.l = lv) (h2 : r.s = true) : renF L lv ≠ 0 ∧ renF L lv ≤ r.f := (foldl_le lv L 0 hL (Int.le_refl _)).2.2 r hr h1 h2
theorem renF_perm {L M : List Rn} (h : L.Perm M) (hL : ∀ r ∈ L, 1 ≤ r.f) (lv : Int) : renF L lv = renF M lv := by
  have hM : ∀ r ∈ M, 1 ≤ r.f := fun r hr => hL r (h.mem_iff.2 hr)
  rcases foldl_stepR lv L 0 with e | ⟨x, hx, x1, x2, x3⟩
  · rcases foldl_stepR lv M 0 with f | ⟨y, hy, y1, y2, y3⟩
    · exact e.trans f.symm
    · exact absurd e (renF_le hL lv (h.mem_iff.2 hy) y1 y2).1
  · have ex : renF L lv = x.f := x3
    have k1 := renF_le hM lv (h.mem_iff.1 hx) x1 x2
    rcases foldl_stepR lv M 0 with f | ⟨y, hy, y1, y2, y3⟩
    · exact absurd f k1.1
    · have ey : renF M lv = y.f := y3
      have k2 := renF_le hL lv (h.mem_iff.2 hy) y1 y2
      omega
theorem offT_perm {L M : List Rn} (h : L.Perm M) (hL : ∀ r ∈ L, 1 ≤ r.f) : offT L = offT M := by
  have hr : ∀ lv, renT L lv = renT M lv := fun lv => by unfold renT; rw [renF_perm h hL]
  have hs : ∀ k, stT L k = stT M k := by
    intro k
    induction k with
    | zero => rfl
    | succ k ih => rw [stT, stT, ih, hr]
  unfold offT
  rw [fulF_perm h, fulF_perm h, fulF_perm h, filF_perm h, filF_perm h, filF_perm h, hs]
end Go.Proofs.Yteagbcijpfpjhaa
