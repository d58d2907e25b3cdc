/- Rows of rows: those that a slice reads, with numbers in their reach; a row of slices of one's own; parts of rows. -/
import Derived.Test.YtdamlnpfpfpeeaaCN
import Derived.Test.YtdamlnpfpfpeeaaMG18
import Derived.Deep.MidRow
namespace Go.Proofs.Ytdamlnpfpfpeeaa
open Go.RowKit Go.Joins

/-- What is known, its sum in its reach. -/
def nz (a : Ag) : Ag := { a with s := hi a.s * 18446744073709551616 + lo a.s }
theorem hi_nz (a : Ag) : hi (nz a).s = hi a.s := by unfold nz hi lo; dsimp only; omega
theorem lo_nz (a : Ag) : lo (nz a).s = lo a.s := by unfold nz hi lo; dsimp only; omega
theorem nz_bd (a : Ag) : -170141183460469231731687303715884105728 ≤ (nz a).s ∧ (nz a).s < 170141183460469231731687303715884105728 := by unfold nz hi lo; dsimp only; omega
def nzE (x : En) : En := (x.1, nz x.2)
theorem c7_nz (kv : Value) (k : Ks) (a : Ag) : c7 ⟨kv, k, nz a⟩ = c7 ⟨kv, k, a⟩ := by
  unfold c7; dsimp only; rw [hi_nz, lo_nz]; rfl
theorem eReads_nz {w : World} {v : Value} {L : List En} (h : EReads w v L) : EReads w v (L.map nzE) := by
  obtain ⟨a, cap, rfl, h1, h2, h3⟩ := h
  refine ⟨a, cap, by simp, by simpa using h1, h2, ?_⟩
  rcases h3 with rfl | ⟨b, off, h4, h5, h6⟩
  · exact .inl rfl
  · refine .inr ⟨b, off, h4, h5, fun j hj => ?_⟩
    simp at hj
    obtain ⟨kv, g1, g2, g3⟩ := h6 j hj
    have e : (L.map nzE)[j]'(by simpa using hj) = nzE L[j] := by simp
    rw [e]
    refine ⟨kv, fun i hi => ?_, g2, g3⟩
    rw [g1 i hi]
    have := c7_nz kv L[j].1 L[j].2
    unfold nzE
    simp only [this]
    rfl
theorem rReads_nz {w : World} {v : Value} {rs : List (List En)} (h : RReads w v rs) : ∃ rs' : List (List En), RReads w v rs' ∧ ∀ r ∈ rs', ∀ x ∈ r, -170141183460469231731687303715884105728 ≤ x.2.s ∧ x.2.s < 170141183460469231731687303715884105728 := by
  refine ⟨rs.map fun r => r.map nzE, ?_, ?_⟩
  · obtain ⟨a, cap, rfl, h1, h2, h3⟩ := h
    refine ⟨a, cap, by simp, by simpa using h1, h2, ?_⟩
    rcases h3 with rfl | ⟨b, off, h4, h5, h6⟩
    · exact .inl rfl
    · refine .inr ⟨b, off, h4, h5, fun j hj => ?_⟩
      simp at hj
      obtain ⟨ev, g1, g2⟩ := h6 j hj
      have e : (rs.map fun r => r.map nzE)[j]'(by simpa using hj) = rs[j].map nzE := by simp
      rw [e]
      exact ⟨ev, g1, eReads_nz g2⟩
  · intro r hr x hx
    obtain ⟨r', _, rfl⟩ := List.mem_map.1 hr
    obtain ⟨y, _, rfl⟩ := List.mem_map.1 hx
    exact nz_bd y.2
theorem gd_rows {rs : List (List En)} (h : rowsF rs = 0) (hc : ∀ r ∈ rs, ∀ x ∈ r, CnOk x.2) (hs : ∀ r ∈ rs, ∀ x ∈ r, -170141183460469231731687303715884105728 ≤ x.2.s ∧ x.2.s < 170141183460469231731687303715884105728) : GdR rs :=
  fun r hr x hx => Gd.of (hc r hr x hx) ((rowF_ok (rowsF_ok.1 h r hr)).2 x hx) (hs r hr x hx).1 (hs r hr x hx).2
/-- A list, turned. -/
def rotl {α : Type} (L : List α) (t : Nat) : List α := L.drop (t % L.length) ++ L.take (t % L.length)
theorem rotl_perm {α : Type} (L : List α) (t : Nat) : (rotl L t).Perm L := by
  have := List.perm_append_comm (l₁ := L.drop (t % L.length)) (l₂ := L.take (t % L.length))
  rwa [List.take_append_drop] at this
theorem rotl_len {α : Type} (L : List α) (t : Nat) : (rotl L t).length = L.length := (rotl_perm L t).length_eq
theorem rotl_get {α : Type} (L : List α) (t k : Nat) (hk : k < L.length) : (rotl L t)[k]'(by rw [rotl_len]; exact hk) = L[(k + t) % L.length]'(Nat.mod_lt _ (by omega)) := by
  have hm : t % L.length < L.length := Nat.mod_lt _ (by omega)
  have e2 : (k + t) % L.length = (k + t % L.length) % L.length := by rw [Nat.add_mod_mod]
  unfold rotl
  by_cases hlt : k < (L.drop (t % L.length)).length
  · rw [List.getElem_append_left hlt, List.getElem_drop]
    have : (k + t) % L.length = t % L.length + k := by
      rw [List.length_drop] at hlt
      rw [e2, Nat.mod_eq_of_lt (by omega)]; omega
    simp only [this]
  · rw [List.getElem_append_right (by omega), List.getElem_take]
    have hl2 := hlt
    rw [List.length_drop] at hl2
    have : (k + t) % L.length = k - (L.drop (t % L.length)).length := by
      rw [List.length_drop, e2, show k + t % L.length = (k - (L.length - t % L.length)) + L.length by omega, Nat.add_mod_right, Nat.mod_eq_of_lt (by omega)]
    simp only [this]
theorem rotl_step {α : Type} {L : List α} {t k : Nat} (hk : k < L.length) : (rotl L t).take (k + 1) = (rotl L t).take k ++ [L[(k + t) % L.length]'(Nat.mod_lt _ (by omega))] := by
  have h2 : k < (rotl L t).length := by rw [rotl_len]; exact hk
  rw [List.take_add_one, List.getElem?_eq_getElem h2, rotl_get L t k hk]; rfl
theorem i64_and1023 (n : Int) : bits .and .i64 n 1023 = n % 1024 := by
  have h127 : (BitVec.ofInt 64 1023).toNat = 2 ^ 10 - 1 := by decide
  have key : (BitVec.ofInt 64 n &&& BitVec.ofInt 64 1023).toNat = (n % ((2 ^ 64 : Nat) : Int)).toNat % 2 ^ 10 := by
    rw [BitVec.toNat_and, BitVec.toNat_ofInt, h127, Nat.and_two_pow_sub_one_eq_mod]
  show IntKind.i64.wrap ((BitVec.ofInt 64 n &&& BitVec.ofInt 64 1023).toNat : Nat) = n % 1024
  rw [key, IntKind.wrap_i64]
  omega
theorem infoG : (Try.prog.info? 25).map (fun i => (i.zero, i.size, i.bytes)) = some (some (.slice none 0 0), 1, 24) := by kernel_rfl
/-- A row of slices of one's own, and what they read. -/
def GOwn (w0 w : World) (base : Nat) (v : Value) (Ls : List (List En)) : Prop := ∃ vs : List Value, w.ownsRow base 25 1 v Ls.length vs ∧ ∃ h : vs.length = Ls.length, ∀ j (hj : j < Ls.length), EReads w0 (vs[j]'(by omega)) Ls[j]
theorem GOwn.nil (w0 w : World) (base : Nat) : GOwn w0 w base (.slice none 0 0) [] := ⟨[], World.ownsRow_nil _ _ _ _, rfl, fun j hj => by simp at hj⟩
theorem GOwn.form {w0 w : World} {base : Nat} {v : Value} {Ls : List (List En)} (h : GOwn w0 w base v Ls) : ∃ a c, v = .slice a Ls.length c := by
  obtain ⟨vs, h1, _⟩ := h
  rcases h1.2 with ⟨h1, h2⟩ | ⟨g, cap, cur, hv, _⟩
  · exact ⟨none, 0, by rw [h1, h2]⟩
  · exact ⟨_, cap, hv⟩
theorem GOwn.reads {w0 w : World} {base : Nat} {v : Value} {Ls : List (List En)} (h : GOwn w0 w base v Ls) (hb : Below w0.heap.size w0 w) : RReads w v Ls := by
  obtain ⟨vs, h1, h2, h3⟩ := h
  have hlt := World.ownsRow.lt h1
  have h10 := h1
  rcases h1.2 with ⟨e1, e2⟩ | ⟨g, cap, cur, hv, hg, hw, hc, hm, _⟩
  · rw [e1]
    have : Ls = [] := List.length_eq_zero_iff.1 e2
    subst this
    exact ⟨none, 0, rfl, by simp, by simp, .inl rfl⟩
  · rw [hv] at h10
    refine ⟨_, cap, hv, hc, hm, ?_⟩
    rcases Nat.eq_zero_or_pos Ls.length with h0 | h0
    · exact .inl (List.length_eq_zero_iff.1 h0)
    · refine .inr ⟨g, 0, rfl, (hlt g (by rw [hv]; rfl)).2, fun j hj => ⟨vs[j]'(by omega), ?_, (h3 j hj).below hb⟩⟩
      rw [Nat.zero_add, World.ownsRow.cellAt h10 j (by omega), List.getElem?_eq_getElem (by omega)]
/-- One more. -/
theorem GOwn.snoc {w0 w : World} {base : Nat} {v : Value} {Ls : List (List En)} {e : Value} {L : List En} {M : List (List En)} (hM : M = Ls ++ [L]) (vs : List Value) (h : w.ownsRow base 25 1 v (Ls.length + 1) (vs ++ [e])) (h2 : vs.length = Ls.length) (h3 : ∀ j (hj : j < Ls.length), EReads w0 (vs[j]'(by omega)) Ls[j]) (he : EReads w0 e L) : GOwn w0 w base v M := by
  subst hM
  refine ⟨vs ++ [e], by simpa using h, by simp [h2], fun j hj => ?_⟩
  rcases Nat.lt_or_ge j Ls.length with hlt | hge
  · rw [List.getElem_append_left (by omega), List.getElem_append_left hlt]; exact h3 j hlt
  · have : j = Ls.length := by simp at hj; omega
    subst this
    rw [List.getElem_append_right (by omega), List.getElem_append_right (by omega)]
    simp [h2]; exact he
theorem sizeG (w : World) : (sizeOf 25).run Try.prog w = .ok 1 w := by
  simp [sizeOf]
  rfl
theorem elemG : Try.prog.elem 22 = 25 := by kernel_rfl
theorem undG : Try.prog.underlying 22 = some (.slice (Try.prog.elem 22)) := by rw [elemG]; exact Try.underlying22
theorem RReads.sliced {w : World} {a : Option Addr} {cap : Nat} {L : List (List En)} (h : RReads w (.slice a L.length cap) L) {c d : Nat} (hc : c ≤ d) (hd : d ≤ L.length) : RReads w (Go.sliced a c d cap 1) ((L.take d).drop c) := by
  obtain ⟨a', cap', hv, h1, h2, h3⟩ := h
  simp at hv
  obtain ⟨rfl, rfl⟩ := hv
  unfold Go.sliced
  have hl : ((L.take d).drop c).length = d - c := by simp; omega
  refine ⟨_, cap - c, by rw [hl], by omega, by omega, ?_⟩
  rcases Nat.eq_zero_or_pos (d - c) with h0 | h0
  · exact .inl (List.length_eq_zero_iff.1 (by omega))
  · rcases h3 with rfl | ⟨b, off, rfl, h5, h6⟩
    · simp at hd; omega
    · rw [if_neg (by omega)]
      refine .inr ⟨b, off + c, by simp [Addr.add], h5, fun j hj => ?_⟩
      obtain ⟨ev, g1, g2⟩ := h6 (c + j) (by omega)
      refine ⟨ev, by rw [Nat.add_assoc]; exact g1, ?_⟩
      have e : ((L.take d).drop c)[j]'hj = L[c + j]'(by omega) := by simp
      rw [e]; exact g2
theorem gsl_from {w : World} {a : Option Addr} {cap : Nat} {L : List (List En)} (h : RReads w (.slice a L.length cap) L) {c : Nat} (hc : c ≤ L.length) :
    ∃ a' cap', (∀ w', (Instr.slice 22 (.slice a L.length cap) (some (.int .i64 (c : Int))) none none).run Try.prog w' = .ok (.slice a' (L.length - c) cap') w') ∧ RReads w (.slice a' (L.length - c) cap') (L.drop c) := by
  refine ⟨(if cap = c then a else a.map (·.add (c * 1))), cap - c, fun w' => ?_, ?_⟩
  rotate_left
  · have := h.sliced hc (Nat.le_refl _)
    rw [List.take_length] at this
    exact this
  · rw [run_slice_l _ _ _ _ _ undG _ _ (by omega) (by omega), elemG, sizeG]
    rfl
theorem gsl_upto {w : World} {a : Option Addr} {cap : Nat} {L : List (List En)} (h : RReads w (.slice a L.length cap) L) {d : Nat} (hd : d ≤ L.length) :
    ∃ a' cap', (∀ w', (Instr.slice 22 (.slice a L.length cap) none (some (.int .i64 (d : Int))) none).run Try.prog w' = .ok (.slice a' d cap') w') ∧ RReads w (.slice a' d cap') (L.take d) := by
  have hcap : d ≤ cap := by
    obtain ⟨a', cap', hv, h1, _⟩ := h
    simp at hv
    omega
  refine ⟨(if cap = 0 then a else a.map (·.add (0 * 1))), cap - 0, fun w' => ?_, ?_⟩
  rotate_left
  · exact h.sliced (Nat.zero_le d) hd
  · rw [run_slice_h _ _ _ _ _ undG _ _ (by omega) (by omega), elemG, sizeG]
    rfl
/-- All of rows that are rows. -/
theorem all_ok (v : Value) (rs : List (List En)) (w : World) (hR : RReads w v rs) (hl1 : rs.length ≤ 10000) (hl2 : ∀ r ∈ rs, r.length ≤ 100000) (hl3 : ∀ r ∈ rs, ∀ x ∈ r, x.1.length ≤ 100000) (hz : rowsF rs = 0) (A : List En) (hA : A = allF rs) :
    Calls Try.prog 6 #[v] w fun e w' => ∃ a cap, e = .returned (.tuple #[.slice a A.length cap, .int .i64 0]) ∧ EReads w' (.slice a A.length cap) A ∧ Below w.heap.size w w' := by
  subst hA
  refine (all_some v rs w hR hl1 hl2 hl3).mono ?_
  rintro e w2 ⟨hb2, ⟨hne, rfl⟩ | ⟨_, l, xs, rfl, ho, hm, hc⟩⟩
  · exact absurd hz hne
  · have h9 := ho.reads hc
    rw [hm] at h9
    obtain ⟨a, cap, rfl, _⟩ := h9.form
    exact ⟨a, cap, rfl, h9, hb2⟩
end Go.Proofs.Ytdamlnpfpfpeeaa
