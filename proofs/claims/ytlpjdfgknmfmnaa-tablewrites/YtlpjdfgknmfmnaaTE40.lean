/- TT5, joined. -/
import Derived.Test.YtlpjdfgknmfmnaaTE7
import Derived.Test.YtlpjdfgknmfmnaaTE39
/- table: entries of one's own; the entries of rows of bytes, plainly. -/
namespace Go.Proofs.Ytlpjdfgknmfmnaa
open Go.RowKit

theorem twrite_all (v : Value) (L : List Et) (w : World) (h : TRd w v L) : Calls Try.prog 7 #[v] w fun e w' => ∃ v', e = .returned (.tuple #[v', .int .i64 (twE L)]) ∧ Own w' w.heap.size v' (twB L) ∧ Below w.heap.size w w' := by
  by_cases hT : tmF L = 0
  · exact twrite_any v L w h hT
  · have e1 : twE L = tmF L := by unfold twE; rw [if_pos hT]
    have e2 : twB L = [] := by unfold twB; rw [e1, if_neg hT]
    refine (twrite_bad v L w h hT).mono ?_
    rintro e w' ⟨rfl, hb⟩
    exact ⟨_, by rw [e1], by rw [e2]; exact Own.nil _ _, hb⟩
/-- An entry in memory. -/
structure Ee where
  kv : Value
  e : Et
def Ee.c (x : Ee) : List Value := e7 x.kv x.e.2
theorem flatE : ∀ (xs : List Ee) (j i : Nat) (hj : j < xs.length), i < 7 → (xs.flatMap Ee.c)[7 * j + i]? = (xs[j].c)[i]?
  | [], j, i, hj, _ => by simp at hj
  | x :: xs, 0, i, _, hi => by
    rw [List.flatMap_cons, List.getElem?_append_left (by simp [Ee.c, e7]; omega)]; simp
  | x :: xs, j + 1, i, hj, hi => by
    rw [List.flatMap_cons, List.getElem?_append_right (by simp [Ee.c, e7]; omega)]
    have := flatE xs j i (by simpa using hj) hi
    simp only [List.getElem_cons_succ]
    rw [← this]
    congr 1
    simp [Ee.c, e7]; omega
/-- Entries of one's own. -/
def TOwn (W : World) (base : Nat) (v : Value) (xs : List Ee) : Prop := W.ownsRow base 43 7 v xs.length (xs.flatMap Ee.c) ∧ ∀ x ∈ xs, Own W base x.kv x.e.1 ∧ AgOk x.e.2
theorem TOwn.nil (W : World) (base : Nat) : TOwn W base (.slice none 0 0) [] := ⟨World.ownsRow_nil _ _ _ _, fun _ h => by cases h⟩
theorem TOwn.kc {n : Nat} {A B : World} {base : Nat} {v : Value} {xs : List Ee} (h : TOwn A base v xs) (hk : Kc n A B) : TOwn B base v xs := ⟨row_kc h.1 hk, fun x hx => ⟨(h.2 x hx).1.kc hk, (h.2 x hx).2⟩⟩
theorem TOwn.below {A B : World} {base : Nat} {v : Value} {xs : List Ee} (h : TOwn A base v xs) (hb : Below A.heap.size A B) : TOwn B base v xs := h.kc (Kc.of_below hb (Nat.le_refl _))
theorem TOwn.form {W : World} {base : Nat} {v : Value} {xs : List Ee} (h : TOwn W base v xs) : ∃ a c, v = .slice a xs.length c ∧ xs.length ≤ c ∧ c ≤ maxLen := by
  rcases h.1.2 with ⟨g1, g2⟩ | ⟨g, cap, cur, g1, _, _, g2, g3, _⟩
  · exact ⟨none, 0, by rw [g1, g2], by omega, by simp [maxLen]⟩
  · exact ⟨_, cap, g1, g2, g3⟩
theorem TOwn.reads {W : World} {base : Nat} {v : Value} {xs : List Ee} (h : TOwn W base v xs) : TRd W v (xs.map Ee.e) := by
  have hlt := World.ownsRow.lt h.1
  obtain ⟨h1, h3⟩ := h
  rcases h1.2 with ⟨g1, g2⟩ | ⟨g, cap, cur, hv, hg, hw, hc, hm, _⟩
  · have : xs = [] := List.length_eq_zero_iff.1 g2
    subst this
    exact ⟨none, 0, by rw [g1]; rfl, Nat.le_refl _, by simp [maxLen], fun j hj => by simp at hj⟩
  · rw [hv] at h1
    refine ⟨_, cap, by rw [hv, List.length_map], by rw [List.length_map]; exact hc, hm, fun j hj => ?_⟩
    rw [List.length_map] at hj
    obtain ⟨q1, q2⟩ := h3 xs[j] (List.getElem_mem hj)
    refine ⟨g, 0, xs[j].kv, rfl, (hlt g (by rw [hv]; rfl)).2, fun i hi => ?_, ?_, ?_⟩
    · rw [show 0 + j * 7 + i = 7 * j + i by omega, World.ownsRow.cellAt h1 _ (by omega), flatE xs j i hj hi]
      simp only [List.getElem_map]
      rw [List.getElem?_eq_getElem (by simp [Ee.c, e7]; omega)]
      rfl
    · simp only [List.getElem_map]; exact q1.reads
    · simp only [List.getElem_map]; exact q2
theorem infoTe : (Try.prog.info? 43).map (fun i => (i.zero.map Value.cells, i.size, i.bytes)) = some (some #[.slice none 0 0, .int .u64 0, .bool false, .int .i64 0, .int .u64 0, .int .i64 0, .int .i64 0], 7, 72) := by kernel_rfl
/-- An entry more. -/
theorem TOwn.app {W : World} {base : Nat} {v : Value} {xs : List Ee} (h : TOwn W base v xs) (hz : base ≤ W.heap.size) {x : Ee} (hx : Own W base x.kv x.e.1 ∧ AgOk x.e.2) {B : Nat}
    (hc : W.heap[B]? = some (.cells x.c.toArray 43)) (hX : xs.length ≤ 1000000) (ty : TypeId) :
    ∃ v' w1, (Builtin.append_ #[22, 22] ty #[v, .slice (some ⟨B, 0, none⟩) 1 1]).run Try.prog W = .ok v' w1 ∧ (∃ a c, v' = .slice a (xs.length + 1) c) ∧ TOwn w1 base v' (xs ++ [x]) ∧ W.grownBy w1 v.ownBlock ∧ Below base W w1 := by
  have hinf := infoTe
  cases hi0 : Try.prog.info? 43 with
  | none => rw [hi0] at hinf; cases hinf
  | some i0 =>
    rw [hi0] at hinf
    simp only [Option.map_some, Option.some.injEq, Prod.mk.injEq] at hinf
    obtain ⟨hz0, hz1, hz2⟩ := hinf
    obtain ⟨z, hzz, hzc⟩ := Option.map_eq_some_iff.1 hz0
    obtain ⟨ak, ck, ek, _⟩ := hx.1.form
    have hnews : ∀ j u, x.c[j]? = some u → W.cell? ((⟨B, 0, none⟩ : Addr).add j) = some u := by
      intro j u hj
      have ea : (⟨B, 0, none⟩ : Addr).add j = ⟨B, j, none⟩ := by simp [Addr.add]; omega
      rw [ea]
      simp only [World.cell?, hc]
      simpa using hj
    obtain ⟨v', w1, hrun, hown, hg, _⟩ := run_append_own (P := Try.prog) W base 22 ty 43 i0 z 7 72 Try.underlying22 hi0 hzz hz1 hz2 (by rw [hzc]; rfl) (by decide) v xs.length (xs.flatMap Ee.c) h.1 ⟨B, 0, none⟩ 1 1 x.c rfl hnews (by unfold Ee.c e7; rw [ek]; simp [Value.oneCell']) (by unfold maxLen; omega) (by omega) hz
    have hT : TOwn w1 base v' (xs ++ [x]) := by
      refine ⟨by rw [List.length_append, List.flatMap_append]; simpa using hown, fun y hy => ?_⟩
      rcases List.mem_append.1 hy with hy | hy
      · exact ⟨row_other h.1 (h.2 y hy).1 (by decide) hg, (h.2 y hy).2⟩
      · simp at hy; subst hy; exact ⟨row_other h.1 hx.1 (by decide) hg, hx.2⟩
    refine ⟨v', w1, hrun, ?_, hT, hg, (Below.refl _ _).grown hg hz (own_block h.1)⟩
    obtain ⟨a, c, e, _⟩ := hT.form
    exact ⟨a, c, by rw [e, List.length_append]; rfl⟩
/-- The entries of a row's bytes. -/
def enF (row : List UInt8) : List Et := ((rdB row).getD []).map fun p => (p.1, rdA p.2)
def geF (key : List UInt8) (l : List Et) : List Et := l.filter fun x => decide (0 ≤ Lib.compareBytes x.1 key)
/-- The first entries of rows, from a key on. -/
def firF (rows : List (List UInt8)) (key : List UInt8) (m : Nat) : List Et := (geF key (rows.flatMap enF)).take m
theorem geF_app (key : List UInt8) (a b : List Et) : geF key (a ++ b) = geF key a ++ geF key b := by unfold geF; rw [List.filter_append]
theorem geF_one (key : List UInt8) (x : Et) : geF key [x] = if 0 ≤ Lib.compareBytes x.1 key then [x] else [] := by
  unfold geF
  by_cases h : 0 ≤ Lib.compareBytes x.1 key <;> simp [h]
/-- What Read tells of a row's bytes, in one form. -/
theorem read_u (v : Value) (bs : List UInt8) (hbl : bs.length ≤ 1000000) (w : World) (hR : Reads w v bs) :
    Calls Try.prog 35 #[v] w fun e w' => ∃ u xs E, e = .returned (.tuple #[u, .int .i64 E]) ∧ xs.map Pe.p = (rdB bs).getD [] ∧ POwn w' w.heap.size u xs ∧ Below w.heap.size w w' := by
  refine (read_any v bs hbl w hR).mono ?_
  rintro e w' ⟨hb, h⟩
  cases hr : rdB bs with
  | none =>
    rw [hr] at h
    exact ⟨_, [], _, h, rfl, ⟨World.ownsRow_nil _ _ _ _, fun _ h => by cases h⟩, hb⟩
  | some l =>
    rw [hr] at h
    obtain ⟨u, xs, h1, h2, h3⟩ := h
    exact ⟨u, xs, _, h1, h2, h3, hb⟩
end Go.Proofs.Ytlpjdfgknmfmnaa
