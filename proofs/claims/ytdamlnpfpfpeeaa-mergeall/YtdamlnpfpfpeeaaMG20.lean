/- Each entry is told once, row by row. -/
import Derived.Test.YtdamlnpfpfpeeaaMG17
namespace Go.Proofs.Ytdamlnpfpfpeeaa

def rowT (n : Nat) (t : Tg) : Bool := decide (t.1.2 = n)
/-- How many of a row have been told. -/
def cntD (D : List Tg) (n : Nat) : Nat := (D.filter (rowT n)).length
theorem cntD_snoc (D : List Tg) (t : Tg) (n : Nat) : cntD (D ++ [t]) n = if t.1.2 = n then cntD D n + 1 else cntD D n := by
  unfold cntD
  rw [List.filter_append, List.length_append, List.filter_cons]
  by_cases h : t.1.2 = n
  · rw [if_pos h, if_pos (by simpa [rowT] using h)]; rfl
  · rw [if_neg h, if_neg (by simpa [rowT] using h)]; rfl
theorem cntD_le (D : List Tg) (n : Nat) : cntD D n ≤ D.length := List.length_filter_le _ _
theorem tags_row : ∀ (rs : List (List En)) (i n : Nat) (hn : n < rs.length), (tagsF i rs).filter (rowT (i + n)) = tagP (rs[n], i + n)
  | r :: rs, i, 0, _ => by
    unfold tagsF
    rw [List.filter_append]
    have h1 : (tagP (r, i)).filter (rowT (i + 0)) = tagP (r, i) := List.filter_eq_self.2 (fun t ht => by
      unfold tagP at ht
      obtain ⟨x, _, rfl⟩ := List.mem_map.1 ht
      simp [rowT])
    have h2 : (tagsF (i + 1) rs).filter (rowT (i + 0)) = [] := List.filter_eq_nil_iff.2 (fun t ht => by
      have := tags_ge rs (i + 1) t ht
      simp [rowT]; omega)
    rw [h1, h2, List.append_nil]; rfl
  | r :: rs, i, n + 1, hn => by
    unfold tagsF
    rw [List.filter_append]
    have h1 : (tagP (r, i)).filter (rowT (i + (n + 1))) = [] := List.filter_eq_nil_iff.2 (fun t ht => by
      unfold tagP at ht
      obtain ⟨x, _, rfl⟩ := List.mem_map.1 ht
      simp [rowT])
    have h2 := tags_row rs (i + 1) n (by simpa using hn)
    rw [show i + 1 + n = i + (n + 1) by omega] at h2
    rw [h1, h2, List.nil_append]; rfl
theorem seq_row {rs : List (List En)} (h : rowsF rs = 0) {n : Nat} (hn : n < rs.length) : (seqF rs).filter (rowT n) = tagP (rs[n], n) := by
  have h1 := tags_row rs 0 n hn
  rw [Nat.zero_add] at h1
  exact pw_unique ((seqF_pw h).filter _) (tagP_pw (rowF_ok (rowsF_ok.1 h _ (List.getElem_mem hn))).1) (h1 ▸ (srtG_perm _).filter _)
theorem tags_lt : ∀ (rs : List (List En)) (i : Nat), ∀ t ∈ tagsF i rs, t.1.2 < i + rs.length
  | [], _, t, h => by simp [tagsF] at h
  | r :: rs, i, t, h => by
    unfold tagsF at h
    rcases List.mem_append.1 h with h | h
    · unfold tagP at h
      obtain ⟨x, _, rfl⟩ := List.mem_map.1 h
      simp
    · have := tags_lt rs (i + 1) t h
      simp; omega
/-- What is told next is the next one of its row. -/
theorem once_at {rs : List (List En)} (h : rowsF rs = 0) {D T : List Tg} {t : Tg} (hs : seqF rs = D ++ t :: T) : ∃ hn : t.1.2 < rs.length, ∃ hc : cntD D t.1.2 < (rs[t.1.2]).length, (rs[t.1.2])[cntD D t.1.2] = (t.1.1, t.2) := by
  have hn : t.1.2 < rs.length := by
    have := tags_lt rs 0 t ((srtG_perm _).mem_iff.1 (show t ∈ seqF rs by rw [hs]; simp))
    omega
  have h1 := seq_row h hn
  rw [hs, List.filter_append, List.filter_cons, if_pos (by simp [rowT])] at h1
  have hlen := congrArg List.length h1
  unfold tagP at hlen
  simp at hlen
  have hc : cntD D t.1.2 < (rs[t.1.2]).length := by unfold cntD; omega
  refine ⟨hn, hc, ?_⟩
  have h2 : (tagP (rs[t.1.2], t.1.2))[cntD D t.1.2]? = some t := by
    rw [← h1]
    unfold cntD
    simp
  unfold tagP at h2
  rw [List.getElem?_map, List.getElem?_eq_getElem hc] at h2
  simp only [Option.map_some, Option.some.injEq] at h2
  have h3 := congrArg (fun u : Tg => (u.1.1, u.2)) h2
  exact h3
theorem once_end {rs : List (List En)} (h : rowsF rs = 0) {n : Nat} (hn : n < rs.length) : cntD (seqF rs) n = rs[n].length := by
  unfold cntD
  rw [seq_row h hn]
  unfold tagP
  simp
end Go.Proofs.Ytdamlnpfpfpeeaa
