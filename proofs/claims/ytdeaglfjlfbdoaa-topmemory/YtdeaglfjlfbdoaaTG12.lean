/- S19 RT TM1, joined. -/
import Derived.Test.YtdeaglfjlfbdoaaTG1
import Derived.Test.YtdeaglfjlfbdoaaTG11
/- In which order entries are put is of no matter. -/
namespace Go.Proofs.Ytdeaglfjlfbdoaa
open Go.RowKit

/-- A count that may be. -/
def CntOk (a : Ag) : Prop := 0 ≤ a.c ∧ a.c < 18446744073709551616
theorem okE_c {x : En} (h : okE x = true) (ha : AgOk x.2) : 0 < x.2.c ∧ x.2.c < 18446744073709551616 := by
  unfold okE at h
  simp at h
  have h1 := ha.c1
  have h2 := ha.c2
  exact ⟨by omega, h2⟩
theorem minF_comm (a b : Int) : minF a b = minF b a := by unfold minF; split <;> split <;> omega
theorem maxF_comm (a b : Int) : maxF a b = maxF b a := by unfold maxF; split <;> split <;> omega
theorem minF_rot (a b c : Int) : minF (minF a b) c = minF (minF a c) b := by unfold minF; (repeat' split) <;> omega
theorem maxF_rot (a b c : Int) : maxF (maxF a b) c = maxF (maxF a c) b := by unfold maxF; (repeat' split) <;> omega
theorem mrg_comm {a b : Ag} (ha : 0 < a.c) (hb : 0 < b.c) : mrg a b = mrg b a := by
  rw [mrg_both a b (by omega) (by omega), mrg_both b a (by omega) (by omega)]
  have e1 : cntF a.c b.c = cntF b.c a.c := by unfold cntF; rw [Int.add_comm]
  have e2 : (ovF a.c b.c || a.o || b.o) = (ovF b.c a.c || b.o || a.o) := by
    unfold ovF; rw [Int.add_comm]; cases a.o <;> cases b.o <;> simp
  rw [e1, e2, Int.add_comm a.s, minF_comm a.mn, maxF_comm a.mx]
theorem cnt_pos {a b : Int} (ha : 0 < a) (hb : 0 < b) : 0 < cntF a b := by unfold cntF; split <;> omega
theorem mrg_rot {z x y : Ag} (hz : 0 < z.c ∧ z.c < 18446744073709551616) (hx : 0 < x.c ∧ x.c < 18446744073709551616) (hy : 0 < y.c ∧ y.c < 18446744073709551616) : mrg (mrg z x) y = mrg (mrg z y) x := by
  rw [mrg_both z x (by omega) (by omega), mrg_both z y (by omega) (by omega)]
  have p1 := cnt_pos hz.1 hx.1
  have p2 := cnt_pos hz.1 hy.1
  rw [mrg_both _ y (by dsimp only; omega) (by omega), mrg_both _ x (by dsimp only; omega) (by omega)]
  dsimp only
  have e1 : cntF (cntF z.c x.c) y.c = cntF (cntF z.c y.c) x.c := by unfold cntF; split <;> split <;> split <;> (try split) <;> omega
  have e2 : (ovF (cntF z.c x.c) y.c || (ovF z.c x.c || z.o || x.o) || y.o) = (ovF (cntF z.c y.c) x.c || (ovF z.c y.c || z.o || y.o) || x.o) := by
    unfold ovF cntF
    cases z.o <;> cases x.o <;> cases y.o <;> simp
    rw [Bool.eq_iff_iff]
    simp
    split <;> split <;> omega
  have e3 : z.s + x.s + y.s = z.s + y.s + x.s := by omega
  rw [e1, e2, e3, minF_rot, maxF_rot]
/-- One step of 'what is known'. -/
theorem mrg_swap {z x y : Ag} (hz : CntOk z) (hx : 0 < x.c ∧ x.c < 18446744073709551616) (hy : 0 < y.c ∧ y.c < 18446744073709551616) : mrg (mrg z x) y = mrg (mrg z y) x := by
  by_cases h : z.c = 0
  · have e1 : mrg z x = x := by unfold mrg; rw [if_pos h]
    have e2 : mrg z y = y := by unfold mrg; rw [if_pos h]
    rw [e1, e2]; exact mrg_comm hx.1 hy.1
  · exact mrg_rot ⟨by have := hz.1; omega, hz.2⟩ hx hy
theorem mrg_cnt {a b : Ag} (ha : CntOk a) (hb : CntOk b) : CntOk (mrg a b) := by
  unfold CntOk mrg at *
  split
  · exact hb
  · split
    · exact ha
    · dsimp only; unfold cntF; split <;> omega
theorem fold_perm {M M' : List En} (hp : M.Perm M') (k : Ks) : (∀ x ∈ M, 0 < x.2.c ∧ x.2.c < 18446744073709551616) → ∀ z, CntOk z →
    M.foldl (fun s x => if x.1 = k then mrg s x.2 else s) z = M'.foldl (fun s x => if x.1 = k then mrg s x.2 else s) z := by
  induction hp with
  | nil => intro _ z _; rfl
  | cons x p ih =>
    intro h z hz
    rw [List.foldl_cons, List.foldl_cons]
    refine ih (fun y hy => h y (List.mem_cons_of_mem _ hy)) _ ?_
    have hx := h x List.mem_cons_self
    split
    · exact mrg_cnt hz ⟨by omega, hx.2⟩
    · exact hz
  | swap x y l =>
    intro h z hz
    have hx := h x (by simp)
    have hy := h y (by simp)
    simp only [List.foldl_cons]
    congr 1
    by_cases h1 : x.1 = k <;> by_cases h2 : y.1 = k <;> simp only [h1, h2, if_true, if_false]
    exact mrg_swap hz hy hx
  | trans p1 p2 i1 i2 =>
    intro h z hz
    rw [i1 h z hz, i2 (fun x hx => h x (p1.mem_iff.2 hx)) z hz]
theorem knE_perm {M M' : List En} (hp : M.Perm M') (h : ∀ x ∈ M, 0 < x.2.c ∧ x.2.c < 18446744073709551616) (k : Ks) : knE M k = knE M' k := fold_perm hp k h agZ ⟨by decide, by decide⟩
theorem hasE_perm {M M' : List En} (hp : M.Perm M') (k : Ks) : hasE M k = hasE M' k := by
  unfold hasE
  rw [Bool.eq_iff_iff, List.any_eq_true, List.any_eq_true]
  exact ⟨fun ⟨x, h1, h2⟩ => ⟨x, hp.mem_iff.1 h1, h2⟩, fun ⟨x, h1, h2⟩ => ⟨x, hp.mem_iff.2 h1, h2⟩⟩
/-- Entries in order are told by what is known of each key. -/
theorem srt_ext : ∀ {A B : List En}, srt A → srt B → (∀ k, lkE A k = lkE B k) → A = B
  | [], [], _, _, _ => rfl
  | [], y :: B, _, _, h => by have := h y.1; rw [lkE_cons] at this; simp [lkE] at this
  | x :: A, [], _, _, h => by have := h x.1; rw [lkE_cons] at this; simp [lkE] at this
  | x :: A, y :: B, hA, hB, h => by
    unfold srt keysE at hA hB
    rw [List.map_cons, List.pairwise_cons] at hA hB
    have nA : ∀ {k}, (k = x.1 ∨ ltK k x.1) → lkE A k = none := fun {k} hk => lkE_none fun z hz => by
      have h1 := hA.1 z.1 (List.mem_map_of_mem hz)
      rcases hk with rfl | hk
      · exact (ltK_ne h1).symm
      · exact (ltK_ne (ltK_trans hk h1)).symm
    have nB : ∀ {k}, (k = y.1 ∨ ltK k y.1) → lkE B k = none := fun {k} hk => lkE_none fun z hz => by
      have h1 := hB.1 z.1 (List.mem_map_of_mem hz)
      rcases hk with rfl | hk
      · exact (ltK_ne h1).symm
      · exact (ltK_ne (ltK_trans hk h1)).symm
    have hxy : x.1 = y.1 := by
      by_cases hn : x.1 = y.1
      · exact hn
      · exfalso
        by_cases hl : ltK x.1 y.1
        · have := h x.1
          rw [lkE_cons, lkE_cons, if_pos rfl, if_neg (Ne.symm hn), nB (.inr hl)] at this
          cases this
        · rcases not_ltK.1 hl with h1 | h1
          · exact hn h1
          · have := h y.1
            rw [lkE_cons, lkE_cons, if_pos rfl, if_neg hn, nA (.inr h1)] at this
            cases this
    have h2 : x.2 = y.2 := by
      have := h x.1
      rw [lkE_cons, lkE_cons, if_pos rfl, if_pos hxy.symm] at this
      exact Option.some.inj this
    have h3 : A = B := srt_ext hA.2 hB.2 fun k => by
      have h4 := h k
      rw [lkE_cons, lkE_cons, ← hxy] at h4
      by_cases hk : x.1 = k
      · rw [nA (.inl hk.symm), nB (.inl (by rw [← hxy]; exact hk.symm))]
      · rw [if_neg hk, if_neg hk] at h4; exact h4
    rw [h3, Prod.ext hxy h2]
theorem putL_perm {M M' : List En} (hp : M.Perm M') (h : ∀ x ∈ M, 0 < x.2.c ∧ x.2.c < 18446744073709551616) : putL [] M = putL [] M' :=
  srt_ext (putL_srt M) (putL_srt M') fun k => by rw [putL_lk, putL_lk, knE_perm hp h, hasE_perm hp]
/-- A rotation is an order of the same entries. -/
theorem rot_eq (L : List En) (t : Nat) : rot L t = L.drop (t % L.length) ++ L.take (t % L.length) := by
  by_cases h0 : L.length = 0
  · have : L = [] := List.length_eq_zero_iff.1 h0
    subst this; simp [rot]
  · have hm : t % L.length < L.length := Nat.mod_lt _ (by omega)
    apply List.ext_getElem
    · simp [rot_len]; omega
    · intro j h1 h2
      rw [rot_len] at h1
      have hj : (j + t) % L.length < L.length := Nat.mod_lt _ (by omega)
      have e1 : (rot L t)[j]'(by rw [rot_len]; exact h1) = L[(j + t) % L.length] := by
        simp [rot, List.getD, hj]
      rw [e1]
      have e2 : (j + t) % L.length = (j + t % L.length) % L.length := by rw [Nat.add_mod_mod]
      by_cases hlt : j < (L.drop (t % L.length)).length
      · rw [List.getElem_append_left hlt, List.getElem_drop]
        have : (j + t) % L.length = t % L.length + j := by
          rw [List.length_drop] at hlt
          rw [e2, Nat.mod_eq_of_lt (by omega)]; omega
        simp only [this]
      · rw [List.getElem_append_right (by omega), List.getElem_take]
        have hl2 := hlt
        rw [List.length_drop] at hl2
        have : (j + t) % L.length = j - (L.drop (t % L.length)).length := by
          rw [List.length_drop, e2, show j + t % L.length = (j - (L.length - t % L.length)) + L.length by omega, Nat.add_mod_right, Nat.mod_eq_of_lt (by omega)]
        simp only [this]
theorem rot_perm (L : List En) (t : Nat) : (rot L t).Perm L := by
  rw [rot_eq]
  have := List.perm_append_comm (l₁ := L.drop (t % L.length)) (l₂ := L.take (t % L.length))
  rwa [List.take_append_drop] at this
theorem putL_rot {L : List En} (t : Nat) (h : L.all okE = true) (ha : ∀ x ∈ L, AgOk x.2) : putL [] (rot L t) = putL [] L :=
  putL_perm (rot_perm L t) fun x hx => okE_c (List.all_eq_true.1 h x ((rot_perm L t).mem_iff.1 hx)) (ha x ((rot_perm L t).mem_iff.1 hx))
end Go.Proofs.Ytdeaglfjlfbdoaa

/- Pieces of bytes that a slice reads. -/
namespace Go.Proofs.Ytdeaglfjlfbdoaa
open Go.RowKit

theorem Reads.take {w : World} {a : Option Addr} {cap : Nat} {l : List UInt8} (h : Reads w (.slice a l.length cap) l) {c : Nat} (hc : c ≤ l.length) : Reads w (.slice a c cap) (l.take c) := by
  rcases h with ⟨rfl, a', cap', hv, hn⟩ | ⟨b, off, cap', hv, h2, h3, h4, h5, h6⟩
  · have : c = 0 := by simpa using hc
    subst this
    simp at hv
    obtain ⟨rfl, rfl⟩ := hv
    exact .inl ⟨rfl, _, _, rfl, hn⟩
  · simp at hv
    obtain ⟨rfl, rfl⟩ := hv
    exact reads_take c hc h3 h4 h5 h6
theorem Reads.cap {w : World} {a : Option Addr} {n cap : Nat} {l : List UInt8} (h : Reads w (.slice a n cap) l) (h0 : 0 < l.length) : l.length ≤ cap := by
  rcases h with ⟨rfl, _⟩ | ⟨b, off, cap', hv, h2, h3, h4, h5, h6⟩
  · simp at h0
  · simp at hv; omega
theorem Reads.drop {w : World} {a : Option Addr} {cap : Nat} {l : List UInt8} (h : Reads w (.slice a l.length cap) l) {c : Nat} (hc : c ≤ l.length) (b off : Nat) (ha : a = some ⟨b, off, none⟩) :
    (c < cap → Reads w (.slice (some ⟨b, off + c, none⟩) (l.length - c) (cap - c)) (l.drop c)) ∧ (¬ c < cap → l.drop c = []) := by
  rcases h with ⟨rfl, a', cap', hv, hn⟩ | ⟨b', off', cap', hv, h2, h3, h4, h5, h6⟩
  · have : c = 0 := by simpa using hc
    subst this
    refine ⟨fun _ => .inl ⟨rfl, _, _, rfl, fun h => by cases h⟩, fun _ => rfl⟩
  · simp at hv
    obtain ⟨hv1, rfl⟩ := hv
    rw [ha] at hv1
    simp at hv1
    obtain ⟨rfl, rfl⟩ := hv1
    have hl : (l.drop c).length = l.length - c := by simp
    refine ⟨fun hcc => ?_, fun hcc => List.drop_eq_nil_of_le (by omega)⟩
    rcases Nat.eq_zero_or_pos (l.length - c) with h0 | h0
    · left; exact ⟨List.length_eq_zero_iff.1 (by omega), _, _, by rw [h0], fun h => by cases h⟩
    · right
      refine ⟨b, off + c, cap - c, by rw [hl], by omega, by omega, by omega, h5, fun j hj => ?_⟩
      rw [Nat.add_assoc, h6 (c + j) (by omega)]
      simp
theorem reads_nil {w : World} {a : Option Addr} {cap : Nat} (h : a = none → cap = 0) : Reads w (.slice a 0 cap) [] := .inl ⟨rfl, _, _, rfl, h⟩
end Go.Proofs.Ytdeaglfjlfbdoaa

/- agg.Many of any values: what their facts together are (out of AP1, AB3, AP2). -/
namespace Go.Proofs.Ytdeaglfjlfbdoaa
open Go.RowKit

def ic (z : Int) : Value := .int .i64 z
/-- A slice value reads these numbers. -/
def IReads (w : World) (v : Value) (l : List Int) : Prop :=
  (l = [] ∧ ∃ a cap, v = .slice a 0 cap ∧ (a = none → cap = 0)) ∨
  ∃ b off cap, v = .slice (some ⟨b, off, none⟩) l.length cap ∧ 0 < l.length ∧ l.length ≤ cap ∧ cap ≤ maxLen ∧ b < w.heap.size ∧ ∀ j (h : j < l.length), w.cell? ⟨b, off + j, none⟩ = some (ic l[j])
theorem IReads.below {w w' : World} {v : Value} {l : List Int} (h : IReads w v l) (hb : Below w.heap.size w w') : IReads w' v l := by
  rcases h with h | ⟨b, off, cap, h1, h2, h3, h4, h5, h6⟩
  · exact .inl h
  · have := hb.size
    exact .inr ⟨b, off, cap, h1, h2, h3, h4, by omega, fun j hj => (hb.cell (p := ⟨b, off + j, none⟩) h5).trans (h6 j hj)⟩
theorem IReads.form {w : World} {v : Value} {l : List Int} (h : IReads w v l) : ∃ a cap, v = .slice a l.length cap ∧ l.length ≤ maxLen := by
  rcases h with ⟨rfl, a, cap, h, _⟩ | ⟨b, off, cap, h1, h2, h3, h4, h5, h6⟩
  · exact ⟨a, cap, h, by simp⟩
  · exact ⟨_, cap, h1, by omega⟩
theorem ireads_own {w : World} {base : Nat} {e : TypeId} {v : Value} {n : Nat} {l : List Int} (h : w.ownsRow base e 1 v n (l.map ic)) : IReads w v l := by
  obtain ⟨h1, h2⟩ := h
  simp at h1
  rcases h2 with ⟨rfl, h0⟩ | ⟨g, cap, cur, rfl, hg, hw, hn, hm, hs, ht⟩
  · left
    refine ⟨List.length_eq_zero_iff.1 (by omega), none, 0, rfl, fun _ => rfl⟩
  · rcases Nat.eq_zero_or_pos n with h0 | h0
    · left; exact ⟨List.length_eq_zero_iff.1 (by omega), _, cap, by rw [h0], fun h => by cases h⟩
    · right
      have hown : w.ownsRow base e 1 (.slice (some ⟨g, 0, none⟩) n cap) n (l.map ic) := ⟨by simp; exact h1, .inr ⟨g, cap, cur, rfl, hg, hw, hn, hm, hs, ht⟩⟩
      refine ⟨g, 0, cap, by rw [h1], by omega, by omega, hm, (hown.lt g rfl).2, fun j hj => ?_⟩
      have := hown.cells (g := g) rfl j (ic l[j]) (by simp [hj])
      have ea : (⟨g, 0, none⟩ : Addr).add j = ⟨g, 0 + j, none⟩ := by simp [Addr.add]; omega
      rw [ea] at this
      exact this
theorem IReads.at {w : World} {a : Option Addr} {n cap : Nat} {l : List Int} (h : IReads w (.slice a n cap) l) (j : Nat) (hj : j < l.length) : ∃ b off, a = some ⟨b, off, none⟩ ∧ b < w.heap.size ∧ w.cell? ⟨b, off + j, none⟩ = some (ic l[j]) := by
  rcases h with ⟨rfl, _⟩ | ⟨b, off, cap', hv, h2, h3, h4, h5, h6⟩
  · simp at hj
  · simp at hv
    exact ⟨b, off, hv.1, h5, h6 j hj⟩
theorem set6' {w : World} {b : Nat} {T : TypeId} {x0 x1 x2 x3 x4 x5 : Value} (h : w.heap[b]? = some (.cells #[x0, x1, x2, x3, x4, x5] T)) (v0 v1 v2 v3 v4 v5 : Value) :
    ((((((w.setCell ⟨b, 0, none⟩ v0).setCell ⟨b, 1, none⟩ v1).setCell ⟨b, 2, none⟩ v2).setCell ⟨b, 3, none⟩ v3).setCell ⟨b, 4, none⟩ v4).setCell ⟨b, 5, none⟩ v5).heap[b]? = some (.cells #[v0, v1, v2, v3, v4, v5] T) := by
  have h0 := Go.heap_setCell_same w b 0 _ _ v0 h
  have h1 := Go.heap_setCell_same _ b 1 _ _ v1 h0
  have h2 := Go.heap_setCell_same _ b 2 _ _ v2 h1
  have h3 := Go.heap_setCell_same _ b 3 _ _ v3 h2
  have h4 := Go.heap_setCell_same _ b 4 _ _ v4 h3
  have h5 := Go.heap_setCell_same _ b 5 _ _ v5 h4
  simpa using h5
theorem below6' {w0 w : World} {n b : Nat} (h : Below n w0 w) (hb : n ≤ b) (v0 v1 v2 v3 v4 v5 : Value) :
    Below n w0 ((((((w.setCell ⟨b, 0, none⟩ v0).setCell ⟨b, 1, none⟩ v1).setCell ⟨b, 2, none⟩ v2).setCell ⟨b, 3, none⟩ v3).setCell ⟨b, 4, none⟩ v4).setCell ⟨b, 5, none⟩ v5) := (((((h.setCell hb _).setCell hb _).setCell hb _).setCell hb _).setCell hb _).setCell hb _
theorem c_rw {w : World} {b : Nat} {cs : Array Value} {T : TypeId} (h : w.heap[b]? = some (.cells cs T)) (i : Nat) (hi : i < cs.size) : w.cell? ⟨b, i, none⟩ = some cs[i] := by
  simp [World.cell?, h, hi]
theorem f_rw {w : World} {b : Nat} {cs : Array Value} {T : TypeId} (h : w.heap[b]? = some (.cells cs T)) (i : Nat) : w.frozen? ⟨b, i, none⟩ = false := by
  simp [World.frozen?, h]
/-- What facts with these values together are. -/
def mnF (l : List Int) : Ag := l.foldl (fun A x => mrg A (oneF x)) agZ
def Mn (l : List Int) (A : Ag) : Prop := A = mnF l
theorem mn_next {l : List Int} {A : Ag} (h : Mn l A) (x : Int) : Mn (l ++ [x]) (mrg A (oneF x)) := by
  unfold Mn mnF at *
  rw [List.foldl_append, ← h]; rfl
theorem mn_fold : ∀ (l : List Int) (z : Ag), CntOk z → CntOk (l.foldl (fun A x => mrg A (oneF x)) z)
  | [], _, h => h
  | x :: l, z, h => mn_fold l _ (mrg_cnt h ⟨by show (0 : Int) ≤ 1; decide, by show (1 : Int) < 18446744073709551616; decide⟩)
theorem mn_cnt {l : List Int} {A : Ag} (h : Mn l A) : CntOk A := by
  rw [show A = mnF l from h]
  exact mn_fold l agZ ⟨by decide, by decide⟩
theorem res_r {fn : Func} {p : Tmp} {ty : TypeId} (h : fn.results = #[.cell p ty]) (tmps : Array Value) (w : World) (g : Nat) (cs : Array Value)
    (hp : tmps.getD p undef = .pointer (some ⟨g, 0, none⟩)) (hl : (loadVar ty ⟨g, 0, none⟩).run Try.prog w = .ok (.agg cs) w) :
    (results fn tmps).run Try.prog w = .ok (.agg cs) w := by
  have hp' : tmps[p]?.getD undef = .pointer (some ⟨g, 0, none⟩) := by simpa using hp
  simp [results, h, hp', asAddr, hl]
theorem heap_2 (w : World) (o1 o2 : Obj) : ((w.alloc o1).alloc o2).heap[w.heap.size + 1]? = some o2 ∧ ((w.alloc o1).alloc o2).heap[w.heap.size]? = some o1 := by
  have h1 := World.alloc_heap_new (w.alloc o1) o2
  rw [show (w.alloc o1).heap.size = w.heap.size + 1 by simp] at h1
  refine ⟨h1, ?_⟩
  have h2 := World.alloc_heap_new w o1
  have hb := (Below.refl (w.alloc o1).heap.size (w.alloc o1)).alloc (Nat.le_refl _) o2
  rw [hb.block w.heap.size (by simp)]; exact h2
set_option maxRecDepth 100000 in
set_option maxHeartbeats 4000000 in
theorem many_any (v : Value) (l : List Int) (hl : l.length ≤ 500) (hbd : ∀ z ∈ l, -9223372036854775808 ≤ z ∧ z ≤ 9223372036854775807) (w : World) (hR : IReads w v l) :
    Calls Try.prog 16 #[v] w fun e w' => ∃ A, e = .returned (.agg #[.int .u64 A.c, .bool A.o, .int .i64 (hi A.s), .int .u64 (lo A.s), .int .i64 A.mn, .int .i64 A.mx]) ∧ Mn l A ∧ Below w.heap.size w w' := by
  have HR : Hid (IReads w v l) := hR
  obtain ⟨a, cap, rfl, hm⟩ := hR.form
  unfold maxLen at hm
  have HBD : Hid _ := hbd
  clear hR hbd
  go_enter Try.func16, Try.ntmps16
  go_wp2_with fail
  go_loopw [8] (fun i wr => ∃ (k : Nat) (A : Ag), k ≤ l.length ∧ i = .int .i64 (k : Int) ∧ Hid (Mn (l.take k) A) ∧ Hid (wr.heap[w.heap.size + 1]? = some (.cells #[.int .u64 A.c, .bool A.o, .int .i64 (hi A.s), .int .u64 (lo A.s), .int .i64 A.mn, .int .i64 A.mx] 44)) ∧ Hid (wr.heap[w.heap.size]? = some (.cells #[.int .u64 0, .bool false, .int .i64 0, .int .u64 0, .int .i64 0, .int .i64 0] 44)) ∧ Hid (Below w.heap.size w wr)) (fun i _ => l.length - (intOf i).toNat)
  case atStart => exact ⟨0, agZ, by omega, rfl, rfl, (heap_2 w _ _).1, (heap_2 w _ _).2, ((Below.refl _ _).alloc (Nat.le_refl _) _).alloc (by simp) _⟩
  case round =>
    obtain ⟨k, A, hk, rfl, HK, HC, HZ, HB⟩ := hrel
    by_cases hlt : k < l.length
    · obtain ⟨bA, oA, rfl, hbA, d1⟩ := HR.out.at k hlt
      have c1 := (HB.out.cell (p := ⟨bA, oA + k, none⟩) hbA).trans d1
      have hxb := HBD.out l[k] (List.getElem_mem hlt)
      have HTk : Hid (Mn (l.take (k + 1)) (mrg A (oneF l[k]))) := by
        unfold Hid
        rw [List.take_add_one, List.getElem?_eq_getElem hlt]
        exact mn_next HK.out _
      obtain ⟨x, HX⟩ := hid_ex l[k]
      rw [← HX.out] at c1 hxb HTk
      unfold ic at c1
      obtain ⟨O, HO⟩ := hid_ex (oneF x)
      have HON : Hid (∀ w, Calls Try.prog 10 #[.int .i64 x] w fun e w' => e = .returned (.agg #[.int .u64 O.c, .bool O.o, .int .i64 (hi O.s), .int .u64 (lo O.s), .int .i64 O.mn, .int .i64 O.mx]) ∧ Below w.heap.size w w') := by
        intro w; rw [HO.out]; exact one_any x hxb.1 hxb.2 w
      obtain ⟨N, HN⟩ := hid_ex (mrg A O)
      have hkc : CntOk A := mn_cnt HK.out
      have HMG : Hid (∀ w, Calls Try.prog 24 #[.agg #[.int .u64 A.c, .bool A.o, .int .i64 (hi A.s), .int .u64 (lo A.s), .int .i64 A.mn, .int .i64 A.mx], .agg #[.int .u64 O.c, .bool O.o, .int .i64 (hi O.s), .int .u64 (lo O.s), .int .i64 O.mn, .int .i64 O.mx]] w fun e w' => e = .returned (.agg #[.int .u64 N.c, .bool N.o, .int .i64 (hi N.s), .int .u64 (lo N.s), .int .i64 N.mn, .int .i64 N.mx]) ∧ Below w.heap.size w w') := by
        intro w; rw [HN.out]
        exact merge_any A O hkc.1 hkc.2 (by rw [HO.out]; show (0 : Int) ≤ 1; decide) (by rw [HO.out]; show (1 : Int) < 18446744073709551616; decide) w
      have HKN : Hid (Mn (l.take (k + 1)) N) := by rw [HN.out, HO.out]; exact HTk
      have hwr := HB.out.size
      clear d1 hxb hkc HO HN HTk HX
      go_wp2_with fail
      clear c1
      have z0 := c_rw HC.out 0 (by simp)
      have z1 := c_rw HC.out 1 (by simp)
      have z2 := c_rw HC.out 2 (by simp)
      have z3 := c_rw HC.out 3 (by simp)
      have z4 := c_rw HC.out 4 (by simp)
      have z5 := c_rw HC.out 5 (by simp)
      simp only [List.getElem_toArray, List.getElem_cons_succ, List.getElem_cons_zero] at z0 z1 z2 z3 z4 z5
      refine wp_region_noPanic ?_
      refine wp_region_held_drew (S := (fun w' => Below w.heap.size w w')) (by kernel_rfl) ?_ (fun hHeld => ?_)
      · exact HB.out.drew
      refine wpAnyH_take (i := 1) (v := .int .i64 x) rfl (by kernel_rfl) (by kernel_rfl) (by kernel_rfl) (fun _ _ _ h => h) (Or.inl ⟨by rfl, ?_⟩) (by assumption) ?_
      · (intro w1 hSw; (try dsimp only at hSw); go_simp)
      simp only [List.getElem_toArray, List.getElem_cons_succ, List.getElem_cons_zero, Act.put, List.setIfInBounds_toArray, List.set_cons_zero, List.set_cons_succ]
      refine wpAnyH_ready (rs := [0, 2]) (by kernel_rfl) (by simp) ?_
      refine AllReadyH.cons (o := _) rfl (fun K hK => ?_) (AllReadyH.cons (o := _) rfl (fun K hK => ?_) AllReadyH.nil)
      · go_simp
        refine hK.out _ _ ?_ (fun hHeld => ?_)
        · exact HB.out.drew
        clear hK K
        clear z0 z1 z2 z3 z4 z5
        refine wpAnyH_ready (rs := [2]) (by kernel_rfl) (by simp) ?_
        refine AllReadyH.cons (o := _) rfl (fun K hK => ?_) AllReadyH.nil
        go_simp
        refine (HON.out _).mono ?_
        rintro e w5 ⟨rfl, hb5⟩
        have hc5 : Below wr.heap.size wr w5 := (Below.refl wr.heap.size wr).drew.trans hb5
        have HC5 : Hid (w5.heap[w.heap.size + 1]? = some (.cells #[.int .u64 A.c, .bool A.o, .int .i64 (hi A.s), .int .u64 (lo A.s), .int .i64 A.mn, .int .i64 A.mx] 44)) := (hc5.block _ (Array.getElem?_eq_some_iff.1 HC.out).1).trans HC.out
        have HZ5 : Hid (w5.heap[w.heap.size]? = some (.cells #[.int .u64 0, .bool false, .int .i64 0, .int .u64 0, .int .i64 0, .int .i64 0] 44)) := (hc5.block _ (Array.getElem?_eq_some_iff.1 HZ.out).1).trans HZ.out
        have HB5 : Hid (Below w.heap.size w w5) := HB.out.trans (hc5.mono HB.out.size)
        clear hb5 hc5
        refine hK.out _ _ ?_ (fun hHeld => ?_)
        · exact HB5.out
        clear hK K
        refine wpAnyH_ready (rs := [3]) (by kernel_rfl) (by simp) ?_
        refine AllReadyH.cons (o := _) rfl (fun K hK => ?_) AllReadyH.nil
        go_simp
        refine (HMG.out _).mono ?_
        rintro e w6 ⟨rfl, hb6⟩
        have HC6 : Hid (w6.heap[w.heap.size + 1]? = some (.cells #[.int .u64 A.c, .bool A.o, .int .i64 (hi A.s), .int .u64 (lo A.s), .int .i64 A.mn, .int .i64 A.mx] 44)) := (hb6.block _ (Array.getElem?_eq_some_iff.1 HC5.out).1).trans HC5.out
        have HZ6 : Hid (w6.heap[w.heap.size]? = some (.cells #[.int .u64 0, .bool false, .int .i64 0, .int .u64 0, .int .i64 0, .int .i64 0] 44)) := (hb6.block _ (Array.getElem?_eq_some_iff.1 HZ5.out).1).trans HZ5.out
        have HB6 : Hid (Below w.heap.size w w6) := HB5.out.trans (hb6.mono HB5.out.size)
        clear hb6
        refine hK.out _ _ ?_ (fun hHeld => ?_)
        · exact HB6.out
        clear hK K
        have f0 := f_rw HC6.out 0
        have f1 := f_rw HC6.out 1
        have f2 := f_rw HC6.out 2
        have f3 := f_rw HC6.out 3
        have f4 := f_rw HC6.out 4
        have f5 := f_rw HC6.out 5
        have z0 := c_rw HC6.out 0 (by simp)
        have z1 := c_rw HC6.out 1 (by simp)
        have z2 := c_rw HC6.out 2 (by simp)
        have z3 := c_rw HC6.out 3 (by simp)
        have z4 := c_rw HC6.out 4 (by simp)
        have z5 := c_rw HC6.out 5 (by simp)
        simp only [List.getElem_toArray, List.getElem_cons_succ, List.getElem_cons_zero] at z0 z1 z2 z3 z4 z5
        refine wpAnyH_ready (rs := [4]) (by kernel_rfl) (by simp) ?_
        refine AllReadyH.cons (o := _) rfl (fun K hK => ?_) AllReadyH.nil
        go_simp
        obtain ⟨w7, HW7⟩ := hid_ex ((((((w6.setCell ⟨w.heap.size + 1, 0, none⟩ (.int .u64 N.c)).setCell ⟨w.heap.size + 1, 1, none⟩ (.bool N.o)).setCell ⟨w.heap.size + 1, 2, none⟩ (.int .i64 (hi N.s))).setCell ⟨w.heap.size + 1, 3, none⟩ (.int .u64 (lo N.s))).setCell ⟨w.heap.size + 1, 4, none⟩ (.int .i64 N.mn)).setCell ⟨w.heap.size + 1, 5, none⟩ (.int .i64 N.mx))
        rw [← HW7.out]
        have HB7 : Hid (Below w.heap.size w w7) := by rw [HW7.out]; exact below6' HB6.out (by omega) _ _ _ _ _ _
        have HC7 : Hid (w7.heap[w.heap.size + 1]? = some (.cells #[.int .u64 N.c, .bool N.o, .int .i64 (hi N.s), .int .u64 (lo N.s), .int .i64 N.mn, .int .i64 N.mx] 44)) := by rw [HW7.out]; exact set6' HC6.out _ _ _ _ _ _
        have HZ7 : Hid (w7.heap[w.heap.size]? = some (.cells #[.int .u64 0, .bool false, .int .i64 0, .int .u64 0, .int .i64 0, .int .i64 0] 44)) := by
          rw [HW7.out]; unfold Hid
          rw [Go.heap_setCell_other _ _ _ _ (by simp), Go.heap_setCell_other _ _ _ _ (by simp), Go.heap_setCell_other _ _ _ _ (by simp), Go.heap_setCell_other _ _ _ _ (by simp), Go.heap_setCell_other _ _ _ _ (by simp), Go.heap_setCell_other _ _ _ _ (by simp)]
          exact HZ6.out
        refine hK.out _ _ ?_ (fun hHeld => ?_)
        · exact HB7.out
        clear hK K
        clear hHeld z0 z1 z2 z3 z4 z5 f0 f1 f2 f3 f4 f5 HW7 HB6 HC6 HZ6
        refine wpAnyH_done (by kernel_rfl) ?_ _
        refine NoPanic.normal ?_
        go_wp2_with fail
        go_roundw
        case rel => exact ⟨k + 1, N, by omega, by go_num, HKN, HC7, HZ7, HB7⟩
        case measure => simp [intOf]; omega
      · go_simp
        refine (HON.out _).mono ?_
        rintro e w5 ⟨rfl, hb5⟩
        have hc5 : Below wr.heap.size wr w5 := (Below.refl wr.heap.size wr).drew.trans hb5
        have HC5 : Hid (w5.heap[w.heap.size + 1]? = some (.cells #[.int .u64 A.c, .bool A.o, .int .i64 (hi A.s), .int .u64 (lo A.s), .int .i64 A.mn, .int .i64 A.mx] 44)) := (hc5.block _ (Array.getElem?_eq_some_iff.1 HC.out).1).trans HC.out
        have HZ5 : Hid (w5.heap[w.heap.size]? = some (.cells #[.int .u64 0, .bool false, .int .i64 0, .int .u64 0, .int .i64 0, .int .i64 0] 44)) := (hc5.block _ (Array.getElem?_eq_some_iff.1 HZ.out).1).trans HZ.out
        have HB5 : Hid (Below w.heap.size w w5) := HB.out.trans (hc5.mono HB.out.size)
        clear hb5 hc5
        refine hK.out _ _ ?_ (fun hHeld => ?_)
        · exact HB5.out
        clear hK K
        clear z0 z1 z2 z3 z4 z5
        have z0 := c_rw HC5.out 0 (by simp)
        have z1 := c_rw HC5.out 1 (by simp)
        have z2 := c_rw HC5.out 2 (by simp)
        have z3 := c_rw HC5.out 3 (by simp)
        have z4 := c_rw HC5.out 4 (by simp)
        have z5 := c_rw HC5.out 5 (by simp)
        simp only [List.getElem_toArray, List.getElem_cons_succ, List.getElem_cons_zero] at z0 z1 z2 z3 z4 z5
        refine wpAnyH_ready (rs := [0]) (by kernel_rfl) (by simp) ?_
        refine AllReadyH.cons (o := _) rfl (fun K hK => ?_) AllReadyH.nil
        go_simp
        refine hK.out _ _ ?_ (fun hHeld => ?_)
        · exact HB5.out
        clear hK K
        clear z0 z1 z2 z3 z4 z5
        refine wpAnyH_ready (rs := [3]) (by kernel_rfl) (by simp) ?_
        refine AllReadyH.cons (o := _) rfl (fun K hK => ?_) AllReadyH.nil
        go_simp
        refine (HMG.out _).mono ?_
        rintro e w6 ⟨rfl, hb6⟩
        have HC6 : Hid (w6.heap[w.heap.size + 1]? = some (.cells #[.int .u64 A.c, .bool A.o, .int .i64 (hi A.s), .int .u64 (lo A.s), .int .i64 A.mn, .int .i64 A.mx] 44)) := (hb6.block _ (Array.getElem?_eq_some_iff.1 HC5.out).1).trans HC5.out
        have HZ6 : Hid (w6.heap[w.heap.size]? = some (.cells #[.int .u64 0, .bool false, .int .i64 0, .int .u64 0, .int .i64 0, .int .i64 0] 44)) := (hb6.block _ (Array.getElem?_eq_some_iff.1 HZ5.out).1).trans HZ5.out
        have HB6 : Hid (Below w.heap.size w w6) := HB5.out.trans (hb6.mono HB5.out.size)
        clear hb6
        refine hK.out _ _ ?_ (fun hHeld => ?_)
        · exact HB6.out
        clear hK K
        have f0 := f_rw HC6.out 0
        have f1 := f_rw HC6.out 1
        have f2 := f_rw HC6.out 2
        have f3 := f_rw HC6.out 3
        have f4 := f_rw HC6.out 4
        have f5 := f_rw HC6.out 5
        have z0 := c_rw HC6.out 0 (by simp)
        have z1 := c_rw HC6.out 1 (by simp)
        have z2 := c_rw HC6.out 2 (by simp)
        have z3 := c_rw HC6.out 3 (by simp)
        have z4 := c_rw HC6.out 4 (by simp)
        have z5 := c_rw HC6.out 5 (by simp)
        simp only [List.getElem_toArray, List.getElem_cons_succ, List.getElem_cons_zero] at z0 z1 z2 z3 z4 z5
        refine wpAnyH_ready (rs := [4]) (by kernel_rfl) (by simp) ?_
        refine AllReadyH.cons (o := _) rfl (fun K hK => ?_) AllReadyH.nil
        go_simp
        obtain ⟨w7, HW7⟩ := hid_ex ((((((w6.setCell ⟨w.heap.size + 1, 0, none⟩ (.int .u64 N.c)).setCell ⟨w.heap.size + 1, 1, none⟩ (.bool N.o)).setCell ⟨w.heap.size + 1, 2, none⟩ (.int .i64 (hi N.s))).setCell ⟨w.heap.size + 1, 3, none⟩ (.int .u64 (lo N.s))).setCell ⟨w.heap.size + 1, 4, none⟩ (.int .i64 N.mn)).setCell ⟨w.heap.size + 1, 5, none⟩ (.int .i64 N.mx))
        rw [← HW7.out]
        have HB7 : Hid (Below w.heap.size w w7) := by rw [HW7.out]; exact below6' HB6.out (by omega) _ _ _ _ _ _
        have HC7 : Hid (w7.heap[w.heap.size + 1]? = some (.cells #[.int .u64 N.c, .bool N.o, .int .i64 (hi N.s), .int .u64 (lo N.s), .int .i64 N.mn, .int .i64 N.mx] 44)) := by rw [HW7.out]; exact set6' HC6.out _ _ _ _ _ _
        have HZ7 : Hid (w7.heap[w.heap.size]? = some (.cells #[.int .u64 0, .bool false, .int .i64 0, .int .u64 0, .int .i64 0, .int .i64 0] 44)) := by
          rw [HW7.out]; unfold Hid
          rw [Go.heap_setCell_other _ _ _ _ (by simp), Go.heap_setCell_other _ _ _ _ (by simp), Go.heap_setCell_other _ _ _ _ (by simp), Go.heap_setCell_other _ _ _ _ (by simp), Go.heap_setCell_other _ _ _ _ (by simp), Go.heap_setCell_other _ _ _ _ (by simp)]
          exact HZ6.out
        refine hK.out _ _ ?_ (fun hHeld => ?_)
        · exact HB7.out
        clear hK K
        clear hHeld z0 z1 z2 z3 z4 z5 f0 f1 f2 f3 f4 f5 HW7 HB6 HC6 HZ6
        refine wpAnyH_done (by kernel_rfl) ?_ _
        refine NoPanic.normal ?_
        go_wp2_with fail
        go_roundw
        case rel => exact ⟨k + 1, N, by omega, by go_num, HKN, HC7, HZ7, HB7⟩
        case measure => simp [intOf]; omega
    · have hkl : k = l.length := by omega
      rw [hkl, List.take_length] at HK
      have z0 := c_rw HC.out 0 (by simp)
      have z1 := c_rw HC.out 1 (by simp)
      have z2 := c_rw HC.out 2 (by simp)
      have z3 := c_rw HC.out 3 (by simp)
      have z4 := c_rw HC.out 4 (by simp)
      have z5 := c_rw HC.out 5 (by simp)
      simp only [List.getElem_toArray, List.getElem_cons_succ, List.getElem_cons_zero] at z0 z1 z2 z3 z4 z5
      have f0 := f_rw HZ.out 0
      have f1 := f_rw HZ.out 1
      have f2 := f_rw HZ.out 2
      have f3 := f_rw HZ.out 3
      have f4 := f_rw HZ.out 4
      have f5 := f_rw HZ.out 5
      have y0 := c_rw HZ.out 0 (by simp)
      have y1 := c_rw HZ.out 1 (by simp)
      have y2 := c_rw HZ.out 2 (by simp)
      have y3 := c_rw HZ.out 3 (by simp)
      have y4 := c_rw HZ.out 4 (by simp)
      have y5 := c_rw HZ.out 5 (by simp)
      simp only [List.getElem_toArray, List.getElem_cons_succ, List.getElem_cons_zero] at y0 y1 y2 y3 y4 y5
      go_wp2_with fail
      exact bodyPost_ret (res_r rfl _ _ w.heap.size _ rfl (run_loadVar_row _ w.heap.size _ _ _ (0, 0) _ (set6' HZ.out _ _ _ _ _ _) Try.underlying44 rfl (by kernel_rfl))) rfl ⟨A, rfl, HK.out, below6' HB.out (Nat.le_refl _) _ _ _ _ _ _⟩
end Go.Proofs.Ytdeaglfjlfbdoaa
