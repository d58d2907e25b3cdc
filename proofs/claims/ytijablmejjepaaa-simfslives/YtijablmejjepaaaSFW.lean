/- A file system: what every call keeps, plainly; the calls in one form. -/
import Derived.Test.YtijablmejjepaaaSFC
namespace Go.Proofs.Ytijablmejjepaaa
open Go.RowKit Go.Maps Go.Sort

theorem SfWf.fold {s : SfS} (q : SfWf s) (k : Nat) : ∀ p ∈ (s.pend.take k).foldl sfDo s.old, p.2 < s.fls.length ∧ p.1.length ≤ 32 := sfDo_fold_ok q.oi (fun a ha => q.pi a (List.mem_of_mem_take ha))
theorem SfWf.syncDir {s : SfS} (h : SfWf s) : SfWf (sfSyncDir s).2 := by
  unfold sfSyncDir
  split
  · have q := h.plan
    have e : s.pend.length = (sfPlan s).2.pend.length := by rw [sfPlan_pend]
    rw [e]
    have hf := q.fold (sfPlan s).2.pend.length
    have hd : ((sfPlan s).2.pend.take (sfPlan s).2.pend.length).foldl sfDo (sfPlan s).2.old = (sfPlan s).2.dir := by rw [List.take_length, ← q.ap]
    refine ⟨q.r1, q.r2, q.l1, q.l2, q.di, hf, fun a ha => by simp [sfSettle] at ha, ?_, fun k => ?_, q.sy⟩
    · simp only [sfSettle, List.foldl_nil]; exact hd.symm
    · simp only [sfSettle, List.take_nil, List.foldl_nil, hd]; exact q.dl
  · exact h.plan
theorem sfCuts_len : ∀ (dir : List (List UInt8 × Nat)) (ks : List Int) (fls : List (List UInt8 × Nat)), (sfCuts dir ks fls).length = fls.length
  | [], _, _ => rfl
  | p :: r, ks, fls => by rw [sfCuts, sfCuts_len r, List.length_set]
theorem sfCuts_ok : ∀ (dir : List (List UInt8 × Nat)) (ks : List Int) (fls : List (List UInt8 × Nat)), sfFlOk fls → sfFlOk (sfCuts dir ks fls)
  | [], _, _, h => h
  | p :: r, ks, fls, h => by rw [sfCuts]; exact sfCuts_ok r _ _ (h.cut _ _)
theorem SfWf.crash {s : SfS} (q : SfWf s) (n : Int) (ks : List Int) : SfWf (sfCrash s n ks) := by
  have hf := q.fold (max n 0).toNat
  have hl : (sfCrash s n ks).fls.length = s.fls.length := sfCuts_len _ _ _
  refine ⟨q.r1, q.r2, q.l1, q.l2, fun p hp => ?_, fun p hp => ?_, fun a ha => by simp [sfCrash, sfSettle] at ha, rfl, fun k => ?_, sfCuts_ok _ _ _ q.sy⟩
  · rw [hl]; exact hf p hp
  · rw [hl]; exact hf p hp
  · simp only [sfCrash, sfSettle, List.take_nil, List.foldl_nil]; exact q.ln _
theorem SfWf.change {s : SfS} (h : SfWf s) {a : SfA} (ha : (∀ i, a.file = some i → i < s.fls.length) ∧ a.gone.length ≤ 32 ∧ a.name.length ≤ 32) (hd : (sfDo s.dir a).length ≤ 256) : SfWf (sfChange s a).2 := by
  unfold sfChange
  split
  · have q := h.plan
    have e1 := sfPlan_dir s
    have e2 := sfPlan_fls s
    refine ⟨q.r1, q.r2, q.l1, q.l2, ?_, q.oi, ?_, ?_, fun k => ?_, q.sy⟩
    · exact sfDo_ok q.di (by rw [e2]; exact ha)
    · intro b hb
      rcases List.mem_append.1 hb with hb | hb
      · exact q.pi b hb
      · obtain rfl : b = a := by simpa using hb
        show (∀ i, b.file = some i → i < (sfPlan s).2.fls.length) ∧ _
        rw [e2]; exact ha
    · show sfDo (sfPlan s).2.dir a = ((sfPlan s).2.pend ++ [a]).foldl sfDo (sfPlan s).2.old
      rw [List.foldl_append, ← q.ap]; rfl
    · show (((sfPlan s).2.pend ++ [a]).take k |>.foldl sfDo (sfPlan s).2.old).length ≤ 256
      rcases Nat.lt_or_ge (sfPlan s).2.pend.length k with hk | hk
      · rw [List.take_of_length_le (by simp; omega), List.foldl_append, ← q.ap]
        show (sfDo (sfPlan s).2.dir a).length ≤ 256
        rw [e1]; exact hd
      · rw [List.take_append_of_le_length hk]; exact q.ln k
  · exact h.plan
theorem sfDel_lt {s : List UInt8} {i : Nat} : ∀ {l : List (List UInt8 × Nat)}, sfLook s l = some i → (sfDel s l).length + 1 ≤ l.length
  | y :: r, h => by
    unfold sfLook at h
    rw [List.find?_cons] at h
    by_cases e : y.1 == s
    · have : sfDel s (y :: r) = sfDel s r := by unfold sfDel; rw [List.filter_cons, e]; rfl
      rw [this]
      have := sfDel_le s r
      simp; omega
    · rw [Bool.not_eq_true] at e
      rw [e] at h
      have ih := sfDel_lt (l := r) h
      have : sfDel s (y :: r) = y :: sfDel s r := by unfold sfDel; rw [List.filter_cons, e]; rfl
      rw [this]
      simp; omega
theorem sfName_len {n : List UInt8} (h : sfName n = true) : n.length ≤ 32 ∧ 1 ≤ n.length := by
  unfold sfName at h
  simp only [Bool.and_eq_true, decide_eq_true_eq] at h
  omega
theorem SfWf.create {s : SfS} (h : SfWf s) (n : List UInt8) : SfWf (sfCreate s n).2 := by
  unfold sfCreate
  split
  · exact h
  · split
    · exact h
    · split
      · exact h
      · rename_i h1 h2 h3
        have hn := sfName_len (by simpa using h1)
        refine h.new.change ⟨fun i hi => ?_, by simp, hn.1⟩ ?_
        · simp at hi; subst hi; simp [sfNew]
        · have := sfDo_le (sfNew s).dir ⟨[], n, some s.fls.length⟩
          have e : (sfNew s).dir = s.dir := rfl
          rw [e] at this ⊢
          omega
theorem SfWf.setF {s : SfS} (q : SfWf s) {i : Nat} {f : List UInt8 × Nat} (hf : f.2 ≤ f.1.length ∧ f.1.length ≤ 1048576) : SfWf (s.setF i f) := by
  have hl : (s.setF i f).fls.length = s.fls.length := by simp [SfS.setF]
  refine ⟨q.r1, q.r2, q.l1, q.l2, fun p hp => by rw [hl]; exact q.di p hp, fun p hp => by rw [hl]; exact q.oi p hp, fun a ha => by rw [hl]; exact q.pi a ha, q.ap, q.ln, fun j g hg => ?_⟩
  by_cases e : i = j
  · subst e
    rcases Nat.lt_or_ge i s.fls.length with hi | hi
    · rw [SfS.setF, List.getElem?_set_self hi] at hg
      obtain rfl : f = g := by simpa using hg
      exact hf
    · rw [List.getElem?_eq_none (by rw [hl]; exact hi)] at hg; cases hg
  · rw [SfS.setF, List.getElem?_set_ne e] at hg; exact q.sy j g hg
theorem SfWf.append {s : SfS} (h : SfWf s) (n b : List UInt8) : SfWf (sfAppend s n b).2 := by
  unfold sfAppend
  split
  · exact h
  · rename_i i _
    split
    · exact h
    · split
      · exact h
      · split
        · refine h.plan.setF ?_
          have := (h.fl32 i).2
          simp only [List.length_append]; omega
        · exact h.plan
theorem SfWf.sync {s : SfS} (h : SfWf s) (n : List UInt8) : SfWf (sfSync s n).2 := by
  unfold sfSync
  split
  · exact h
  · rename_i i _
    split
    · exact h.plan.setF ⟨Nat.le_refl _, (h.fl32 i).1⟩
    · exact h.plan
theorem SfWf.rename {s : SfS} (h : SfWf s) (n m : List UInt8) : SfWf (sfRename s n m).2 := by
  unfold sfRename
  split
  · exact h
  · rename_i h1
    have hm := sfName_len (by simpa using h1)
    split
    · exact h
    · rename_i i hi
      refine h.change ⟨fun j hj => ?_, (h.di _ (look_mem hi)).2, hm.1⟩ ?_
      · simp at hj; subst hj; exact (h.di _ (look_mem hi)).1
      · have h1 := sfDel_lt hi
        have h2 := sfPut_le (m, i) (sfDel n s.dir)
        have h3 := h.dl
        show (sfPut (m, i) (sfDel n s.dir)).length ≤ 256
        omega
theorem SfWf.remove {s : SfS} (h : SfWf s) (n : List UInt8) : SfWf (sfRemove s n).2 := by
  unfold sfRemove
  split
  · exact h
  · rename_i i hi
    refine h.change ⟨fun j hj => by simp at hj, (h.di _ (look_mem hi)).2, by simp⟩ ?_
    have h1 := sfDel_le n s.dir
    have h3 := h.dl
    show (sfDel n s.dir).length ≤ 256
    omega
theorem SfWf.fail {s : SfS} (q : SfWf s) (n e : Int) (h2 : n < 9223372036854775808) : SfWf (sfFail s n e).2 := by
  unfold sfFail
  split
  · exact q
  · split
    · exact ⟨q.r1, q.r2, q.l1, q.l2, q.di, q.oi, q.pi, q.ap, q.ln, q.sy⟩
    · exact ⟨q.r1, q.r2, by show _ ≤ n; omega, h2, q.di, q.oi, q.pi, q.ap, q.ln, q.sy⟩
/-- A file system, wherever it lies. -/
def Fs (w : World) (O : Nat → Prop) (p : Value) (s : SfS) : Prop := SfWf s ∧ ∃ g m1 m2 pv bl vs, p = .pointer (some ⟨g, 0, none⟩) ∧ FsAt w O g m1 m2 pv bl vs s
/-- What a call answers and leaves. -/
def FsR (w : World) (O : Nat → Prop) (p : Value) (r : Int × SfS) (e : Ending) (w' : World) : Prop := e = .returned (.int .i64 r.1) ∧ Fs w' (Grw O w w') p r.2 ∧ Onl O w w'
theorem Fs.lt {w : World} {O : Nat → Prop} {p : Value} {s : SfS} (h : Fs w O p s) : ∀ k, O k → k < w.heap.size := by
  obtain ⟨_, g, m1, m2, pv, bl, vs, rfl, hf⟩ := h
  exact hf.lt
theorem Fs.keep {w w' : World} {O : Nat → Prop} {p : Value} {s : SfS} (h : Fs w O p s) (hk : ∀ k, O k → w'.heap[k]? = w.heap[k]?) (hs : w.heap.size ≤ w'.heap.size) : Fs w' O p s := by
  obtain ⟨hw, g, m1, m2, pv, bl, vs, rfl, hf⟩ := h
  exact ⟨hw, g, m1, m2, pv, bl, vs, rfl, hf.keep hk hs⟩
theorem Fs.below {w w' : World} {O : Nat → Prop} {p : Value} {s : SfS} (h : Fs w O p s) (hb : Below w.heap.size w w') : Fs w' O p s := h.keep (fun k hk => hb.block k (h.lt k hk)) hb.size
theorem Fs.wider {w : World} {O O' : Nat → Prop} {p : Value} {s : SfS} (h : Fs w O p s) (hO : ∀ k, O k → O' k) (hl : ∀ k, O' k → k < w.heap.size) : Fs w O' p s := by
  obtain ⟨hw, g, m1, m2, pv, bl, vs, rfl, hf⟩ := h
  exact ⟨hw, g, m1, m2, pv, bl, vs, rfl, hf.wider hO hl⟩
theorem Fs.ptr {w : World} {O : Nat → Prop} {p : Value} {s : SfS} (h : Fs w O p s) : ∃ g, p = .pointer (some ⟨g, 0, none⟩) := by
  obtain ⟨_, g, m1, m2, pv, bl, vs, rfl, hf⟩ := h
  exact ⟨g, rfl⟩
theorem Fs.sorted {w : World} {O : Nat → Prop} {p : Value} {s : SfS} (h : Fs w O p s) : s.dir.Pairwise (fun p q => bytesBefore p.1 q.1 = true) := by
  obtain ⟨_, g, m1, m2, pv, bl, vs, rfl, hf⟩ := h
  exact hf.h1.apart
theorem Fs.sorted2 {w : World} {O : Nat → Prop} {p : Value} {s : SfS} (h : Fs w O p s) : s.old.Pairwise (fun p q => bytesBefore p.1 q.1 = true) := by
  obtain ⟨_, g, m1, m2, pv, bl, vs, rfl, hf⟩ := h
  exact hf.h2.apart
/-- Another one, of which no block is touched. -/
theorem Fs.other {w w' : World} {O O' : Nat → Prop} {p : Value} {s : SfS} (h : Fs w O p s) (ho : Onl O' w w') (hd : ∀ k, O k → ¬ O' k) : Fs w' O p s := h.keep (fun k hk => ho.block k (h.lt k hk) (hd k hk)) ho.size
theorem FsTo.fs {w w' : World} {O : Nat → Prop} {g m1 m2 : Nat} {s : SfS} (h : FsTo w O g m1 m2 s w') (hw : SfWf s) : Fs w' (Grw O w w') (.pointer (some ⟨g, 0, none⟩)) s ∧ Onl O w w' := by
  obtain ⟨⟨pv, bl, vs, hf⟩, ho⟩ := h
  exact ⟨⟨hw, g, m1, m2, pv, bl, vs, rfl, hf⟩, ho⟩
theorem Fs.create {w : World} {O : Nat → Prop} {p : Value} {s : SfS} (h : Fs w O p s) (n : List UInt8) (hn : n.length ≤ maxLen) (hpn : s.pend.length < 1099511627776) : Calls Try.prog 11 #[p, .string ⟨n.toArray⟩] w (FsR w O p (sfCreate s n)) := by
  obtain ⟨hw, g, m1, m2, pv, bl, vs, rfl, hf⟩ := h
  exact (create_any hf hw n hn hpn).mono fun e w' h => ⟨h.1, h.2.fs (hw.create n)⟩
theorem Fs.append {w : World} {O : Nat → Prop} {p : Value} {s : SfS} (h : Fs w O p s) (n : List UInt8) (hn : n.length ≤ maxLen) (bv : Value) (b : List UInt8) (hR : ∀ w', Onl O w w' → Reads w' bv b) : Calls Try.prog 12 #[p, .string ⟨n.toArray⟩, bv] w (FsR w O p (sfAppend s n b)) := by
  obtain ⟨hw, g, m1, m2, pv, bl, vs, rfl, hf⟩ := h
  exact (append_any hf hw n hn bv b hR).mono fun e w' h => ⟨h.1, h.2.fs (hw.append n b)⟩
theorem Fs.sync {w : World} {O : Nat → Prop} {p : Value} {s : SfS} (h : Fs w O p s) (n : List UInt8) (hn : n.length ≤ maxLen) : Calls Try.prog 13 #[p, .string ⟨n.toArray⟩] w (FsR w O p (sfSync s n)) := by
  obtain ⟨hw, g, m1, m2, pv, bl, vs, rfl, hf⟩ := h
  exact (sync_any hf hw n hn).mono fun e w' h => ⟨h.1, h.2.fs (hw.sync n)⟩
theorem Fs.rename {w : World} {O : Nat → Prop} {p : Value} {s : SfS} (h : Fs w O p s) (n m : List UInt8) (hn : n.length ≤ maxLen) (hm : m.length ≤ maxLen) (hpn : s.pend.length < 1099511627776) : Calls Try.prog 18 #[p, .string ⟨n.toArray⟩, .string ⟨m.toArray⟩] w (FsR w O p (sfRename s n m)) := by
  obtain ⟨hw, g, m1, m2, pv, bl, vs, rfl, hf⟩ := h
  exact (rename_any hf hw n m hn hm hpn).mono fun e w' h => ⟨h.1, h.2.fs (hw.rename n m)⟩
theorem Fs.remove {w : World} {O : Nat → Prop} {p : Value} {s : SfS} (h : Fs w O p s) (n : List UInt8) (hn : n.length ≤ maxLen) (hpn : s.pend.length < 1099511627776) : Calls Try.prog 19 #[p, .string ⟨n.toArray⟩] w (FsR w O p (sfRemove s n)) := by
  obtain ⟨hw, g, m1, m2, pv, bl, vs, rfl, hf⟩ := h
  exact (remove_any hf hw n hn hpn).mono fun e w' h => ⟨h.1, h.2.fs (hw.remove n)⟩
theorem Fs.syncDir {w : World} {O : Nat → Prop} {p : Value} {s : SfS} (h : Fs w O p s) : Calls Try.prog 14 #[p] w (FsR w O p (sfSyncDir s)) := by
  obtain ⟨hw, g, m1, m2, pv, bl, vs, rfl, hf⟩ := h
  exact (syncDir_any hf hw).mono fun e w' h => ⟨h.1, h.2.fs hw.syncDir⟩
theorem Fs.crash {w : World} {O : Nat → Prop} {p : Value} {s : SfS} (h : Fs w O p s) (n : Int) (kv : Value) (ks : List Int) (hK : ∀ w', Onl O w w' → KReads w' kv ks) : Calls Try.prog 15 #[p, .int .i64 n, kv] w (FsR w O p (0, sfCrash s n ks)) := by
  obtain ⟨hw, g, m1, m2, pv, bl, vs, rfl, hf⟩ := h
  exact (crash_any hf hw n kv ks hK).mono fun e w' h => ⟨h.1, h.2.fs (hw.crash n ks)⟩
theorem Fs.fail {w : World} {O : Nat → Prop} {p : Value} {s : SfS} (h : Fs w O p s) (n e : Int) (h2 : n < 9223372036854775808) : Calls Try.prog 20 #[p, .int .i64 n, .int .i64 e] w (FsR w O p (sfFail s n e)) := by
  obtain ⟨hw, g, m1, m2, pv, bl, vs, rfl, hf⟩ := h
  exact (fail_any hf hw n e).mono fun e w' h => ⟨h.1, h.2.fs (hw.fail n _ h2)⟩
theorem Fs.read {w : World} {O : Nat → Prop} {p : Value} {s : SfS} (h : Fs w O p s) (n : List UInt8) (hn : n.length ≤ maxLen) : Calls Try.prog 16 #[p, .string ⟨n.toArray⟩] w fun e w' => ∃ v, e = .returned (.tuple #[v, .int .i64 (sfFe (sfLook n s.dir))]) ∧ Own w' w.heap.size v (sfRead s n) ∧ Below w.heap.size w w' := by
  obtain ⟨hw, g, m1, m2, pv, bl, vs, rfl, hf⟩ := h
  exact read_any hf hw n hn
theorem Fs.list {w : World} {O : Nat → Prop} {p : Value} {s : SfS} (h : Fs w O p s) : Calls Try.prog 29 #[p] w fun e w' => ∃ v, e = .returned v ∧ w'.ownsRow w.heap.size 9 1 v s.dir.length (s.dir.map fun p => sv p.1) ∧ Below w.heap.size w w' := by
  obtain ⟨hw, g, m1, m2, pv, bl, vs, rfl, hf⟩ := h
  exact list_any hf hw
theorem Fs.used {w : World} {O : Nat → Prop} {p : Value} {s : SfS} (h : Fs w O p s) : Calls Try.prog 30 #[p] w fun e w' => e = .returned (.int .i64 (sfUsed s : Int)) ∧ Below w.heap.size w w' := by
  obtain ⟨hw, g, m1, m2, pv, bl, vs, rfl, hf⟩ := h
  exact used_any hf hw
theorem fs_new (r : Int) (w : World) (h : 1 ≤ r) (h2 : r < 9223372036854775808) : Calls Try.prog 4 #[.int .i64 r] w fun e w' => ∃ p, e = .returned (.tuple #[p, .int .i64 0]) ∧ Fs w' (fun k => w.heap.size ≤ k ∧ k < w'.heap.size) p (sfZ r) ∧ Below w.heap.size w w' := by
  refine (new_any r w h).mono ?_
  rintro e w' ⟨he, hf, hb, hs⟩
  exact ⟨_, he, ⟨sfWf_zero h h2, _, _, _, _, _, _, rfl, hf.wider (fun k q => ⟨q.1, by omega⟩) (fun k q => q.2)⟩, hb⟩
end Go.Proofs.Ytijablmejjepaaa
