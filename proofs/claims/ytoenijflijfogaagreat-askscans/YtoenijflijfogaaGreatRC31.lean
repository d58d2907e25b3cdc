/- AQU0, joined. -/
import Derived.Test.YtoenijflijfogaaGreatRC29
import Derived.Test.YtoenijflijfogaaGreatRC30
/- Layer 17: what Rollup's loop keeps. -/
namespace Go.Proofs.YtoenijflijfogaaGreat
open Go.RowKit Go.Maps Go.Sort

theorem mayB_pt {D : List ByteArray} (h : mayB D = true) (m : Nat) : mayB (pt D m) = true := by
  rw [mayB_iff] at *
  refine ⟨Nat.le_trans (pt_len D m) h.1, fun s hs => h.2 s ?_⟩
  clear h
  induction D generalizing m with
  | nil => exact hs
  | cons x L ih =>
    rw [pt, List.mem_append] at hs
    rcases hs with hs | hs
    · split at hs
      · simp at hs; rw [hs]; exact List.mem_cons_self ..
      · cases hs
    · exact List.mem_cons_of_mem _ (ih _ hs)
theorem jn_short {D : List ByteArray} (h : mayB D = true) : (jn D).length ≤ 1000 := by
  obtain ⟨h1, h2⟩ := mayB_iff.1 h
  have := jb_short D h2
  unfold jn
  rw [List.length_append]
  simp only [List.length_cons, List.length_nil]
  omega
theorem mrg_pos17 {a b : Ag} (ha : Gd a) (hb : Gd b) (h : b.c ≠ 0) : (mrg a b).c ≠ 0 := by
  by_cases h1 : a.c = 0
  · unfold mrg; rw [if_pos h1]; exact h
  · rw [mrg_both a b h1 h]
    have c1 := ha.c.1
    have c2 := hb.c.1
    show cntF a.c b.c ≠ 0
    unfold cntF
    split <;> omega
theorem sreads_map {w W : World} {v : Value} {D : List ByteArray} {m : Nat} (h : SReads w v D) (hT : w.mapTurned W m) (hm : ∃ es clock, w.heap[m]? = some (.map es clock)) : SReads W v D := by
  have hg := hT.grown
  rcases h with h | ⟨b, off, cap, h1, h2, h3, h4, h5, h6, h7⟩
  · exact .inl h
  · refine .inr ⟨b, off, cap, h1, h2, h3, h4, Nat.lt_of_lt_of_le h5 hg.size, fun j hj => ?_, h7⟩
    have hne : b ≠ m := fun e => by
      obtain ⟨es, clock, hm⟩ := hm
      have := h6 j hj
      rw [e] at this
      simp [World.cell?, hm] at this
    rw [← h6 j hj]
    exact World.cell?_of_block (hg.block b h5 (by simpa using fun e : b = m => hne e))
theorem field17 (w : World) (u0 : Value) (f z c h l n x : Int) (o : Bool) : (Instr.field 38 (.agg #[u0, .int .i64 f, .int .i64 z, .int .u64 c, .bool o, .int .i64 h, .int .u64 l, .int .i64 n, .int .i64 x]) 3).run Tryz.prog w = .ok (.agg #[.int .u64 c, .bool o, .int .i64 h, .int .u64 l, .int .i64 n, .int .i64 x]) w := by kernel_rfl
/-- What Rollup's loop keeps. -/
structure RlI (V : World) (m mk : Nat) (f t : Int) (rows : List Rw) (k : Nat) (P : List It) (wr : World) : Prop where
  M : VMap wr m (vlI P)
  e : P.map itR = rollF mk f t (rows.take k)
  s : ∀ y ∈ P, SReads wr y.v y.D
  ok : ∀ y ∈ P, RwOk y
  b : Below m V wr
theorem RlI.below {V : World} {m mk : Nat} {f t : Int} {rows : List Rw} {k : Nat} {P : List It} {wr W : World} (h : RlI V m mk f t rows k P wr) (hb : Below wr.heap.size wr W) : RlI V m mk f t rows k P W := by
  have hlt := World.ownsMap.lt h.M
  exact ⟨h.M.keep (hb.block m hlt), h.e, fun y hy => (h.s y hy).below hb, h.ok, h.b.trans (hb.mono (by omega))⟩
theorem RlI.skip {V : World} {m mk : Nat} {f t : Int} {rows : List Rw} {k : Nat} {P : List It} {wr : World} (h : RlI V m mk f t rows k P wr) (hk : k < rows.length) (hi : inR f t rows[k] = false) : RlI V m mk f t rows (k + 1) P wr :=
  ⟨h.M, by rw [h.e, List.take_succ_eq_append_getElem hk, rollF_snoc, if_neg (by rw [hi]; simp)], h.s, h.ok, h.b⟩
theorem RlI.srt {V : World} {m mk : Nat} {f t : Int} {rows : List Rw} {k : Nat} {P : List It} {wr : World} (h : RlI V m mk f t rows k P wr) : (P.map itR).Pairwise (fun a b => lj a.D b.D) := by
  rw [h.e]; exact rollF_srt mk f t _
theorem RlI.put {V : World} {m mk : Nat} {f t : Int} {rows : List Rw} {k : Nat} {P : List It} {w W : World} {x : It} (h : RlI V m mk f t rows k P w) (hk : k < rows.length) (hi : inR f t rows[k] = true) (hx : itR x = pR mk f t rows[k])
    (hM : VMap W m (vPut (jn x.D, v9 { x with a := mrg (aggI x.D P) x.a }) (vlI P))) (hT : w.mapTurned W m) (hs : SReads w x.v x.D) (hok : RwOk x) : RlI V m mk f t rows (k + 1) (insI x P) W := by
  have hmp := h.M.isMap
  rw [vput_I h.srt] at hM
  refine ⟨hM, ?_, insI_all (p := fun y => SReads W y.v y.D) (fun _ _ => sreads_map hs hT hmp) (sreads_map hs hT hmp) (fun y hy => sreads_map (h.s y hy) hT hmp), insI_all (p := RwOk) (fun y hy => ⟨hok.m, hok.f, hok.z, hy.a.mrg hok.a, mrg_pos17 hy.a hok.a hok.c⟩) hok h.ok, h.b.grown hT.grown ?_ (fun k hk => by cases hk; exact Nat.le_refl _)⟩
  · rw [itR_ins, h.e, hx, List.take_succ_eq_append_getElem hk, rollF_snoc, if_pos hi]
  · exact Nat.le_trans (Nat.le_of_lt (World.ownsMap.lt h.M)) (Nat.le_refl _)
/-- What is known of a part's dimensions so far, as it is looked up. -/
theorem RlI.look {V : World} {m mk : Nat} {f t : Int} {rows : List Rw} {k : Nat} {P : List It} {w : World} (h : RlI V m mk f t rows k P w) {D : List ByteArray} (hD : mayB D = true) :
    ∃ y0 : It, (Instr.lookup 79 (.map (some m)) (.string ⟨(jn D).toArray⟩) false).run Tryz.prog w = .ok (v9 y0) w ∧ y0.a = aggI D P ∧ Gd y0.a := by
  have hlk := h.M.look Tryz.underlying79 (zeroRw17 w) (jn D) (by have := jn_short hD; unfold maxLen; omega)
  rw [vlook_I] at hlk
  cases hl : lookI D P with
  | none => exact ⟨itZ, by rw [hlk, hl]; rfl, by unfold aggI; rw [hl]; rfl, Gd.zero⟩
  | some y =>
    refine ⟨y, by rw [hlk, hl]; rfl, by unfold aggI; rw [hl], ?_⟩
    exact (h.ok y (List.mem_of_find?_eq_some hl)).a
end Go.Proofs.YtoenijflijfogaaGreat
