/- A file system: a file is cut; acts are settled; the directory is changed. -/
import Derived.Test.YtijablmejjepaaaSF3
import Derived.Test.YtijablmejjepaaaSL0
namespace Go.Proofs.Ytijablmejjepaaa
open Go.RowKit Go.Maps

theorem add_zero' (a : Addr) : a.add 0 = a := by simp [Addr.add]
theorem run_slice_3 (a : Option Addr) (n cap N : Nat) (h : N ≤ cap) (w : World) : (Instr.slice 31 (.slice a n cap) none (some (.int .i64 (N : Int))) (some (.int .i64 (N : Int)))).run Try.prog w = .ok (.slice a N N) w := by
  have ha : (Option.map (fun x : Addr => x.add 0) a) = a := by cases a <;> simp [add_zero']
  simp [Instr.slice, run_underlying Try.underlying31, Instr.sliceBounds, Instr.sliceBound, asIntOf, h, Result.andThen, ha]
theorem cut_any {w : World} {b : Nat} {v : Value} {f : List UInt8 × Nat} (hf : w.heap[b]? = some (.cells #[v, .int .i64 (f.2 : Int)] 69)) (hb : BOwn w v f.1) (hs : f.2 ≤ f.1.length) (hl : f.1.length ≤ 1048576) (keep : Int) :
    Calls Try.prog 40 #[.pointer (some ⟨b, 0, none⟩), .int .i64 keep] w fun e w' => e = .returned (.tuple #[]) ∧
      ∃ v', (∀ k, v'.ownBlock = some k → v.ownBlock = some k) ∧ w'.heap[b]? = some (.cells #[v', .int .i64 ((sfCut f keep).2 : Int)] 69) ∧ BOwn w' v' (sfCut f keep).1 ∧ Onl (fun k => k = b) w w' ∧ w'.heap.size = w.heap.size := by
  obtain ⟨a, cap, rfl, hc1, hc2, hc3, hc4⟩ := hb.form
  obtain ⟨N, HN⟩ := hid_ex (f.2 + min (max keep 0).toNat (f.1.length - f.2))
  have hN : N ≤ f.1.length := by have := HN.out; omega
  have hsl := run_slice_3 a f.1.length cap N (by omega)
  have hmx : ∀ ts t w', (Builtin.max_ ts t #[.int .i64 keep, .int .i64 0]).run Try.prog w' = .ok (.int .i64 (((max keep 0).toNat : Nat) : Int)) w' := by
    intro ts t w'
    simp only [Builtin.max_]
    by_cases hk : keep < 0
    · have : (max keep 0).toNat = 0 := by omega
      simp [Builtin.max2, this]; omega
    · have : (((max keep 0).toNat : Nat) : Int) = keep := by omega
      rw [this]
      simp [Builtin.max2]; omega
  have hmn : ∀ ts t w', (Builtin.min_ ts t #[.int .i64 (((max keep 0).toNat : Nat) : Int), .int .i64 ((f.1.length : Int) - (f.2 : Int))]).run Try.prog w' = .ok (.int .i64 ((N : Int) - (f.2 : Int))) w' := by
    intro ts t w'
    have hx := HN.out
    simp [Builtin.min_, Builtin.min2]
    omega
  have c0 : ∀ n, (w.drewN n).cell? ⟨b, 0, none⟩ = some (.slice a f.1.length cap) := fun n => by simp [World.cell?, World.drewN, hf]
  have c1 : ∀ n, (w.drewN n).cell? ⟨b, 1, none⟩ = some (.int .i64 (f.2 : Int)) := fun n => by simp [World.cell?, World.drewN, hf]
  have z0 : ∀ n, (w.drewN n).frozen? ⟨b, 0, none⟩ = false := fun n => by simp [World.frozen?, World.drewN, hf]
  have z1 : ∀ n, (w.drewN n).frozen? ⟨b, 1, none⟩ = false := fun n => by simp [World.frozen?, World.drewN, hf]
  have HF := (show Hid _ from hf)
  have HB := (show Hid (BOwn w (.slice a f.1.length cap) f.1) from hb)
  clear hf hb
  generalize hk0 : (max keep 0).toNat = K at *
  have HKK : Hid ((max keep 0).toNat = K) := hk0
  clear hk0
  generalize hq : f.1.length = L at *
  have HQ : Hid (f.1.length = L) := hq
  clear hq
  generalize hq : f.2 = S at *
  have HS : Hid (f.2 = S) := hq
  clear hq
  go_enter Try.func40, Try.ntmps40
  go_wp2_with fail
  go_quiet (fail)
  go_wp2_with fail
  refine bodyPost_end (results_none rfl _ _ _) rfl ?_
  have eN : (S : Int) + ((N : Int) - S) = N := by omega
  rw [eN, Int.toNat_natCast]
  have e2 : (sfCut f keep).2 = N := by unfold sfCut; rw [HQ.out, HS.out, HN.out, HKK.out]
  have e1 : (sfCut f keep).1 = f.1.take N := by have : (sfCut f keep).1 = f.1.take (sfCut f keep).2 := rfl; rw [this, e2]
  rw [e1, e2]
  have g1 := cells_set (w := w.drewN nq) HF.out 0 (.slice a N N)
  have g2 := cells_set g1 1 (.int .i64 (N : Int))
  refine ⟨rfl, .slice a N N, ?_, ?_, ?_, ?_, ?_⟩
  · intro k hk; cases a <;> exact hk
  · simpa using g2
  · cases a with
    | none =>
      have : N = 0 := by have := (hc4 rfl).1; omega
      subst this
      exact GOwn.nil _ _ _
    | some x =>
      have hx := hc3 x rfl
      rw [hx] at HB ⊢
      have hcut := HB.out.cut (c := N) (by rw [HQ.out]; exact hN)
      refine GOwn.keep hcut fun k hk => ?_
      obtain ⟨cur, hc⟩ := GOwn.block hcut hk
      have hne := ty_ne hc HF.out (by decide)
      rw [Below.heap_setCell _ _ _ _ hne, Below.heap_setCell _ _ _ _ hne]
      rfl
  · exact ⟨rfl, rfl, rfl, by simp [World.setCell, World.drewN], fun k _ ho => by rw [Below.heap_setCell _ _ _ _ ho, Below.heap_setCell _ _ _ _ ho]; rfl⟩
  · simp [World.setCell, World.drewN]
end Go.Proofs.Ytijablmejjepaaa
