/- sumsTo: the sums of all paths to a face. -/
import Derived.Test.YtnnkmkhamipfiaaGreatDoorMorseFrom
import Derived.Test.YtnnkmkhamipfiaaGreatDoorMorseJoin
namespace Go.Proofs.YtnnkmkhamipfiaaGreatDoor
open Go.RowKit Go.Sort Go.Maps

@[local go_sem] theorem store_closure2 (P : Program) (w : World) (a : Addr) (m : Mode) (fn : Fn) (first captured : Array Value) : (store a (.func fn first captured) m).run P w = stored P w a (.func fn first captured) m := run_store P w a _ m rfl

section
variable {ρ : Nat → Nat} {r B : Nat} {L : List (List Int)} {mt : Nat → Int} {ad aS ao : Option Addr} {cd cs co gm fb gb mb qb db g goal : Nat} {P : Nat → Nat × Nat}
theorem from_all {M : Nat} (hL6 : L.length ≤ 600) (hM : ∀ x, (P x).1 + (P x).2 ≤ M) (hMT : 600 * M < NatTop) (hP : PEq (upW mt) (sgL L) (downsL L) goal P)
    (hrank : ∀ a x, leadL L mt a x → ρ x < ρ a) (hmt : ∀ a b, upW mt a = some b → b < L.length ∧ a ∈ downsL L b) :
    ∀ (k part : Nat), part < L.length → ρ part < k → fromOk ρ B L mt ad aS ao cd cs co gm fb gb mb qb db g goal P part
  | 0, _, _, h => absurd h (Nat.not_lt_zero _)
  | k + 1, part, hp, hk => from_step hL6 hP hp (fun b hb => hmt part b hb) (fun b hb W told hW => by
      have hld : ∀ x ∈ downsL L b, (x : Int) ≠ (part : Int) → ρ x < ρ part := fun x hx hne => hrank part x ⟨b, hb, hx, fun e => hne (by rw [e])⟩
      exact down_ hL6 hM hMT (hmt part b hb).1 (fun x hx hne => from_all hL6 hM hMT hP hrank hmt k x (List.mem_range.1 (List.mem_filter.1 hx).1) (by have := hld x hx hne; omega)) hld W told hW)

set_option maxRecDepth 100000 in
set_option maxHeartbeats 4000000 in
theorem col_ {b : Nat} (W : World) (told : Nat → Bool) (h : SumIn B L mt ad aS ao cd cs co gm fb gb mb qb db g goal P W told)
    (hdown : ∀ W told, SumIn B L mt ad aS ao cd cs co gm fb gb mb qb db g goal P W told → Calls Tryz.prog 64 #[.int .i64 (b : Int), .int .i64 (-1), .pointer (some ⟨fb, 0, none⟩), .pointer (some ⟨qb, 0, none⟩)] W fun e w' => SumSays ρ r B L mt ad aS ao cd cs co gm fb gb mb qb db g goal P (downP (sgL L) (downsL L) P b (-1)) W e w') :
    Calls Tryz.prog 71 #[.int .i64 (b : Int), .pointer (some ⟨db, 0, none⟩)] W fun e w' => SumSays ρ r B L mt ad aS ao cd cs co gm fb gb mb qb db g goal P (downP (sgL L) (downsL L) P b (-1)) W e w' := by
  obtain ⟨pb, hpb⟩ : ∃ pb, W.heap.size = pb := ⟨_, rfl⟩
  have hBX : Below W.heap.size W (W.alloc (.cells #[.slice none 0 0, .slice none 0 0] 92)) := (Below.refl _ W).alloc (Nat.le_refl _) _
  have hbx : BoxS (W.alloc (.cells #[.slice none 0 0, .slice none 0 0] 92)) pb (.slice none 0 0) (.slice none 0 0) := by
    unfold BoxS
    rw [← hpb]; exact (Go.MapKept.heap_alloc W _).1
  obtain ⟨X, hX⟩ : ∃ X, W.alloc (.cells #[.slice none 0 0, .slice none 0 0] 92) = X := ⟨_, rfl⟩
  rw [hX] at hBX hbx
  have hin := h.below hBX
  have HX : Hid (W.heap.size = pb ∧ Below W.heap.size W X ∧ BoxS X pb (.slice none 0 0) (.slice none 0 0) ∧ (∃ es c, X.heap[g]? = some (.map es c)) ∧ B ≤ pb) := ⟨hpb, hBX, hbx, hin.known.block, by rw [← hpb]; exact h.low.2.2.2.2.2.2⟩
  have d0 := hin.d0
  have hdn := hdown X told hin
  clear h hdown hBX hbx hin
  go_enter Tryz.func71, Tryz.ntmps71
  go_wp2_with (first
    | (go_at_call 64; refine hdn.mono ?_; rintro e V ⟨v, rfl, hs, hL⟩; obtain ⟨o1, o2, rfl, n1, n2⟩ := hs; obtain ⟨a5, m5, c5, rfl⟩ := n1.form; obtain ⟨a6, m6, c6, rfl⟩ := n2.form; have hbv := box_later HX.out.2.2.1 HX.out.2.2.2.1 hL.1; have r0 := hbv.cells.1 0; have r1 := hbv.cells.1 1; have f0 := hbv.cells.2 0; have f1 := hbv.cells.2 1; have HV := Hid.mk' (And.intro hbv (And.intro n1 (And.intro n2 hL))); clear hdn hbv n1 n2 hL)
    | fail)
  obtain ⟨hbv, n1, n2, hL⟩ := HV.out
  obtain ⟨q1, q2⟩ := put2 (.slice a5 m5 c5) (.slice a6 m6 c6) hbv
  have hblk : ∀ b, b ≠ pb → ((V.setCell ⟨pb, 0, none⟩ (.slice a5 m5 c5)).setCell ⟨pb, 1, none⟩ (.slice a6 m6 c6)).heap[b]? = V.heap[b]? := fun b hb => (Below.heap_setCell _ _ _ b (fun e => hb e)).trans (Below.heap_setCell _ _ _ b (fun e => hb e))
  have hWL : LaterS ρ r B L mt ad aS ao cd cs co gm fb gb mb qb db g goal P W V := later_trans _ _ _ (later_below HX.out.2.1) hL
  have s0 := q1.cells.1 0
  have s1 := q1.cells.1 1
  refine bodyPost_ret (v := .agg #[.slice a5 m5 c5, .slice a6 m6 c6]) ?_ rfl ⟨_, rfl, ⟨_, _, rfl, NatT.poke2 n1 hbv, NatT.poke2 n2 hbv⟩, ⟨q2.os.trans hWL.1.os, q2.tape.trans hWL.1.tape, q2.output.trans hWL.1.output, Nat.le_trans hWL.1.size q2.size, fun b hb hne => (hblk b (by have := HX.out.1; omega)).trans (hWL.1.block b hb hne)⟩, fun t0 ht0 => ?_⟩
  · simp [results, Tryz.f71, go_sem, s0, s1]
  · obtain ⟨t, ht, hf⟩ := hWL.2 t0 ht0
    exact ⟨t, ht.poke_box hbv ⟨q2.os, q2.tape, q2.output, q2.size, fun b _ hb _ => hblk b hb⟩ HX.out.2.2.2.2, hf⟩
end

theorem six_blocks (w : World) (o1 o2 o3 o4 o5 o6 : Obj) {p : Nat} (hp : w.heap.size = p) :
    Below p w ((((((w.alloc o1).alloc o2).alloc o3).alloc o4).alloc o5).alloc o6) ∧ ((((((w.alloc o1).alloc o2).alloc o3).alloc o4).alloc o5).alloc o6).heap.size = p + 6 ∧
      ((((((w.alloc o1).alloc o2).alloc o3).alloc o4).alloc o5).alloc o6).heap[p]? = some o1 ∧ ((((((w.alloc o1).alloc o2).alloc o3).alloc o4).alloc o5).alloc o6).heap[p + 1]? = some o2 ∧ ((((((w.alloc o1).alloc o2).alloc o3).alloc o4).alloc o5).alloc o6).heap[p + 2]? = some o3 ∧
      ((((((w.alloc o1).alloc o2).alloc o3).alloc o4).alloc o5).alloc o6).heap[p + 3]? = some o4 ∧ ((((((w.alloc o1).alloc o2).alloc o3).alloc o4).alloc o5).alloc o6).heap[p + 4]? = some o5 ∧ ((((((w.alloc o1).alloc o2).alloc o3).alloc o4).alloc o5).alloc o6).heap[p + 5]? = some o6 := by
  subst hp
  have st : ∀ (W : World) (o : Obj), Below W.heap.size W (W.alloc o) ∧ (W.alloc o).heap[W.heap.size]? = some o := fun W o => ⟨(Below.refl _ W).alloc (Nat.le_refl _) _, (Go.MapKept.heap_alloc W o).1⟩
  have hz := fun (W : World) (o : Obj) => World.size_alloc W o
  have e1 := (st w o1).2
  have e2 := (st (w.alloc o1) o2).2
  have e3 := (st ((w.alloc o1).alloc o2) o3).2
  have e4 := (st (((w.alloc o1).alloc o2).alloc o3) o4).2
  have e5 := (st ((((w.alloc o1).alloc o2).alloc o3).alloc o4) o5).2
  have e6 := (st (((((w.alloc o1).alloc o2).alloc o3).alloc o4).alloc o5) o6).2
  have b2 := (st (w.alloc o1) o2).1
  have b3 := (st ((w.alloc o1).alloc o2) o3).1
  have b4 := (st (((w.alloc o1).alloc o2).alloc o3) o4).1
  have b5 := (st ((((w.alloc o1).alloc o2).alloc o3).alloc o4) o5).1
  have b6 := (st (((((w.alloc o1).alloc o2).alloc o3).alloc o4).alloc o5) o6).1
  simp only [hz] at e2 e3 e4 e5 e6 b2 b3 b4 b5 b6
  refine ⟨?_, by simp only [hz], ?_, ?_, ?_, ?_, ?_, e6⟩
  · exact (((((st w o1).1.trans (b2.mono (by omega))).trans (b3.mono (by omega))).trans (b4.mono (by omega))).trans (b5.mono (by omega))).trans (b6.mono (by omega))
  · rw [b6.block _ (by omega), b5.block _ (by omega), b4.block _ (by omega), b3.block _ (by omega), b2.block _ (by omega)]; exact e1
  · rw [b6.block _ (by omega), b5.block _ (by omega), b4.block _ (by omega), b3.block _ (by omega)]; exact e2
  · rw [b6.block _ (by omega), b5.block _ (by omega), b4.block _ (by omega)]; exact e3
  · rw [b6.block _ (by omega), b5.block _ (by omega)]; exact e4
  · rw [b6.block _ (by omega)]; exact e5

set_option maxRecDepth 100000 in
set_option maxHeartbeats 4000000 in
theorem sums_to {L : List (List Int)} {mt : Nat → Int} {ad aS ao : Option Addr} {cd cs co gm : Nat} (goal : Nat) (P : Nat → Nat × Nat) (w : World) (hs : SidesIn (fun b => b < w.heap.size) w (.slice aS L.length cs) L) (hm : w.rowIs gm 3 L.length (fun i => .int .i64 (mt i))) :
    Calls Tryz.prog 40 #[fieldV L.length ad aS ao cd cs co gm, .int .i64 (goal : Int)] w fun e w' => Below w.heap.size w w' ∧ ∃ B fb gb mb qb db g, e = .returned (.func (.func 71) #[] #[.pointer (some ⟨db, 0, none⟩)]) ∧ (w.heap.size ≤ g ∧ w.heap.size ≤ fb ∧ w.heap.size ≤ gb ∧ w.heap.size ≤ mb ∧ w.heap.size ≤ qb ∧ w.heap.size ≤ db ∧ fb < B ∧ g < B ∧ B ≤ w'.heap.size) ∧ SumIn B L mt ad aS ao cd cs co gm fb gb mb qb db g goal P w' (fun _ => false) := by
  have HH : Hid (SidesIn (fun b => b < w.heap.size) w (.slice aS L.length cs) L ∧ w.rowIs gm 3 L.length (fun i => .int .i64 (mt i))) := ⟨hs, hm⟩
  have hmm : ∀ V : World, (Instr.makeMap 121 none).run Tryz.prog V = .ok (.map (some V.heap.size)) (V.alloc (.map #[] 0)) := fun V => by kernel_rfl
  obtain ⟨n, hn⟩ : ∃ n, L.length = n := ⟨_, rfl⟩
  have HNN : Hid (L.length = n) := hn
  unfold fieldV
  rw [hn]
  clear hs hm hn
  go_enter Tryz.func40, Tryz.ntmps40
  go_wp2_with fail
  obtain ⟨p, hp⟩ : ∃ p, w.heap.size = p := ⟨_, rfl⟩
  obtain ⟨hB, hz, k1, k2, k3, k4, k5, k6⟩ := six_blocks w (.cells #[.slice ad n cd, .slice aS n cs, .slice ao n co, .slice (some ⟨gm, 0, none⟩) n n] 81) (.cells #[.int .i64 (goal : Int)] 3) (.map #[] 0) (.cells #[.map (some (w.heap.size + 1 + 1))] 121) (.cells #[.func (.func 67) #[] #[.pointer (some ⟨w.heap.size + 1, 0, none⟩), .pointer (some ⟨w.heap.size, 0, none⟩), .pointer (some ⟨w.heap.size + 1 + 1 + 1, 0, none⟩), .pointer (some ⟨w.heap.size + 1 + 1 + 1 + 1 + 1, 0, none⟩)]] 86) (.cells #[.func (.func 64) #[] #[.pointer (some ⟨w.heap.size, 0, none⟩), .pointer (some ⟨w.heap.size + 1 + 1 + 1 + 1, 0, none⟩)]] 126) hp
  have h3 := World.ownsMap_made ((w.alloc (.cells #[.slice ad n cd, .slice aS n cs, .slice ao n co, .slice (some ⟨gm, 0, none⟩) n n] 81)).alloc (.cells #[.int .i64 (goal : Int)] 3)) Tryz.prog 3 keptS
  have h6 := ((h3.alloc (.cells #[.map (some (w.heap.size + 1 + 1))] 121)).alloc (.cells #[.func (.func 67) #[] #[.pointer (some ⟨w.heap.size + 1, 0, none⟩), .pointer (some ⟨w.heap.size, 0, none⟩), .pointer (some ⟨w.heap.size + 1 + 1 + 1, 0, none⟩), .pointer (some ⟨w.heap.size + 1 + 1 + 1 + 1 + 1, 0, none⟩)]] 86)).alloc (.cells #[.func (.func 64) #[] #[.pointer (some ⟨w.heap.size, 0, none⟩), .pointer (some ⟨w.heap.size + 1 + 1 + 1 + 1, 0, none⟩)]] 126)
  rw [World.size_alloc, World.size_alloc] at h6
  obtain ⟨X, hX⟩ : ∃ X, (((((w.alloc (.cells #[.slice ad n cd, .slice aS n cs, .slice ao n co, .slice (some ⟨gm, 0, none⟩) n n] 81)).alloc (.cells #[.int .i64 (goal : Int)] 3)).alloc (.map #[] 0)).alloc (.cells #[.map (some (w.heap.size + 1 + 1))] 121)).alloc (.cells #[.func (.func 67) #[] #[.pointer (some ⟨w.heap.size + 1, 0, none⟩), .pointer (some ⟨w.heap.size, 0, none⟩), .pointer (some ⟨w.heap.size + 1 + 1 + 1, 0, none⟩), .pointer (some ⟨w.heap.size + 1 + 1 + 1 + 1 + 1, 0, none⟩)]] 86)).alloc (.cells #[.func (.func 64) #[] #[.pointer (some ⟨w.heap.size, 0, none⟩), .pointer (some ⟨w.heap.size + 1 + 1 + 1 + 1, 0, none⟩)]] 126) = X := ⟨_, rfl⟩
  rw [hX] at hB hz k1 k2 k3 k4 k5 k6 h6
  try rw [hX]
  simp only [hp] at k1 k2 k3 k4 k5 k6 h6 ⊢
  have hgm := HH.out.2.lt
  have hsz := hB.size
  have hfin : SumIn (p + 6) L mt ad aS ao cd cs co gm p (p + 1) (p + 1 + 1 + 1) (p + 1 + 1 + 1 + 1) (p + 1 + 1 + 1 + 1 + 1) (p + 1 + 1) goal P X (fun _ => false) := by
    refine ⟨fun j u hu => ?_, ?_, ?_, ?_, ?_, ?_, ?_, ?_, by omega, by omega, by omega, by omega, by omega, by omega, by omega⟩
    · rw [HNN.out] at hu
      rcases j with _ | _ | _ | _ | j
      all_goals first | (simp at hu; done) | (simp at hu; subst hu; simp [World.cell?, k1])
    · simp [World.cell?, k2]
    · simp [World.cell?, k4]
    · simp [World.cell?, k5]
    · simp [World.cell?, k6]
    · obtain ⟨vs, h1, h2, h3⟩ := HH.out.1
      have hk : ∀ b, b < w.heap.size → X.heap[b]? = w.heap[b]? := fun b hb => hB.block b (by omega)
      exact ⟨vs, (h1.mono (fun b hb _ => ⟨by omega, by omega⟩)).keep (fun b hb _ => hk b hb), h2, fun k u hu => ((h3 k u hu).mono (fun b hb _ => ⟨by omega, by omega⟩)).keep hB.size (fun b hb _ => hk b hb)⟩
    · exact HH.out.2.of_block (hB.block gm (by omega))
    · refine ⟨_, by rw [goneN_none]; exact h6, fun x hx => rfl, fun x hx e => by cases e⟩
  go_ret
  exact ⟨hB, p + 6, p, p + 1, p + 1 + 1 + 1, p + 1 + 1 + 1 + 1, p + 1 + 1 + 1 + 1 + 1, p + 1 + 1, rfl, by omega, hfin⟩

end Go.Proofs.YtnnkmkhamipfiaaGreatDoor
