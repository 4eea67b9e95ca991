/- The walk of edgeEnds. -/
import Derived.Test.YtbmojlnkjeapkaaGreatDoorCubeEnds
namespace Go.Proofs.YtbmojlnkjeapkaaGreatDoor
open Go.RowKit Go.Sort Go.Maps

theorem grown_set (w : World) (a : Addr) (v : Value) : w.grownBy (w.setCell a v) (some a.block) := ⟨rfl, rfl, rfl, by rw [World.size_setCell]; exact Nat.le_refl _, fun k _ hk => Below.heap_setCell w a v k (fun e => hk (by rw [e]))⟩
theorem grown_draw {w w' : World} {row : Option Nat} (h : w.grownBy w' row) : w.grownBy w'.drew row := ⟨h.os, h.tape, h.output, h.size, h.block⟩

/-- A later world, but for two blocks. -/
structure KeepBut (W0 W : World) (r g : Nat) : Prop where
  os : W.os = W0.os
  tape : W.tape = W0.tape
  output : W.output = W0.output
  size : W0.heap.size ≤ W.heap.size
  block : ∀ b, b < W0.heap.size → b ≠ r → b ≠ g → W.heap[b]? = W0.heap[b]?

theorem KeepBut.refl (W : World) (r g : Nat) : KeepBut W W r g := ⟨rfl, rfl, rfl, Nat.le_refl _, fun _ _ _ _ => rfl⟩
theorem KeepBut.on {W0 W W' : World} {r g : Nat} {row : Option Nat} (h : KeepBut W0 W r g) (hg : W.grownBy W' row) (hr : ∀ b, row = some b → b = r ∨ b = g ∨ W0.heap.size ≤ b) : KeepBut W0 W' r g :=
  ⟨hg.os.trans h.os, hg.tape.trans h.tape, hg.output.trans h.output, Nat.le_trans h.size hg.size, fun b hb h1 h2 => (hg.block b (Nat.lt_of_lt_of_le hb h.size) (fun e => by rcases hr b e.symm with e' | e' | e'; exact h1 e'; exact h2 e'; omega)).trans (h.block b hb h1 h2)⟩
theorem KeepBut.cell {W0 W : World} {r g : Nat} (h : KeepBut W0 W r g) {p : Addr} (hp : p.block < W0.heap.size) (h1 : p.block ≠ r) (h2 : p.block ≠ g) : W.cell? p = W0.cell? p := World.cell?_of_block (h.block p.block hp h1 h2)
theorem KeepBut.frozen {W0 W : World} {r g : Nat} (h : KeepBut W0 W r g) {p : Addr} (hp : p.block < W0.heap.size) (h1 : p.block ≠ r) (h2 : p.block ≠ g) : W.frozen? p = W0.frozen? p := World.frozen?_of_block (h.block p.block hp h1 h2)

theorem inv_int {v : Value} {y : DataW Unit × List MemPlace} (h : plainElem Tryz.prog 3 v = some y) : ∃ c : Int, v = .int .i64 c := by
  obtain ⟨c, h1, _⟩ := plainElem_int_inv Tryz.underlying3 h
  exact ⟨c, h1⟩

theorem edge_string {key : Value} {kl : Lit} (h : keyOf Tryz.prog 96 key = some kl) : ∃ s, kl = .string s := by
  unfold keyOf at h
  simp only [Tryz.underlying96] at h
  split at h
  · obtain ⟨ls, _, e⟩ := Option.map_eq_some_iff.1 h
    exact ⟨_, e.symm⟩
  · cases h

theorem zero_i64 (w : World) : (zeroValue 3).run Tryz.prog w = .ok (.int .i64 0) w := by kernel_rfl
theorem own_block {w w' : World} {k : TypeId} {R : Value → Option (DataW Unit × List MemPlace)} {b n : Nat} {D : DataW Unit} (h : w.ownsMap Tryz.prog k R b n D) (hb : w'.heap[b]? = w.heap[b]?) : w'.ownsMap Tryz.prog k R b n D := by
  obtain ⟨es, clock, h1, h2, h3, h4⟩ := h
  exact ⟨es, clock, hb.trans h1, h2, h3, h4⟩

/-- A corner's place, looked up. -/
theorem look_c {W : World} {b n i : Nat} {D : DataW Unit} {C : List Sq} {x y : Int} (hD : W.ownsMap Tryz.prog 59 (plainElem Tryz.prog 3) b n D) (hv : ∀ (k : Nat) (x : List UInt8), (C.map keyC)[k]? = some (.string x) → D.atKey (.string x) (.lit (.int .i64 0)) = .lit (.int .i64 (k : Int))) (ha : Small (x, y)) (hi : C[i]? = some (x, y)) :
    (Instr.lookup 52 (.map (some b)) (.agg #[.int .i64 x, .int .i64 y]) false).run Tryz.prog W = .ok (.int .i64 (i : Int)) W := by
  obtain ⟨d, lu, hat, -⟩ := hD.lookup_int (t := 52) law_corner Tryz.underlying52 Tryz.underlying3 (zero_i64 _) ha.key
  have h1 := hv i _ (by rw [List.getElem?_map, hi]; rfl)
  have h2 : DataW.lit (H := Unit) (Lit.int .i64 d) = .lit (.int .i64 (i : Int)) := hat.symm.trans h1
  cases h2
  exact lu

/-- The next edge, in whatever order: its place comes with it. -/
theorem wpList_next_edges {w : World} {ops : Array Oper} {rest : List Oper} {o : Oper} {a : Act} {Q : Exit → Act → World → Prop} (E : List (Sq × Sq)) (hEs : ∀ e ∈ E, Small e.1 ∧ Small e.2) (hg : o.guard = none) (it : Operand) (hop : o.op = Op.next it false) (b r n : Nat) (D : DataW Unit) (left : Lit → Bool) (cnt : Nat)
    (hh : ∀ x : List UInt8, Maps.has D (.string x) = true ↔ Lit.string x ∈ E.map keyD) (hv : ∀ (k : Nat) (x : List UInt8), (E.map keyD)[k]? = some (.string x) → D.atKey (.string x) (.lit (.int .i64 0)) = .lit (.int .i64 (k : Int))) (hleft : ∀ x : List UInt8, left (.string x) = true → Maps.has D (.string x) = true)
    (hit : a.eval it = .pointer (some ⟨r, 0, none⟩)) (h : w.ranges Tryz.prog 96 (plainElem Tryz.prog 3) b r n D left cnt)
    (hDone : cnt = 0 → (∀ kl, left kl = false) → wpList Tryz.prog ops Q rest (a.put o.dst (.tuple #[.bool false])) w)
    (hMore : ∀ (k : Nat) (ax ay cx cy : Int) (w' : World) (cnt' : Nat), E[k]? = some ((ax, ay), (cx, cy)) → left (keyD ((ax, ay), (cx, cy))) = true → w'.ranges Tryz.prog 96 (plainElem Tryz.prog 3) b r n D (fun z => left z && !z.sameKey (keyD ((ax, ay), (cx, cy)))) cnt' → cnt' < cnt →
      w.grownBy w' (some r) → w'.heap.size = w.heap.size → (Instr.entry (.pointer (some ⟨r, 0, none⟩))).run Tryz.prog w' = .ok (.tuple #[.agg #[.int .i64 ax, .int .i64 ay, .int .i64 cx, .int .i64 cy], .int .i64 (k : Int)]) w' → wpList Tryz.prog ops Q rest (a.put o.dst (.tuple #[.bool true, .agg #[.int .i64 ax, .int .i64 ay, .int .i64 cx, .int .i64 cy], .int .i64 (k : Int)])) w') :
    wpList Tryz.prog ops Q (o :: rest) a w := by
  refine wpList_next_ranges (α := Value) (β := Int) w hg it hop 96 law_edge (plainElem Tryz.prog 3) id (fun c => .int .i64 c) (fun key _ _ => ⟨key, rfl⟩) (fun v y hv => inv_int hv) b r n D left cnt hit h hDone ?_
  intro x c kl y w' cnt' hkey hlk hvy hat hrg1 hlt hg1 hs1 hen
  obtain ⟨s, rfl⟩ := edge_string hkey
  obtain ⟨e, he, hek⟩ := List.mem_map.1 ((hh s).1 (hleft s hlk))
  obtain ⟨k, hk⟩ := List.mem_iff_getElem?.1 he
  have hx : x = edgeV e.1 e.2 := law_edge.inj hkey (by rw [← hek]; exact edge_of (hEs e he).1 (hEs e he).2)
  have hc : c = (k : Int) := by
    have h1 := hat (.lit (.int .i64 0))
    rw [hv k s (by rw [List.getElem?_map, hk, ← hek]; rfl)] at h1
    obtain ⟨c', h2, h3, _⟩ := plainElem_int_inv Tryz.underlying3 hvy
    cases h2
    rw [h3] at h1
    simpa using h1.symm
  subst hx hc
  rw [← hek] at hlk hrg1
  obtain ⟨⟨ax, ay⟩, ⟨cx, cy⟩⟩ := e
  exact hMore k ax ay cx cy w' cnt' hk hlk hrg1 hlt hg1 hs1 hen

set_option maxRecDepth 100000 in
set_option maxHeartbeats 4000000 in
theorem ends_ (b1 b2 : Nat) (aS : Option Addr) (nS cS : Nat) (C : List Sq) (E : List (Sq × Sq)) (w : World) (h1 : MapIx w 59 b1 (C.map keyC)) (h2 : MapIx w 96 b2 (E.map keyD)) (_hb : b1 ≠ b2) (hC : C.Nodup) (hE : (E.map keyD).Nodup)
    (hCs : ∀ a ∈ C, Small a) (hEs : ∀ e ∈ E, e.1 ∈ C ∧ e.2 ∈ C ∧ e.1 ≠ e.2) (hCl : C.length ≤ 2000) (hEl : E.length ≤ 2000) :
    Calls Tryz.prog 30 #[.agg #[.map (some b1), .map (some b2), .slice aS nS cS]] w fun e w' => ∃ g, e = .returned (matV g C.length E.length) ∧ w.heap.size ≤ g ∧ g < w'.heap.size ∧ w'.rowIs g 3 (C.length * E.length) (fun j => .int .i64 (endF C E (fun _ => false) j)) ∧ Below w.heap.size w w' := by
  have hz := fun V => zeros_ C.length E.length hCl hEl V
  obtain ⟨D1, hD1, hD1h, hD1s, hD1v⟩ := h1
  obtain ⟨D2, hD2, hD2h, hD2s, hD2v⟩ := h2
  rw [List.length_map] at hD1s hD2s
  have hb1 := hD1.lt
  have hb2 := hD2.lt
  have HX : Hid (C.Nodup ∧ (E.map keyD).Nodup ∧ (∀ a ∈ C, Small a) ∧ ∀ e ∈ E, e.1 ∈ C ∧ e.2 ∈ C ∧ e.1 ≠ e.2) := ⟨hC, hE, hCs, hEs⟩
  have HV : Hid ((∀ x : List UInt8, Maps.has D1 (.string x) = true ↔ Lit.string x ∈ C.map keyC) ∧ (∀ (k : Nat) (x : List UInt8), (C.map keyC)[k]? = some (.string x) → D1.atKey (.string x) (.lit (.int .i64 0)) = .lit (.int .i64 (k : Int)))) := ⟨hD1h, hD1v⟩
  have HV2 : Hid ((∀ x : List UInt8, Maps.has D2 (.string x) = true ↔ Lit.string x ∈ E.map keyD) ∧ (∀ (k : Nat) (x : List UInt8), (E.map keyD)[k]? = some (.string x) → D2.atKey (.string x) (.lit (.int .i64 0)) = .lit (.int .i64 (k : Int)))) := ⟨hD2h, hD2v⟩
  clear hD1h hD1v hD2h hD2v hC hE hCs hEs
  unfold matV at hz
  go_enter Tryz.func30, Tryz.ntmps30
  go_upto_region 1 with fail
  have q : ∀ j u, [Value.map (some b1), .map (some b2), .slice aS nS cS][j]? = some u → ((w.alloc (.cells #[.map (some b1), .map (some b2), .slice aS nS cS] 56)).alloc (.cells #[.int .i64 0, .int .i64 0, .slice none 0 0] 42)).cell? ⟨w.heap.size, j, none⟩ = some u := fun j u hu => by
    have := cells_new w [.map (some b1), .map (some b2), .slice aS nS cS] 56 j u hu
    rw [Addr.add_lit, Nat.zero_add] at this
    exact (World.cell?_alloc_lt _ _ ⟨w.heap.size, j, none⟩ (by simp)).trans this
  have z : ∀ j u, [Value.int .i64 0, .int .i64 0, .slice none 0 0][j]? = some u → ((w.alloc (.cells #[.map (some b1), .map (some b2), .slice aS nS cS] 56)).alloc (.cells #[.int .i64 0, .int .i64 0, .slice none 0 0] 42)).cell? ⟨w.heap.size + 1, j, none⟩ = some u := fun j u hu => by
    have := cells_new (w.alloc (.cells #[.map (some b1), .map (some b2), .slice aS nS cS] 56)) [.int .i64 0, .int .i64 0, .slice none 0 0] 42 j u hu
    rw [Addr.add_lit, Nat.zero_add, World.size_alloc] at this
    exact this
  have zf : ∀ j, ((w.alloc (.cells #[.map (some b1), .map (some b2), .slice aS nS cS] 56)).alloc (.cells #[.int .i64 0, .int .i64 0, .slice none 0 0] 42)).frozen? ⟨w.heap.size + 1, j, none⟩ = false := fun j => by
    have := frozen_new (w.alloc (.cells #[.map (some b1), .map (some b2), .slice aS nS cS] 56)) #[.int .i64 0, .int .i64 0, .slice none 0 0] 42 j
    rw [World.size_alloc] at this
    exact this
  have hB1 : Below w.heap.size w ((w.alloc (.cells #[.map (some b1), .map (some b2), .slice aS nS cS] 56)).alloc (.cells #[.int .i64 0, .int .i64 0, .slice none 0 0] 42)) := ((Below.refl _ w).alloc (Nat.le_refl _) _).alloc (by simp) _
  obtain ⟨W1, hW1⟩ : ∃ W1, (w.alloc (.cells #[.map (some b1), .map (some b2), .slice aS nS cS] 56)).alloc (.cells #[.int .i64 0, .int .i64 0, .slice none 0 0] 42) = W1 := ⟨_, rfl⟩
  obtain ⟨pb, hpb⟩ : ∃ pb, w.heap.size = pb := ⟨_, rfl⟩
  have hsz1 : pb + 2 ≤ W1.heap.size := by rw [← hW1, ← hpb]; simp
  have hD1' : W1.ownsMap Tryz.prog 59 (plainElem Tryz.prog 3) b1 (C.map keyC).length D1 := by rw [← hW1]; exact (hD1.alloc _).alloc _
  have hD2' : W1.ownsMap Tryz.prog 96 (plainElem Tryz.prog 3) b2 (E.map keyD).length D2 := by rw [← hW1]; exact (hD2.alloc _).alloc _
  have q0 := q 0 _ rfl
  have q1 := q 1 _ rfl
  have HZ : Hid ((W1.cell? ⟨pb + 1, 0, none⟩ = some (.int .i64 0) ∧ W1.cell? ⟨pb + 1, 1, none⟩ = some (.int .i64 0) ∧ W1.cell? ⟨pb + 1, 2, none⟩ = some (.slice none 0 0)) ∧ ∀ j, W1.frozen? ⟨pb + 1, j, none⟩ = false) := by
    rw [← hW1, ← hpb]
    exact ⟨⟨z 0 _ rfl, z 1 _ rfl, z 2 _ rfl⟩, zf⟩
  rw [hpb] at hb1 hb2
  rw [hW1, hpb] at q0 q1 hB1
  rw [hW1, hpb]
  have HPB : Hid (w.heap.size = pb) := hpb
  clear q z zf hW1 hD1 hD2 hpb
  go_wp2_with (first
    | (at_len; refine wpList_len_own _ rfl (.tmp 7) 52 rfl 59 3 Tryz.underlying52 _ b1 _ D1 rfl hD1' ?_; rw [hD1s])
    | (at_len; refine wpList_len_own _ rfl (.tmp 10) 53 rfl 96 3 Tryz.underlying53 _ b2 _ D2 rfl hD2' ?_; rw [hD2s])
    | (go_at_call 29; refine (hz _).mono ?_; rintro e w2 ⟨g, rfl, hg1, hg2, hrow, hB2⟩; have q0' := (hB2.cell (p := ⟨pb, 0, none⟩) (by simp only; omega)).trans q0; have q1' := (hB2.cell (p := ⟨pb, 1, none⟩) (by simp only; omega)).trans q1; have q1a : ∀ o, (w2.alloc o).cell? ⟨pb, 1, none⟩ = some (.map (some b2)) := (fun o => (World.cell?_alloc_lt w2 o ⟨pb, 1, none⟩ (by have := hB2.size; simp only; omega)).trans q1'); have hD2'' := hD2'.kept (Below.grownBy hB2) (by simp))
    | (at_range; refine wpList_range_own _ rfl _ 53 rfl 96 3 law_edge Tryz.underlying53 _ b2 _ D2 rfl (hD2''.alloc _) ?_; intro w0 hrg0 hg0 hs0)
    | fail)
  go_frame
  have hsw := hB2.size
  obtain ⟨mb, hmb⟩ : ∃ mb, w2.heap.size = mb := ⟨_, rfl⟩
  have mq : ∀ j u, [Value.int .i64 (C.length : Int), .int .i64 (E.length : Int), .slice (some ⟨g, 0, none⟩) (C.length * E.length) (C.length * E.length)][j]? = some u → w0.cell? ⟨mb, j, none⟩ = some u := fun j u hu => by
    have h3 := cells_new w2 [.int .i64 (C.length : Int), .int .i64 (E.length : Int), .slice (some ⟨g, 0, none⟩) (C.length * E.length) (C.length * E.length)] 42 j u hu
    rw [Addr.add_lit, Nat.zero_add, hmb] at h3
    exact (far_c hg0 ⟨mb, j, none⟩ (by rw [← hmb]; simp) (by simp)).trans h3
  have hrow0 : w0.rowIs g 3 (C.length * E.length) (fun _ => .int .i64 0) := (hrow.alloc _).of_block (hg0.block g (by simp; omega) (by simp))
  have hold : ∀ b, b < w2.heap.size → w0.heap[b]? = w2.heap[b]? := fun b hb => (hg0.block b (by simp; omega) (by simp)).trans (Below.heap_alloc w2 _ b hb)
  have hold1 : ∀ b, b < W1.heap.size → w0.heap[b]? = W1.heap[b]? := fun b hb => (hold b (by omega)).trans (hB2.block b hb)
  have n0 := mq 0 _ rfl
  have n1 := mq 1 _ rfl
  have n2 := mq 2 _ rfl
  have hp0 : w0.cell? ⟨pb, 0, none⟩ = some (.map (some b1)) := (World.cell?_of_block (hold1 pb (by omega))).trans q0
  have hD1w : w0.ownsMap Tryz.prog 59 (plainElem Tryz.prog 3) b1 (C.map keyC).length D1 := (((hD1'.kept (Below.grownBy hB2) (by simp)).alloc _).kept hg0 (by simp))
  have hsz0 : w0.heap.size = mb + 2 := by rw [hs0, ← hmb]; simp
  have HR0 : Hid (Below pb w w0 ∧ (w0.cell? ⟨pb + 1, 0, none⟩ = some (.int .i64 0) ∧ w0.cell? ⟨pb + 1, 1, none⟩ = some (.int .i64 0) ∧ w0.cell? ⟨pb + 1, 2, none⟩ = some (.slice none 0 0)) ∧ ∀ j, w0.frozen? ⟨pb + 1, j, none⟩ = false) := by
    refine ⟨⟨?_, ?_, ?_, ?_, fun b hb => ?_⟩, ⟨?_, ?_, ?_⟩, fun j => ?_⟩
    · exact hg0.os.trans (hB2.os.trans hB1.os)
    · exact hg0.tape.trans (hB2.tape.trans hB1.tape)
    · exact hg0.output.trans (hB2.output.trans hB1.output)
    · have := hB1.size; omega
    · exact (hold1 b (by omega)).trans (hB1.block b hb)
    · exact (World.cell?_of_block (hold1 (pb + 1) (by omega))).trans HZ.out.1.1
    · exact (World.cell?_of_block (hold1 (pb + 1) (by omega))).trans HZ.out.1.2.1
    · exact (World.cell?_of_block (hold1 (pb + 1) (by omega))).trans HZ.out.1.2.2
    · exact (World.frozen?_of_block (hold1 (pb + 1) (by omega))).trans (HZ.out.2 j)
  have hgm : g < mb := by omega
  have hgp : pb + 2 ≤ g := by omega
  rw [World.size_alloc, hmb] at hrg0
  rw [World.size_alloc, hmb]
  obtain ⟨r, hr⟩ : ∃ r, mb + 1 = r := ⟨_, rfl⟩
  have hrg0' : w0.ranges Tryz.prog 96 (plainElem Tryz.prog 3) b2 r (E.map keyD).length D2 (Maps.has D2) (Maps.size D2) := by
    rw [← hr]
    exact hrg0
  rw [hr]
  have HRR : Hid (mb + 1 = r) := hr
  have hrr : mb < r ∧ r < w0.heap.size := by omega
  have hrn : r ≠ g ∧ r ≠ b1 ∧ r ≠ b2 := by omega
  clear hrg0 mq hold hold1 hmb hr hg0 hs0 hD2'' q0' q1' q1a hrow hB2 hD1' hD2' q0 q1 hsz0 hg2
  have HEs : Hid (∀ e ∈ E, Small e.1 ∧ Small e.2) := fun e he => ⟨HX.out.2.2.1 _ (HX.out.2.2.2 e he).1, HX.out.2.2.1 _ (HX.out.2.2.2 e he).2.1⟩
  obtain ⟨N, hN⟩ : ∃ N, C.length * E.length = N := ⟨_, rfl⟩
  have HNN : Hid (C.length * E.length = N) := hN
  have hNl : N ≤ 4000000 := by rw [← hN]; exact Nat.mul_le_mul hCl hEl
  rw [hN] at hrow0 n2
  rw [hN]
  have HE0 : Hid (w0.rowIs g 3 N (fun j => .int .i64 (endF C E (Maps.has D2) j))) := by
    refine hrow0.congr (fun j hj => ?_)
    unfold endF
    have hn0 : 0 < E.length := by
      rcases Nat.eq_zero_or_pos E.length with h | h
      · rw [← hN, h] at hj; omega
      · exact h
    have hjm : j % E.length < E.length := Nat.mod_lt _ hn0
    have hEj : E.getD (j % E.length) ((0, 0), (0, 0)) = E[j % E.length] := by simp [List.getD, List.getElem?_eq_getElem hjm]
    rw [hEj, if_pos (show Maps.has D2 (keyD E[j % E.length]) = true from (HV2.out.1 _).2 (List.mem_map.2 ⟨E[j % E.length], List.getElem_mem _, rfl⟩))]
  clear hN hrow0
  go_loopw [] (fun W => ∃ (left : Lit → Bool) (cnt : Nat), W.ranges Tryz.prog 96 (plainElem Tryz.prog 3) b2 r (E.map keyD).length D2 left cnt ∧ Hid (∀ x : List UInt8, left (.string x) = true → Maps.has D2 (.string x) = true) ∧ Hid (W.rowIs g 3 N (fun j => .int .i64 (endF C E left j))) ∧ Hid (KeepBut w0 W r g)) (fun W => W.rangeLeft b2 r)
  case atStart => exact ⟨_, _, hrg0', fun _ h => h, HE0.out, KeepBut.refl _ _ _⟩
  case round =>
    obtain ⟨left, cnt, hrg, HL, HRW, HKB⟩ := hrel
    clear hrg0' HE0
    have HRG : Hid (wr.ranges Tryz.prog 96 (plainElem Tryz.prog 3) b2 r (E.map keyD).length D2 left cnt) := hrg
    have hwz := HKB.out.size
    have o0 := (HKB.out.cell (p := ⟨mb, 0, none⟩) (by simp only; omega) (by simp only; omega) (by simp only; omega)).trans n0
    have o1 := (HKB.out.cell (p := ⟨mb, 1, none⟩) (by simp only; omega) (by simp only; omega) (by simp only; omega)).trans n1
    have o2 := (HKB.out.cell (p := ⟨mb, 2, none⟩) (by simp only; omega) (by simp only; omega) (by simp only; omega)).trans n2
    have x0 := (HKB.out.cell (p := ⟨pb + 1, 0, none⟩) (by simp only; omega) (by simp only; omega) (by simp only; omega)).trans HR0.out.2.1.1
    have x1 := (HKB.out.cell (p := ⟨pb + 1, 1, none⟩) (by simp only; omega) (by simp only; omega) (by simp only; omega)).trans HR0.out.2.1.2.1
    have x2 := (HKB.out.cell (p := ⟨pb + 1, 2, none⟩) (by simp only; omega) (by simp only; omega) (by simp only; omega)).trans HR0.out.2.1.2.2
    have y0 := (HKB.out.frozen (p := ⟨pb + 1, 0, none⟩) (by simp only; omega) (by simp only; omega) (by simp only; omega)).trans (HR0.out.2.2 0)
    have y1 := (HKB.out.frozen (p := ⟨pb + 1, 1, none⟩) (by simp only; omega) (by simp only; omega) (by simp only; omega)).trans (HR0.out.2.2 1)
    have y2 := (HKB.out.frozen (p := ⟨pb + 1, 2, none⟩) (by simp only; omega) (by simp only; omega) (by simp only; omega)).trans (HR0.out.2.2 2)
    go_wp2_with (first
      | (at_next; refine wpList_next_edges E HEs.out rfl _ rfl b2 r _ D2 left cnt HV2.out.1 HV2.out.2 HL.out rfl hrg (fun h0 hl0 => ?_) (fun k ax ay cx cy w' cnt' hk hlk hrg1 hlt hg1 hs1 hen => ?_); rotate_left)
      | fail)
    · have HXE := HX.out.2.2.2 _ (List.mem_iff_getElem?.2 ⟨k, hk⟩)
      have HSE := HEs.out _ (List.mem_iff_getElem?.2 ⟨k, hk⟩)
      obtain ⟨i1, hi1⟩ := List.mem_iff_getElem?.1 HXE.1
      obtain ⟨i2, hi2⟩ := List.mem_iff_getElem?.1 HXE.2.1
      have hkl : k < E.length := (List.getElem?_eq_some_iff.1 hk).1
      have hil1 : i1 < C.length := (List.getElem?_eq_some_iff.1 hi1).1
      have hil2 : i2 < C.length := (List.getElem?_eq_some_iff.1 hi2).1
      obtain ⟨nb, hnb⟩ : ∃ nb, w'.heap.size = nb := ⟨_, rfl⟩
      obtain ⟨m1, hm1⟩ : ∃ m1, i1 * E.length = m1 := ⟨_, rfl⟩
      obtain ⟨m2, hm2⟩ : ∃ m2, i2 * E.length = m2 := ⟨_, rfl⟩
      have hmN1 : m1 + k < N := by
        rw [← HNN.out, ← hm1]
        have := Nat.mul_le_mul_right E.length (show i1 + 1 ≤ C.length from hil1)
        rw [Nat.succ_mul] at this; omega
      have hmN2 : m2 + k < N := by
        rw [← HNN.out, ← hm2]
        have := Nat.mul_le_mul_right E.length (show i2 + 1 ≤ C.length from hil2)
        rw [Nat.succ_mul] at this; omega
      have v1 : IntKind.i64.wrap ((i1 : Int) * (E.length : Int)) = (m1 : Int) := by rw [← Int.natCast_mul, hm1]; exact wrapI (by omega) (by omega)
      have v2 : IntKind.i64.wrap ((i2 : Int) * (E.length : Int)) = (m2 : Int) := by rw [← Int.natCast_mul, hm2]; exact wrapI (by omega) (by omega)
      have v3 : IntKind.i64.wrap ((m1 : Int) + (k : Int)) = ((m1 + k : Nat) : Int) := by rw [← Int.natCast_add]; exact wrapI (by omega) (by omega)
      have v4 : IntKind.i64.wrap ((m2 : Int) + (k : Int)) = ((m2 + k : Nat) : Int) := by rw [← Int.natCast_add]; exact wrapI (by omega) (by omega)
      have hwn : wr.heap.size = w'.heap.size := hs1.symm
      have hz2 : w0.heap.size ≤ w'.heap.size := by omega
      have p2 : ∀ o, (w'.alloc o).cell? ⟨mb, 2, none⟩ = some (.slice (some ⟨g, 0, none⟩) N N) := fun o => (World.cell?_alloc_lt w' o ⟨mb, 2, none⟩ (by simp only; omega)).trans ((far_c hg1 ⟨mb, 2, none⟩ (by simp only; omega) (by simp; omega)).trans o2)
      have p1 : ∀ o, (w'.alloc o).cell? ⟨mb, 1, none⟩ = some (.int .i64 (E.length : Int)) := fun o => (World.cell?_alloc_lt w' o ⟨mb, 1, none⟩ (by simp only; omega)).trans ((far_c hg1 ⟨mb, 1, none⟩ (by simp only; omega) (by simp; omega)).trans o1)
      have p0 : ∀ o, (w'.alloc o).cell? ⟨pb, 0, none⟩ = some (.map (some b1)) := fun o => (World.cell?_alloc_lt w' o ⟨pb, 0, none⟩ (by simp only; omega)).trans ((far_c hg1 ⟨pb, 0, none⟩ (by simp only; omega) (by simp; omega)).trans ((HKB.out.cell (p := ⟨pb, 0, none⟩) (by simp only; omega) (by simp only; omega) (by simp only; omega)).trans hp0))
      have HRX : Hid ((w'.alloc (.cells #[.int .i64 ax, .int .i64 ay, .int .i64 cx, .int .i64 cy] 96)).rowIs g 3 N (fun j => .int .i64 (endF C E left j))) := (HRW.out.of_block (hg1.block g (by omega) (by simp; omega))).alloc _
      obtain ⟨X, hX⟩ : ∃ X, w'.alloc (.cells #[.int .i64 ax, .int .i64 ay, .int .i64 cx, .int .i64 cy] 96) = X := ⟨_, rfl⟩
      have ec : ∀ j u, [Value.int .i64 ax, .int .i64 ay, .int .i64 cx, .int .i64 cy][j]? = some u → X.cell? ⟨wr.heap.size, j, none⟩ = some u := fun j u hu => by
        have := cells_new w' [.int .i64 ax, .int .i64 ay, .int .i64 cx, .int .i64 cy] 96 j u hu
        rw [Addr.add_lit, Nat.zero_add, hs1] at this
        rw [← hX]
        exact this
      have ec0 := ec 0 _ rfl
      have ec1 := ec 1 _ rfl
      have ec2 := ec 2 _ rfl
      have ec3 := ec 3 _ rfl
      have hDX : X.ownsMap Tryz.prog 59 (plainElem Tryz.prog 3) b1 (C.map keyC).length D1 := by
        rw [← hX]
        exact ((own_block hD1w (HKB.out.block b1 (by omega) (by omega) (by omega))).kept hg1 (by simp; omega)).alloc _
      have lu1 := look_c hDX.drew HV.out.2 HSE.1 hi1
      have P2 := p2 (.cells #[.int .i64 ax, .int .i64 ay, .int .i64 cx, .int .i64 cy] 96)
      have P1 := p1 (.cells #[.int .i64 ax, .int .i64 ay, .int .i64 cx, .int .i64 cy] 96)
      have P0 := p0 (.cells #[.int .i64 ax, .int .i64 ay, .int .i64 cx, .int .i64 cy] 96)
      have R1 := HRX.out.cell hmN1
      have F1 := HRX.out.frozen (m1 + k)
      have HRX' : Hid (X.rowIs g 3 N (fun j => .int .i64 (endF C E left j))) := by rw [← hX]; exact HRX.out
      have HGX : Hid (X.ranges Tryz.prog 96 (plainElem Tryz.prog 3) b2 r (E.map keyD).length D2 (fun z => left z && !z.sameKey (keyD ((ax, ay), (cx, cy)))) cnt') := by rw [← hX]; exact hrg1.alloc _
      have HKX : Hid (KeepBut w0 X r g) := by
        rw [← hX]
        exact (HKB.out.on hg1 (fun b hb => by cases hb; exact .inl rfl)).on (World.grownBy_alloc w' _ none) (fun b hb => by cases hb)
      have HM : Hid (i1 * E.length = m1 ∧ i2 * E.length = m2) := ⟨hm1, hm2⟩
      have HXB : Hid (w0.heap.size ≤ wr.heap.size) := by have : w0.heap.size ≤ wr.heap.size := hwz; exact this
      rw [hX] at P2 P1 P0 R1 F1 ⊢
      clear ec p0 p1 p2 hX hnb hm1 hm2
      have HS1 : Hid (w'.heap.size = wr.heap.size) := hs1
      obtain ⟨B, hB⟩ : ∃ B, wr.heap.size = B := ⟨_, rfl⟩
      have HBE : Hid (wr.heap.size = B) := hB
      rw [hB] at ec0 ec1 ec2 ec3 ⊢
      have hBl : w0.heap.size ≤ B := by rw [← hB]; exact HXB.out
      clear hB hs1 hwn hz2 hwz HRX
      go_big_region
      all_goals go_wp2
      obtain ⟨Y, hY⟩ : ∃ Y, (X.setCell ⟨g, m1 + k, none⟩ (.int .i64 (-1))).drew = Y := ⟨_, rfl⟩
      have HRY : Hid (Y.rowIs g 3 N (fun j => .int .i64 (if j = m1 + k then -1 else endF C E left j))) := by
        rw [← hY]
        exact (HRX'.out.set (m1 + k) (.int .i64 (-1))).drew.congr (fun j _ => by split <;> rfl)
      have kY : ∀ a : Addr, a.block ≠ g → Y.cell? a = X.cell? a := fun a ha => by
        rw [← hY]
        exact World.cell?_setCell_other X _ _ _ (fun h => ha (congrArg Addr.block h).symm)
      have hgY : X.grownBy Y (some g) := by rw [← hY]; exact grown_draw (grown_set X ⟨g, m1 + k, none⟩ _)
      have hDY : Y.ownsMap Tryz.prog 59 (plainElem Tryz.prog 3) b1 (C.map keyC).length D1 := hDX.kept hgY (by simp; omega)
      have HGY : Hid (Y.ranges Tryz.prog 96 (plainElem Tryz.prog 3) b2 r (E.map keyD).length D2 (fun z => left z && !z.sameKey (keyD ((ax, ay), (cx, cy)))) cnt') := HGX.out.kept hgY (by simp; omega) (by simp; omega)
      have HKY : Hid (KeepBut w0 Y r g) := HKX.out.on hgY (fun b hb => by cases hb; exact .inr (.inl rfl))
      have P2' := (kY ⟨mb, 2, none⟩ (by simp only; omega)).trans P2
      have P1' := (kY ⟨mb, 1, none⟩ (by simp only; omega)).trans P1
      have P0' := (kY ⟨pb, 0, none⟩ (by simp only; omega)).trans P0
      have ec2' := (kY ⟨B, 2, none⟩ (by simp only; omega)).trans ec2
      have ec3' := (kY ⟨B, 3, none⟩ (by simp only; omega)).trans ec3
      have R2 := HRY.out.cell hmN2
      have F2 := HRY.out.frozen (m2 + k)
      have lu2 := look_c hDY.drew HV.out.2 HSE.2 hi2
      rw [hY]
      clear hY kY hgY P2 P1 P0 ec0 ec1 ec2 ec3 R1 F1 lu1 hDX HRX' HGX HKX o0 o1 o2 x0 x1 x2 y0 y1 y2
      go_big_region
      all_goals go_wp2
      have hgZ : Y.grownBy (Y.setCell ⟨g, m2 + k, none⟩ (.int .i64 1)).drew (some g) := grown_draw (grown_set Y ⟨g, m2 + k, none⟩ _)
      have hrgZ := HGY.out.kept hgZ (by simp; omega) (by simp; omega)
      refine ⟨⟨_, _, hrgZ, fun x hx => ?_, ?_, ?_⟩, ?_⟩
      · exact HL.out x (by simp only [Bool.and_eq_true] at hx; exact hx.1)
      · refine (HRY.out.set (m2 + k) (.int .i64 1)).drew.congr (fun j hj => ?_)
        have h1 := end_step HX.out.1 HX.out.2.1 hk hi1 hi2 HXE.2.2 hlk j (by rw [HNN.out]; exact hj)
        rw [HM.out.1, HM.out.2] at h1
        rw [← h1]
        split
        · rfl
        · rfl
      · exact HKY.out.on hgZ (fun b hb => by cases hb; exact .inr (.inl rfl))
      · rw [hrgZ.left_eq, HRG.out.left_eq]; exact hlt
    · have t0 : (wr.setCell ⟨pb + 1, 0, none⟩ (.int .i64 (C.length : Int))).cell? ⟨pb + 1, 0, none⟩ = some (.int .i64 (C.length : Int)) := World.cell?_setCell_same' _ _ _ (by rw [x0]; rfl)
      have t1 : ((wr.setCell ⟨pb + 1, 0, none⟩ (.int .i64 (C.length : Int))).setCell ⟨pb + 1, 1, none⟩ (.int .i64 (E.length : Int))).cell? ⟨pb + 1, 1, none⟩ = some (.int .i64 (E.length : Int)) := World.cell?_setCell_same' _ _ _ (by rw [World.cell?_setCell_other _ _ _ _ (by simp), x1]; rfl)
      have t2 : (((wr.setCell ⟨pb + 1, 0, none⟩ (.int .i64 (C.length : Int))).setCell ⟨pb + 1, 1, none⟩ (.int .i64 (E.length : Int))).setCell ⟨pb + 1, 2, none⟩ (.slice (some ⟨g, 0, none⟩) N N)).cell? ⟨pb + 1, 2, none⟩ = some (.slice (some ⟨g, 0, none⟩) N N) := World.cell?_setCell_same' _ _ _ (by rw [World.cell?_setCell_other _ _ _ _ (by simp), World.cell?_setCell_other _ _ _ _ (by simp), x2]; rfl)
      refine bodyPost_ret (v := .agg #[.int .i64 (C.length : Int), .int .i64 (E.length : Int), .slice (some ⟨g, 0, none⟩) N N]) ?_ rfl ⟨g, by unfold matV; rw [HNN.out], ?_, ?_, ?_, ?_⟩
      · simp [results, Tryz.f30, go_sem, t0, t1, t2]
      · rw [HPB.out]; omega
      · simp; omega
      · rw [HNN.out]
        refine (((HRW.out.setOther (by simp; omega) _).setOther (by simp; omega) _).setOther (by simp; omega) _).congr (fun j hj => ?_)
        unfold endF
        rw [hl0]
      · rw [HPB.out]
        have hB : Below pb w wr := by
          refine ⟨HKB.out.os.trans HR0.out.1.os, HKB.out.tape.trans HR0.out.1.tape, HKB.out.output.trans HR0.out.1.output, Nat.le_trans HR0.out.1.size HKB.out.size, fun b hb => (HKB.out.block b ?_ ?_ ?_).trans (HR0.out.1.block b hb)⟩
          all_goals omega
        exact ((hB.setCell (p := ⟨pb + 1, 0, none⟩) (by simp) _).setCell (p := ⟨pb + 1, 1, none⟩) (by simp) _).setCell (p := ⟨pb + 1, 2, none⟩) (by simp) _

end Go.Proofs.YtbmojlnkjeapkaaGreatDoor
