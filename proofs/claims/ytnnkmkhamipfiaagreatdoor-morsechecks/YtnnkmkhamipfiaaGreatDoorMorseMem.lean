/- sign: of a face to its side. A region that draws its order, whose operations keep what a relation between worlds says: as region_grow, where callees write. What the sums' closures find behind their pointers. -/
import Derived.Test.YtnnkmkhamipfiaaGreatDoorMorseCloses
import Derived.Test.YtnnkmkhamipfiaaGreatDoorRegionGrow
import Derived.Test.YtnnkmkhamipfiaaGreatDoorMorseEntry
import Derived.Test.YtnnkmkhamipfiaaGreatDoorMorseJoin
import Derived.Test.YtnnkmkhamipfiaaGreatDoorMorseNumber2
import Derived.Maps.Ext
namespace Go.Proofs.YtnnkmkhamipfiaaGreatDoor
open Go.RowKit Go.Sort

set_option maxRecDepth 100000 in
set_option maxHeartbeats 4000000 in
theorem field_sign {S : Nat → Prop} {L : List (List Int)} {ad aS ao : Option Addr} {cd cs co gm : Nat} (b x : Nat) (w : World) (hs : SidesIn S w (.slice aS L.length cs) L) (hb : b < L.length) (hx : x ∈ sidD L allD b) (hL6 : L.length ≤ 600) :
    Calls Tryz.prog 70 #[fieldV L.length ad aS ao cd cs co gm, .int .i64 (b : Int), .int .i64 (x : Int)] w fun e w' => e = .returned (.int .i64 (entryI (faceAt L x) (faceAt L b))) ∧ Below w.heap.size w w' := by
  have HX := Hid.mk' hx
  obtain ⟨n, hn⟩ : ∃ n, L.length = n := ⟨_, rfl⟩
  have HNN : Hid (L.length = n) := hn
  have hce := field_cells w (.slice ad n cd) (.slice aS n cs) (.slice ao n co) (.slice (some ⟨gm, 0, none⟩) n n) 81
  have c1 := hce 1 _ rfl
  have hBa : Below w.heap.size w (w.alloc (.cells #[.slice ad n cd, .slice aS n cs, .slice ao n co, .slice (some ⟨gm, 0, none⟩) n n] 81)) := (Below.refl _ w).alloc (Nat.le_refl _) _
  unfold fieldV
  obtain ⟨vs, ⟨a', c', ea, -, hax⟩, hvl, hvs⟩ := hs
  rw [hvl, hn] at ea hax
  cases ea
  rw [hn] at hb hL6 ⊢
  obtain ⟨bs, os, rfl, hbB, hcx⟩ := hax (by omega)
  obtain ⟨u, hu⟩ : ∃ u, vs[b]? = some u := ⟨_, List.getElem?_eq_getElem (by rw [hvl, hn]; exact hb)⟩
  have su := hcx b u hu
  obtain ⟨a1, p1, rfl, hd1⟩ := hvs b u hu
  obtain ⟨k, hk⟩ : ∃ k, (sidesI L b).length = k := ⟨_, rfl⟩
  have hkL : (sidD L allD b).length = k := by rw [← hk]; simp [sidesI]
  have HKL : Hid ((sidD L allD b).length = k) := hkL
  rw [hk] at su
  have hk6 : k ≤ 600 := by rw [← hkL]; refine Nat.le_trans (List.length_filter_le _ _) ?_; rw [List.length_range, hn]; exact hL6
  have HD1 : Hid (0 < k → ∃ g o, a1 = some ⟨g, o, none⟩ ∧ S g ∧ g < w.heap.size ∧ ∀ k (hk : k < (sidesI L b).length), w.cell? ⟨g, o + k * 2, none⟩ = some (.int .i64 (sidesI L b)[k].1) ∧ w.cell? ⟨g, o + (k * 2 + 1), none⟩ = some (.int .i64 (sidesI L b)[k].2)) := fun h0 => hd1 (by rw [hk]; exact h0)
  have hsl := cell_lt su
  have su' := (World.cell?_alloc_lt w (.cells #[.slice ad n cd, .slice (some ⟨bs, os, none⟩) n cs, .slice ao n co, .slice (some ⟨gm, 0, none⟩) n n] 81) ⟨bs, os + b, none⟩ hsl).trans su
  have z0 : (0 : Int) ≤ (b : Int) := by omega
  have z1 : (b : Int) < (n : Int) := by omega
  clear hax hvs hcx hd1 hkL hk hu hvl hce hn hx su
  go_enter Tryz.func70, Tryz.ntmps70
  go_wp2_with fail
  obtain ⟨X, hX⟩ : ∃ X, w.alloc (.cells #[.slice ad n cd, .slice (some ⟨bs, os, none⟩) n cs, .slice ao n co, .slice (some ⟨gm, 0, none⟩) n n] 81) = X := ⟨_, rfl⟩
  rw [hX] at c1 su' hBa
  try rw [hX]
  have HBA := Hid.mk' hBa
  clear hX hBa
  go_loopw [16] (fun p W => ∃ j : Nat, j ≤ k ∧ p = .int .i64 j ∧ Hid (Below w.heap.size w W ∧ ∀ q y, q < j → (sidD L allD b)[q]? = some y → y ≠ x)) (fun p _ => k - (intOf p).toNat)
  case atStart => exact ⟨0, by omega, rfl, HBA.out, fun q y hq => by omega⟩
  case round =>
    obtain ⟨j, hj, rfl, HJ⟩ := hrel
    by_cases hjk : j < k
    · obtain ⟨g, o, rfl, hgB, hgX, hcell⟩ := HD1.out (by omega)
      obtain ⟨y, hy⟩ : ∃ y, (sidD L allD b)[j]? = some y := ⟨_, List.getElem?_eq_getElem (by rw [HKL.out]; exact hjk)⟩
      have hsl : j < (sidesI L b).length := by simp only [sidesI, List.length_map]; rw [HKL.out]; exact hjk
      have hs := hcell j hsl
      have hse : (sidesI L b)[j] = sideP L b y := by
        have : (sidesI L b)[j]? = some (sideP L b y) := by unfold sidesI; rw [List.getElem?_map, hy]; rfl
        rw [List.getElem?_eq_getElem hsl] at this; exact Option.some.inj this
      rw [hse] at hs
      obtain ⟨sg1, hsg⟩ : ∃ sg1, (sideP L b y).2 = sg1 := ⟨_, rfl⟩
      rw [show (sideP L b y).1 = (y : Int) from rfl, hsg] at hs
      have s0 := (HJ.out.1.cell (p := ⟨g, o + j * 2, none⟩) hgX).trans hs.1
      have s1 : wr.cell? ⟨g, o + j * 2 + 1, none⟩ = some (.int .i64 sg1) := (HJ.out.1.cell (p := ⟨g, o + (j * 2 + 1), none⟩) hgX).trans hs.2
      have HY : Hid ((sidD L allD b)[j]? = some y ∧ entryI (faceAt L y) (faceAt L b) = sg1) := ⟨hy, hsg⟩
      have h2 := two_box wr (.int .i64 (y : Int)) (.int .i64 sg1) 124
      have h2a := h2.1
      have h2b := h2.2
      have z2 : (j : Int) < (k : Int) := by omega
      have HBN : Hid (∀ o, Below w.heap.size w (wr.alloc o)) := fun o => HJ.out.1.alloc HJ.out.1.size o
      clear hcell hs hse hsg h2 hy
      by_cases hyx : y = x
      · subst hyx
        go_wp2_with fail
        go_ret
        exact ⟨by rw [HY.out.2]; rfl, HBN.out _⟩
      · have hb1 : ((y : Int) == (x : Int)) = false := beq_false_of_ne (by omega)
        have HNX : Hid (∀ q z, q < j + 1 → (sidD L allD b)[q]? = some z → z ≠ x) := fun q z hq hz => by
          rcases Nat.lt_or_ge q j with h | h
          · exact HJ.out.2 q z h hz
          · obtain rfl : q = j := by omega
            rw [HY.out.1] at hz
            obtain rfl : y = z := Option.some.inj hz
            exact hyx
        clear hyx
        go_wp2_with fail
        go_roundw
        case rel => exact ⟨j + 1, by omega, by go_num, HBN.out _, HNX.out⟩
        case measure => simp [intOf]; omega
    · exfalso
      obtain ⟨q, hq⟩ := List.mem_iff_getElem?.1 HX.out
      exact HJ.out.2 q x (by have := (List.getElem?_eq_some_iff.1 hq).1; rw [HKL.out] at this; omega) hq rfl

end Go.Proofs.YtnnkmkhamipfiaaGreatDoor

namespace Go.Proofs.YtnnkmkhamipfiaaGreatDoor
open Go.RowKit

/-- What holds when the listed operations have come up. -/
structure GrowAtG (G : World → World → Prop) (ops : Array Oper) (m : Nat) (dst : Nat → Nat) (sp : Nat → World → Value → Prop) (a0 : Act) (X : World) (L : Array Bool) (a : Act) (w : World) : Prop where
  size : L.size = m + 1
  asz : a.tmps.size = a0.tmps.size
  dfr : a.defers = a0.defers
  oth : ∀ s, (∀ i, i < m → s ≠ dst i) → a.tmps[s]? = a0.tmps[s]?
  bel : G X w
  val : ∀ i, i < m → L.getD i false = true → ∃ v, a.tmps[dst i]? = some v ∧ sp i w v
  down : Down ops L

section
variable {P : Program} {ops : Array Oper} {Q : Exit → Act → World → Prop}
theorem region_growG {id : Nat} {a0 : Act} {X : World} (hm : P.follows .mixedOrders = true) (G : World → World → Prop) (hG0 : ∀ W W', Below W.heap.size W W' → G W W') (htr : ∀ A B C, G A B → G B C → G A C) (m : Nat) (hn : ops.size = m + 1) (dst : Nat → Nat) (sp : Nat → World → Value → Prop)
    (hinj : ∀ i j, i < m → j < m → dst i = dst j → i = j) (hlt : ∀ i, i < m → dst i < a0.tmps.size) (hstab : ∀ i w w' v, i < m → G w w' → sp i w v → sp i w' v)
    (hback : backB ops = true) (hall : ∀ i, i < m → i ∈ backTo ops m (edgesOf ops m))
    (hop : ∀ i, i < m → ∀ L a w, GrowAtG G ops m dst sp a0 X L a w → (∀ j ∈ edgesOf ops i, L.getD j false = true) → wpOp P ops Q i (fun a' w' => ∃ v, a' = a.put (some (dst i)) v ∧ sp i w' v ∧ G w w') a w)
    (hst : ∀ L a w, GrowAtG G ops m dst sp a0 X L a w → (∀ j ∈ edgesOf ops m, L.getD j false = true) → wpOp P ops Q m (fun a' w' => Q .normal a' w') a w) : (Code.region id ops true).wp P Q a0 X := by
  refine region_inv hm (fun L a w => (L.getD m false = false ∧ GrowAtG G ops m dst sp a0 X L a w) ∨ (L.size = m + 1 ∧ (∀ i, i < m + 1 → L.getD i true = true) ∧ Q .normal a w)) (fun L => L.count false) ?_ ?_ ?_ ?_
  · left
    have h0 : ∀ i, (Array.replicate ops.size false).getD i false = false := fun i => by
      unfold Array.getD
      split <;> simp
    refine ⟨h0 m, ⟨by simp [hn], rfl, rfl, fun s _ => rfl, hG0 _ _ (Below.refl _ X).drew, fun i _ h => ?_, fun i h => ?_⟩⟩
    · rw [h0] at h; cases h
    · rw [h0] at h; cases h
  · exact Nat.le_trans Array.count_le_size (by simp)
  · intro L a w hI i hi
    obtain ⟨k1, k2, k3⟩ := ready_spec hi
    rcases hI with ⟨hL, hG⟩ | ⟨hs, hA, _⟩
    · have hiL : i < L.size := by rw [hG.size, ← hn]; exact k1
      refine ⟨listed_count hiL k2, ?_⟩
      have hed : ∀ j ∈ edgesOf ops i, L.getD j false = true := fun j hj => by
        unfold edgesOf at hj
        rw [Array.getElem?_eq_getElem k1] at hj
        simp only [List.mem_map, List.mem_filter, Array.mem_toList_iff] at hj
        obtain ⟨e, ⟨he, hb⟩, rfl⟩ := hj
        exact k3 _ (Array.getElem?_eq_getElem k1) e he hb
      by_cases him : i < m
      · refine wpOp_mono (fun a' w' h' => ?_) (hop i him L a w hG hed)
        obtain ⟨v, rfl, hv, hB⟩ := h'
        have hd : dst i < a.tmps.size := by rw [hG.asz]; exact hlt i him
        left
        refine ⟨by rw [getD_put hiL, if_neg (by omega)]; exact hL, ⟨by simp [hG.size], by simp [Act.put, hG.asz], hG.dfr, fun s hs => ?_, htr _ _ _ hG.bel hB, fun j hj hlj => ?_, fun j hlj q hq => ?_⟩⟩
        · rw [put_at hd, if_neg (hs i him)]
          exact hG.oth s hs
        · by_cases e : j = i
          · subst e
            exact ⟨v, by rw [put_at hd, if_pos rfl], hv⟩
          · rw [getD_put hiL, if_neg e] at hlj
            obtain ⟨u, h1, h2⟩ := hG.val j hj hlj
            exact ⟨u, by rw [put_at hd, if_neg fun e2 => e (hinj j i hj him e2)]; exact h1, hstab j w w' u hj hB h2⟩
        · rw [getD_put hiL]
          split
          · rfl
          · by_cases e : j = i
            · subst e; exact hed q hq
            · rw [getD_put hiL, if_neg e] at hlj
              exact hG.down j hlj q hq
      · obtain rfl : m = i := by omega
        refine wpOp_mono (fun a' w' h' => ?_) (hst L a w hG hed)
        right
        refine ⟨by simp [hG.size], fun j hj => ?_, h'⟩
        rw [getD_put hiL]
        split
        · rfl
        · rename_i e
          have h1 := back_listed hG.down m hed j (hall j (by omega))
          have h2 : j < L.size := by rw [hG.size]; exact hj
          simpa [Array.getD, h2] using h1
    · rw [hA i (by omega)] at k2; cases k2
  · intro L a w hI hr
    rcases hI with ⟨hL, hG⟩ | ⟨_, _, hQ⟩
    · exfalso
      have h1 := all_listed (back_of hback) (by rw [hG.size, hn]) hr m (by omega)
      have h2 : m < L.size := by rw [hG.size]; omega
      simp [Array.getD, h2] at h1 hL
      rw [h1] at hL
      cases hL
    · exact hQ
end

end Go.Proofs.YtnnkmkhamipfiaaGreatDoor

namespace Go.Proofs.YtnnkmkhamipfiaaGreatDoor
open Go.RowKit Go.Sort Go.Maps

/-- How a sum is kept in a map: as it is. -/
def keptS (v : Value) : Option (DataW Value × List MemPlace) := some (.held v, [])
def zeroS : Value := .agg #[.slice none 0 0, .slice none 0 0]
/-- Block g holds the sums of the faces that are told. -/
def KnownAt (W : World) (g n : Nat) (P : Nat → Nat × Nat) (told : Nat → Bool) : Prop :=
  ∃ D : DataW Value, W.ownsMap Tryz.prog 3 keptS g (goneN told n) D ∧ (∀ k : Nat, k < n → Maps.has D (.int .i64 (k : Int)) = told k) ∧
    ∀ k : Nat, k < n → told k = true → ∃ v, D.atKey (.int .i64 (k : Int)) (.held zeroS) = .held v ∧ SumAt W v (P k)
abbrev sgL (L : List (List Int)) (b x : Nat) : Int := entryI (faceAt L x) (faceAt L b)
abbrev downsL (L : List (List Int)) : Nat → List Nat := downs L.length (undL L)

structure SumIn (B : Nat) (L : List (List Int)) (mt : Nat → Int) (ad aS ao : Option Addr) (cd cs co gm fb gb mb qb db g goal : Nat) (P : Nat → Nat × Nat) (W : World) (told : Nat → Bool) : Prop where
  fc : ∀ j u, [Value.slice ad L.length cd, .slice aS L.length cs, .slice ao L.length co, .slice (some ⟨gm, 0, none⟩) L.length L.length][j]? = some u → W.cell? ⟨fb, j, none⟩ = some u
  g0 : W.cell? ⟨gb, 0, none⟩ = some (.int .i64 (goal : Int))
  m0 : W.cell? ⟨mb, 0, none⟩ = some (.map (some g))
  q0 : W.cell? ⟨qb, 0, none⟩ = some (.func (.func 67) #[] #[.pointer (some ⟨gb, 0, none⟩), .pointer (some ⟨fb, 0, none⟩), .pointer (some ⟨mb, 0, none⟩), .pointer (some ⟨db, 0, none⟩)])
  d0 : W.cell? ⟨db, 0, none⟩ = some (.func (.func 64) #[] #[.pointer (some ⟨fb, 0, none⟩), .pointer (some ⟨qb, 0, none⟩)])
  sides : SidesIn (fun b => b < B ∧ b ≠ g) W (.slice aS L.length cs) L
  mates : W.rowIs gm 3 L.length (fun i => .int .i64 (mt i))
  known : KnownAt W g L.length P told
  low : gm < B ∧ fb < B ∧ gb < B ∧ mb < B ∧ qb < B ∧ db < B ∧ B ≤ W.heap.size

section
variable {B : Nat} {L : List (List Int)} {mt : Nat → Int} {ad aS ao : Option Addr} {cd cs co gm fb gb mb qb db g goal n : Nat} {P : Nat → Nat × Nat} {W W' : World} {told : Nat → Bool}
theorem KnownAt.block (h : KnownAt W g n P told) : ∃ es c, W.heap[g]? = some (.map es c) := by
  obtain ⟨D, ⟨es, c, h1, _⟩, _⟩ := h
  exact ⟨es, c, h1⟩
theorem not_map {es : _} {c : Nat} (hg : W.heap[g]? = some (.map es c)) {p : Addr} {v : Value} (h : W.cell? p = some v) : p.block ≠ g := fun e => by
  simp [World.cell?, e, hg] at h
/-- A number stays, when a map is written. -/
theorem NatT.past {v : Value} {x : Nat} (h : NatT W v x) (hm : ∃ es c, W.heap[g]? = some (.map es c)) (hg : W.grownBy W' (some g)) : NatT W' v x := by
  obtain ⟨es, c, hm⟩ := hm
  refine h.poke (p := g) (fun cur e => by rw [hm] at e; cases e) (fun b hb hne => hg.block b hb (fun e => hne (by cases e; rfl)))
theorem SumAt.past {v : Value} {p : Nat × Nat} (h : SumAt W v p) (hm : ∃ es c, W.heap[g]? = some (.map es c)) (hg : W.grownBy W' (some g)) : SumAt W' v p := by
  obtain ⟨v1, v2, e, h1, h2⟩ := h
  exact ⟨v1, v2, e, h1.past hm hg, h2.past hm hg⟩
theorem KnownAt.later (h : KnownAt W g n P told) (hB : W.grownBy W' none) (hs : ∀ v p, SumAt W v p → SumAt W' v p) : KnownAt W' g n P told := by
  obtain ⟨D, h1, h2, h3⟩ := h
  refine ⟨D, h1.kept hB (by simp), h2, fun k hk ht => ?_⟩
  obtain ⟨v, q1, q2⟩ := h3 k hk ht
  exact ⟨v, q1, hs _ _ q2⟩
theorem KnownAt.uniq {told told' : Nat → Bool} (h : KnownAt W g n P told) (k : KnownAt W g n P told') : ∀ x, x < n → told x = told' x := by
  obtain ⟨D, ⟨es, c, e1, e2, e3, e4⟩, h2, h3⟩ := h
  obtain ⟨D', ⟨es', c', e1', e2', e3', e4'⟩, h2', h3'⟩ := k
  rw [e1] at e1'
  cases e1'
  intro x hx
  rw [← h2 x hx, ← h2' x hx, e4, e4']
theorem SumIn.below (h : SumIn B L mt ad aS ao cd cs co gm fb gb mb qb db g goal P W told) (hB : Below W.heap.size W W') : SumIn B L mt ad aS ao cd cs co gm fb gb mb qb db g goal P W' told :=
  ⟨fun j u hu => (hB.cell (p := ⟨fb, j, none⟩) (cell_lt (h.fc j u hu))).trans (h.fc j u hu), (hB.cell (p := ⟨gb, 0, none⟩) (cell_lt h.g0)).trans h.g0, (hB.cell (p := ⟨mb, 0, none⟩) (cell_lt h.m0)).trans h.m0, (hB.cell (p := ⟨qb, 0, none⟩) (cell_lt h.q0)).trans h.q0, (hB.cell (p := ⟨db, 0, none⟩) (cell_lt h.d0)).trans h.d0,
    h.sides.keep hB.size (fun b hb _ => hB.block b hb), h.mates.of_block (hB.block gm h.mates.lt), h.known.later (Below.grownBy hB) (fun _ _ hs => hs.below hB), ⟨h.low.1, h.low.2.1, h.low.2.2.1, h.low.2.2.2.1, h.low.2.2.2.2.1, h.low.2.2.2.2.2.1, Nat.le_trans h.low.2.2.2.2.2.2 hB.size⟩⟩
/-- A box of one's own that holds no number is written. -/
theorem SumIn.poke {ob : Nat} (h : SumIn B L mt ad aS ao cd cs co gm fb gb mb qb db g goal P W told) (hK : KeepBut W W' ob ob) (hb : B ≤ ob) (hm : ∀ es c, W.heap[ob]? ≠ some (.map es c)) (hn : ∀ cur, W.heap[ob]? ≠ some (.cells cur 128 (0, 0))) : SumIn B L mt ad aS ao cd cs co gm fb gb mb qb db g goal P W' told := by
  have hl := h.low
  have hc : ∀ {b o v}, b < B → W.cell? ⟨b, o, none⟩ = some v → W'.cell? ⟨b, o, none⟩ = some v := fun {b o v} hb' he => (hK.cell (p := ⟨b, o, none⟩) (cell_lt he) (by simp only; omega) (by simp only; omega)).trans he
  obtain ⟨es, c, hg⟩ := h.known.block
  have hgo : g ≠ ob := fun e => hm es c (e ▸ hg)
  have hgr : W.grownBy W' (some ob) := ⟨hK.os, hK.tape, hK.output, hK.size, fun b hb' hne => hK.block b hb' (fun e => hne (by rw [e])) (fun e => hne (by rw [e]))⟩
  refine ⟨fun j u hu => hc hl.2.1 (h.fc j u hu), hc hl.2.2.1 h.g0, hc hl.2.2.2.1 h.m0, hc hl.2.2.2.2.1 h.q0, hc hl.2.2.2.2.2.1 h.d0,
    h.sides.keep hK.size (fun b hb' hS => hK.block b hb' (fun e => by have hS : b < B := hS.1; omega) (fun e => by have hS : b < B := hS.1; omega)),
    h.mates.of_block (hK.block gm h.mates.lt (by omega) (by omega)), ?_, ⟨hl.1, hl.2.1, hl.2.2.1, hl.2.2.2.1, hl.2.2.2.2.1, hl.2.2.2.2.2.1, Nat.le_trans hl.2.2.2.2.2.2 hK.size⟩⟩
  obtain ⟨D, h1, h2, h3⟩ := h.known
  refine ⟨D, h1.kept hgr (fun e => hgo (by cases e; rfl)), h2, fun k hk ht => ?_⟩
  obtain ⟨v, q1, v1, v2, e, q2, q3⟩ := h3 k hk ht
  exact ⟨v, q1, v1, v2, e, q2.poke hn (fun b hb' hne => hK.block b hb' hne hne), q3.poke hn (fun b hb' hne => hK.block b hb' hne hne)⟩

theorem SumIn.poke_box {ob : Nat} {c1 c2 : Value} (h : SumIn B L mt ad aS ao cd cs co gm fb gb mb qb db g goal P W told) (hc : BoxS W ob c1 c2) (hK : KeepBut W W' ob ob) (hb : B ≤ ob) : SumIn B L mt ad aS ao cd cs co gm fb gb mb qb db g goal P W' told :=
  h.poke hK hb (fun es c e => by rw [show W.heap[ob]? = _ from hc] at e; cases e) hc.none

theorem NatT.grown {row : Option Nat} {v : Value} {x : Nat} (h : NatT W v x) (hg : W.grownBy W' row) (hp : ∀ y, row = some y → ∀ cur, W.heap[y]? ≠ some (.cells cur 128 (0, 0))) : NatT W' v x := by
  cases row with
  | none => exact h.below ⟨hg.os, hg.tape, hg.output, hg.size, fun b hb => hg.block b hb (by simp)⟩
  | some y => exact h.poke (hp y rfl) (fun b hb hne => hg.block b hb (fun e => hne (by cases e; rfl)))
theorem SidesIn.mono {S S' : Nat → Prop} {v : Value} (h : SidesIn S W v L) (hs : ∀ b, b < W.heap.size → S b → S' b) : SidesIn S' W v L := by
  obtain ⟨vs, h1, h2, h3⟩ := h
  exact ⟨vs, h1.mono hs, h2, fun k u hu => (h3 k u hu).mono hs⟩
/-- A block elsewhere is written. -/
theorem SumIn.far {row : Option Nat} (h : SumIn B L mt ad aS ao cd cs co gm fb gb mb qb db g goal P W told) (hg : W.grownBy W' row)
    (hne : ∀ x, row = some x → x ≠ gm ∧ x ≠ fb ∧ x ≠ gb ∧ x ≠ mb ∧ x ≠ qb ∧ x ≠ db ∧ x ≠ g ∧ ∀ cur, W.heap[x]? ≠ some (.cells cur 128 (0, 0))) (hs : SidesIn (fun b => b < B ∧ b ≠ g ∧ row ≠ some b) W (.slice aS L.length cs) L) : SumIn B L mt ad aS ao cd cs co gm fb gb mb qb db g goal P W' told := by
  have hl := h.low
  have hc : ∀ {b o v}, row ≠ some b → W.cell? ⟨b, o, none⟩ = some v → W'.cell? ⟨b, o, none⟩ = some v := fun {b o v} hb he => (World.cell?_of_block (a := ⟨b, o, none⟩) (hg.block b (cell_lt he) (Ne.symm hb))).trans he
  refine ⟨fun j u hu => hc (fun e => (hne _ e).2.1 rfl) (h.fc j u hu), hc (fun e => (hne _ e).2.2.1 rfl) h.g0, hc (fun e => (hne _ e).2.2.2.1 rfl) h.m0, hc (fun e => (hne _ e).2.2.2.2.1 rfl) h.q0, hc (fun e => (hne _ e).2.2.2.2.2.1 rfl) h.d0,
    (hs.keep hg.size (fun b hb hS => hg.block b hb (Ne.symm hS.2.2))).mono (fun b _ hS => ⟨hS.1, hS.2.1⟩), h.mates.of_block (hg.block gm h.mates.lt (fun e => (hne _ e.symm).1 rfl)), ?_, ⟨hl.1, hl.2.1, hl.2.2.1, hl.2.2.2.1, hl.2.2.2.2.1, hl.2.2.2.2.2.1, Nat.le_trans hl.2.2.2.2.2.2 hg.size⟩⟩
  obtain ⟨D, h1, h2, h3⟩ := h.known
  refine ⟨D, h1.kept hg (fun e => (hne _ e.symm).2.2.2.2.2.2.1 rfl), h2, fun k hk ht => ?_⟩
  obtain ⟨v, q1, v1, v2, e, q2, q3⟩ := h3 k hk ht
  exact ⟨v, q1, v1, v2, e, q2.grown hg (fun y e => (hne y e).2.2.2.2.2.2.2), q3.grown hg (fun y e => (hne y e).2.2.2.2.2.2.2)⟩

theorem key_n (k : Nat) (hk : k ≤ 1000000) : keyOf Tryz.prog 3 (.int .i64 (k : Int)) = some (.int .i64 (k : Int)) := by
  simp [keyOf, mapKey, Tryz.underlying3, Lit.wf, IntKind.min, IntKind.max, IntKind.bits, IntKind.signed]
  omega
theorem keyed_n : Keyed Tryz.prog 3 := int_keyed Tryz.underlying3
theorem zero_sum (w : World) : (zeroValue 92).run Tryz.prog w = .ok zeroS w := by kernel_rfl
/-- What is told of a face. -/
theorem KnownAt.look (h : KnownAt W g n P told) {k : Nat} (hk : k < n) (hn : n ≤ 1000) :
    ∃ a1 n1 c1 a2 n2 c2, (∀ q, (Instr.lookup 121 (.map (some g)) (.int .i64 (k : Int)) true).run Tryz.prog (W.drewN q) = .ok (.tuple #[.agg #[.slice a1 n1 c1, .slice a2 n2 c2], .bool (told k)]) (W.drewN q)) ∧ (told k = true → SumAt W (.agg #[.slice a1 n1 c1, .slice a2 n2 c2]) (P k)) := by
  obtain ⟨D, h1, h2, h3⟩ := h
  have key : ∀ q, ∃ v, (Instr.lookup 121 (.map (some g)) (.int .i64 (k : Int)) true).run Tryz.prog (W.drewN q) = .ok (.tuple #[v, .bool (Maps.has D (.int .i64 (k : Int)))]) (W.drewN q) ∧ D.atKey (.int .i64 (k : Int)) (.held zeroS) = .held v := fun q => by
    have hq : (W.drewN q).ownsMap Tryz.prog 3 keptS g (goneN told n) D := h1.kept (row := none) ⟨rfl, rfl, rfl, Nat.le_refl _, fun _ _ _ => rfl⟩ (by simp)
    obtain ⟨v, ps, r1, r2⟩ := hq.look_ok (t := 121) (e := 92) keyed_n Tryz.underlying121 (zero_sum _) (zd := .held zeroS) (zp := []) rfl (key_n k (by omega))
    refine ⟨v, r1, ?_⟩
    simp [keptS] at r2
    exact r2.1.symm
  cases ht : told k with
  | true =>
    obtain ⟨v, q1, hs⟩ := h3 k hk ht
    obtain ⟨v1, v2, e, s1, s2⟩ := hs
    obtain ⟨a1, n1, c1, rfl⟩ := s1.form
    obtain ⟨a2, n2, c2, rfl⟩ := s2.form
    refine ⟨a1, n1, c1, a2, n2, c2, fun q => ?_, fun _ => ⟨_, _, rfl, s1, s2⟩⟩
    obtain ⟨v', r1, r2⟩ := key q
    rw [q1] at r2
    cases r2
    rw [h2 k hk, ht, e] at r1
    exact r1
  | false =>
    have hh : Maps.has D (.int .i64 (k : Int)) = false := (h2 k hk).trans ht
    refine ⟨none, 0, 0, none, 0, 0, fun q => ?_, fun e => by cases e⟩
    obtain ⟨v', r1, r2⟩ := key q
    rw [atKey_of_not_has hh] at r2
    cases r2
    rw [hh] at r1
    exact r1
/-- A sum is told. -/
theorem KnownAt.tell {k : Nat} {v : Value} (h : KnownAt W g n P told) (hk : k < n) (hn : n ≤ 1000) (ht : told k = false) (hs : SumAt W v (P k)) :
    ∃ w', (Instr.mapUpdate 121 (.map (some g)) (.int .i64 (k : Int)) v).run Tryz.prog W = .ok () w' ∧ KnownAt w' g n P (fun x => if x = k then true else told x) ∧ W.grownBy w' (some g) := by
  obtain ⟨D, h1, h2, h3⟩ := h
  have hm := h1
  have htidy := h1.tidy keyed_n
  have hgn : goneN told n ≤ n := goneN_le _ _
  obtain ⟨w', hrun, hown, hturn⟩ := h1.store (t := 121) (e := 92) keyed_n Tryz.underlying121 (by unfold maxLen; omega) (key_n k (by omega)) (val := v) (d := .held v) (ps := []) rfl
  have hgr := hturn.grown
  have hmap : ∃ es c, W.heap[g]? = some (.map es c) := by obtain ⟨es, c, e, _⟩ := hm; exact ⟨es, c, e⟩
  refine ⟨w', hrun, ⟨D.put (.int .i64 (k : Int)) (.held v), ?_, fun x hx => ?_, fun x hx hb => ?_⟩, hgr⟩
  · rw [goneN_put ht n, if_pos hk]; exact hown
  · simp only
    by_cases e : x = k
    · subst e
      rw [if_pos rfl, has_put_same htidy.isMap (show WideAt.IsKeyLit (.int .i64 _) from trivial)]
    · rw [if_neg e, has_put_other (fun e' => e (by cases e'; omega))]
      exact h2 x hx
  · simp only at hb
    by_cases e : x = k
    · subst e
      rw [atKey_put_same htidy.isMap (show WideAt.IsKeyLit (.int .i64 _) from trivial)]
      exact ⟨_, rfl, hs.past hmap hgr⟩
    · rw [if_neg e] at hb
      obtain ⟨v', q1, q2⟩ := h3 x hx hb
      rw [atKey_put_other (fun e' => e (by cases e'; omega))]
      exact ⟨v', q1, q2.past hmap hgr⟩
theorem SumIn.telling (h : SumIn B L mt ad aS ao cd cs co gm fb gb mb qb db g goal P W told) {told' : Nat → Bool} (hg : W.grownBy W' (some g)) (hk : KnownAt W' g L.length P told') : SumIn B L mt ad aS ao cd cs co gm fb gb mb qb db g goal P W' told' := by
  obtain ⟨es, c, hm⟩ := h.known.block
  have hc : ∀ {b o v}, W.cell? ⟨b, o, none⟩ = some v → W'.cell? ⟨b, o, none⟩ = some v := fun {b o v} he => (World.cell?_of_block (a := ⟨b, o, none⟩) (hg.block b (cell_lt he) (fun e => by cases e; exact not_map hm he rfl))).trans he
  refine ⟨fun j u hu => hc (h.fc j u hu), hc h.g0, hc h.m0, hc h.q0, hc h.d0, ?_, ?_, hk, ⟨h.low.1, h.low.2.1, h.low.2.2.1, h.low.2.2.2.1, h.low.2.2.2.2.1, h.low.2.2.2.2.2.1, Nat.le_trans h.low.2.2.2.2.2.2 hg.size⟩⟩
  · exact h.sides.keep hg.size (fun b hb hS => hg.block b hb (fun e => hS.2 (by cases e; rfl)))
  · refine h.mates.of_block (hg.block gm h.mates.lt (fun e => ?_))
    cases e
    obtain ⟨cur, e2, _⟩ := h.mates
    rw [hm] at e2; cases e2
end

end Go.Proofs.YtnnkmkhamipfiaaGreatDoor
