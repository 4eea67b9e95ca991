/- What setText answers: the text of a set of vertices, rising; or that it is none. What slices.Values of texts hands on: each text in its order, as long as the loop's body asks for more. What heap answers: a map of all faces of the texts that come, or that there are too many. -/
import Derived.Test.YtnnkmkhamipfiaaGreatDoorSorted
import Derived.Laws.IdiomStrings
import Derived.Laws.BytesArg
import Derived.RangeFuncBox
import Derived.RangeFuncWrites
import Derived.RangeFuncLeaves
import Derived.Shelf.Abstract
import Derived.OwnWalkIn
import Derived.TacticsInMore
import Derived.LoopNIn
import Derived.LoopIn
import Derived.Maps.OwnIn
import Derived.RangeFuncCalls
import Derived.Shelf.RegionOpen
import Derived.RangeFuncBound
import Derived.RangeFuncNested
namespace Go.Proofs.YtnnkmkhamipfiaaGreatDoor
open Go.RowKit Go.Sort Go.Maps Go.Deep

theorem Tryz.zeros : Tryz.zeroCells228 = Array.replicate 100 (.bool false) := by kernel_rfl

/-- The vertices below m that a set has, as bytes. -/
def lowText (l : List Int) (m : Nat) : List UInt8 := ((List.range m).filter (fun j : Nat => decide ((j : Int) ∈ l))).map UInt8.ofNat
theorem low_succ (l : List Int) (m : Nat) : lowText l (m + 1) = lowText l m ++ (if (m : Int) ∈ l then [UInt8.ofNat m] else []) := by
  unfold lowText
  rw [List.range_succ, List.filter_append, List.map_append]
  congr 1
  by_cases h : (m : Int) ∈ l <;> simp [h]
theorem low_length (l : List Int) (m : Nat) : (lowText l m).length ≤ m := by
  unfold lowText
  rw [List.length_map]
  have := List.length_filter_le (fun j : Nat => decide ((j : Int) ∈ l)) (List.range m)
  simpa using this
theorem low_text {l : List Int} (h : ∀ v ∈ l, 0 ≤ v ∧ v ≤ 99) : TextOf l (lowText l 100) := by
  have hi : ints (lowText l 100) = ((List.range 100).filter (fun j : Nat => decide ((j : Int) ∈ l))).map (fun j : Nat => (j : Int)) := by
    unfold lowText ints
    rw [List.map_map]
    refine List.map_congr_left (fun j hj => ?_)
    have : j < 100 := by have := (List.mem_filter.1 hj).1; simpa using this
    simp only [Function.comp]
    rw [UInt8.toNat_ofNat']
    omega
  refine ⟨?_, fun v => ?_⟩
  · rw [hi, Rising, List.pairwise_map]
    refine (List.pairwise_lt_range.filter _).imp ?_
    intro a b hab
    omega
  · rw [hi, List.mem_map]
    constructor
    · rintro ⟨j, hj, rfl⟩
      simpa using (List.mem_filter.1 hj).2
    · intro hv
      obtain ⟨h1, h2⟩ := h v hv
      refine ⟨v.toNat, List.mem_filter.2 ⟨List.mem_range.2 (by omega), ?_⟩, by omega⟩
      have : ((v.toNat : Nat) : Int) = v := by omega
      simp [this, hv]

theorem convert_owned {w : World} {base n : Nat} {v : Value} {t : List UInt8} (h : w.ownsRow base 5 1 v n (t.map (fun b => Value.int .u8 (b.toNat : Int)))) : (convert 229 9 v).run Tryz.prog w = .ok (encStr t) w := by
  have hs := slice_of_owns (S := anyBlock) h (fun _ _ _ => trivial)
  obtain ⟨hl, hr⟩ := h
  rcases hr with ⟨rfl, rfl⟩ | ⟨g, cap, cur, rfl, _, _, _⟩
  · have : t = [] := by simpa using hl
    subst this
    exact run_convert_bytes_nil w 229 5 Tryz.underlying229 Tryz.underlying5 0 0 9 Tryz.underlying9
  · have hn : t.length = n := by simpa using hl
    subst hn
    obtain ⟨a, c, e, _, hx⟩ := hs
    rw [List.length_map] at e
    cases e
    refine run_convert_bytes_back w 229 9 5 ⟨g, 0, none⟩ cap t Tryz.underlying229 Tryz.underlying5 Tryz.underlying9 (fun j hj => ?_)
    obtain ⟨b, off, e1, _, e3⟩ := hx (by simp; omega)
    cases e1
    rw [Addr.add_lit]
    exact e3 j _ (by simp [hj])

set_option maxRecDepth 100000 in
set_option maxHeartbeats 1000000 in
theorem set_text (vl : Value) (l : List Int) (w : World) (hl : Ints w vl l) (hx : l.length ≤ 1000) :
    Calls Tryz.prog 136 #[vl] w fun e w' => Below w.heap.size w w' ∧ ((SetOk l ∧ ∃ t, TextOf l t ∧ e = .returned (.tuple #[encStr t, .bool true])) ∨ (¬ SetOk l ∧ e = .returned (.tuple #[encStr [], .bool false]))) := by
  obtain ⟨a, ca, rfl, -, ha⟩ := hl.open_
  go_enter Tryz.func136, Tryz.ntmps136
  go_wp2
  have hrow0 : (w.alloc (.cells Tryz.zeroCells228 228)).rowIs w.heap.size 228 100 (fun j => .bool (decide ((j : Int) ∈ l.take 0))) := by
    rw [Tryz.zeros]
    have := World.rowIs_alloc w (Array.replicate 100 (.bool false)) 228 (fun j => .bool (decide ((j : Int) ∈ l.take 0))) (fun i hi => by simp at hi; simp [hi])
    simpa using this
  go_loopw [11] (fun p wr => ∃ k : Nat, k ≤ l.length ∧ p = .int .i64 k ∧ wr.rowIs w.heap.size 228 100 (fun j => .bool (decide ((j : Int) ∈ l.take k))) ∧ (∀ v ∈ l.take k, 0 ≤ v ∧ v ≤ 99) ∧ (l.take k).Nodup ∧ Below w.heap.size w wr)
    (fun p _ => l.length - (intOf p).toNat)
  case atStart => exact ⟨0, by omega, rfl, hrow0, by simp, by simp, (Below.refl _ _).alloc (Nat.le_refl _) _⟩
  case round =>
    obtain ⟨k, hk, rfl, hrow, hin, hnd, hB⟩ := hrel
    have HR : Hid (wr.rowIs w.heap.size 228 100 (fun j => .bool (decide ((j : Int) ∈ l.take k)))) := hrow
    have HIN : Hid (∀ v ∈ l.take k, 0 ≤ v ∧ v ≤ 99) := hin
    have HND : Hid ((l.take k).Nodup) := hnd
    clear hrow0 hin hnd
    by_cases hlt : k < l.length
    · obtain ⟨b, o, rfl, -, hb, c⟩ := ha (by omega)
      have g : wr.cell? ⟨b, o + k, none⟩ = some (.int .i64 (l[k]?.getD 0)) := (hB.cell (p := ⟨b, o + k, none⟩) hb).trans (c k hlt)
      obtain ⟨x, hxe⟩ : ∃ x, l[k]?.getD 0 = x := ⟨_, rfl⟩
      rw [hxe] at g
      have HX : Hid (l[k]?.getD 0 = x) := hxe
      have hxm : x ∈ l := by
        rw [← hxe, List.getElem?_eq_getElem hlt, Option.getD_some]
        exact List.getElem_mem hlt
      have HXM : Hid (x ∈ l) := hxm
      clear hxe hxm c ha
      by_cases hlo : x < 0
      · clear hrow
        go_wp2
        go_ret2
        exact ⟨hB, .inr ⟨fun h => by have := (h.2.2 x HXM.out).1; omega, rfl⟩⟩
      · by_cases hhi : 99 < x
        · clear hrow
          go_wp2
          go_ret2
          exact ⟨hB, .inr ⟨fun h => by have := (h.2.2 x HXM.out).2; omega, rfl⟩⟩
        · obtain ⟨m, rfl⟩ : ∃ m : Nat, x = m := ⟨x.toNat, by omega⟩
          have hm : m < 100 := by omega
          have gm := hrow.cell hm
          have gz := hrow.frozen m
          clear hrow
          by_cases hmem : (m : Int) ∈ l.take k
          · have HM : Hid ((m : Int) ∈ l.take k) := hmem
            rw [decide_eq_true hmem] at gm
            clear hmem
            go_wp2
            go_ret2
            refine ⟨hB, .inr ⟨fun h => ?_, rfl⟩⟩
            have h2 := ((take_nodup hlt).1 (h.2.1.sublist (List.take_sublist _ _))).2
            rw [HX.out] at h2
            exact h2 HM.out
          · have HM : Hid ((m : Int) ∉ l.take k) := hmem
            rw [decide_eq_false hmem] at gm
            clear hmem
            go_wp2
            go_roundw
            case rel =>
              refine ⟨k + 1, by omega, by go_num, (HR.out.set m _).congr (fun j _ => ?_), fun v hv => ?_, (take_nodup hlt).2 ⟨HND.out, by rw [HX.out]; exact HM.out⟩, hB.setCell (p := ⟨w.heap.size, m, none⟩) (Nat.le_refl _) _⟩
              · by_cases e : j = m
                · subst e
                  rw [if_pos rfl, decide_eq_true ((take_mem hlt _).2 (.inr HX.out.symm))]
                · rw [if_neg e]
                  have : ((j : Int) ∈ l.take (k + 1)) ↔ ((j : Int) ∈ l.take k) := by
                    rw [take_mem hlt, HX.out]
                    exact ⟨fun h => h.elim id (fun h => absurd h (by omega)), .inl⟩
                  simp only [this]
              · rcases (take_mem hlt v).1 hv with h | h
                · exact HIN.out v h
                · rw [h, HX.out]; omega
            case measure => simp [intOf]; omega
    · obtain rfl : k = l.length := by omega
      have hin := HIN.out
      have hnd := HND.out
      rw [List.take_length] at hin hnd hrow
      have HR1 : Hid (wr.rowIs w.heap.size 228 100 (fun j => .bool (decide ((j : Int) ∈ l)))) := hrow
      have HIN1 : Hid (∀ v ∈ l, 0 ≤ v ∧ v ≤ 99) := hin
      have HND1 : Hid l.Nodup := hnd
      obtain ⟨j0, hj0, hy0, hy1, hy2⟩ := info_parts Tryz.info5
      obtain ⟨W1, hW1⟩ : ∃ W, W = wr := ⟨_, rfl⟩
      subst hW1
      have hb1 : w.heap.size < W1.heap.size := hrow.lt
      clear hin hnd hrow ha HR HIN HND
      go_wp2_with (first
        | (at_make; refine wpList_make_own _ rfl _ _ 229 rfl W1.heap.size 5 j0 (.int .u8 0) 1 Tryz.underlying229 hj0 hy0 hy1 _ _ _ l.length rfl rfl rfl (by rw [hy2]; omega) (by unfold maxLen; omega) (Nat.le_refl _) ?_; intro w2 hown2 hg2)
        | go_in)
      (try go_frame)
      go_loopw [7, 32] (fun v p W => ∃ m : Nat, m ≤ 100 ∧ p = .int .i64 m ∧ W.ownsRow W1.heap.size 5 1 v (lowText l m).length ((lowText l m).map (fun b => Value.int .u8 (b.toNat : Int))) ∧ W.rowIs w.heap.size 228 100 (fun j => .bool (decide ((j : Int) ∈ l))) ∧ Below w.heap.size w W ∧ W1.heap.size ≤ W.heap.size)
        (fun _ p _ => 100 - (intOf p).toNat)
      case atStart => exact ⟨0, by omega, rfl, hown2, HR1.out.of_block (hg2.block _ hb1 (by simp)), hB.grown hg2 hB.size (fun k h => by cases h), hg2.size⟩
      case round =>
        obtain ⟨m, hm, rfl, hown, hrow, hB2, hs2⟩ := hrel
        have HR2 : Hid (wr.rowIs w.heap.size 228 100 (fun j => .bool (decide ((j : Int) ∈ l)))) := hrow
        have hll := low_length l m
        by_cases hlt2 : m < 100
        · have gm := hrow.cell hlt2
          obtain ⟨tx, htx⟩ : ∃ t, lowText l m = t := ⟨_, rfl⟩
          rw [htx] at hown hll
          have HTX : Hid (lowText l m = tx) := htx
          have hwrap : IntKind.u8.wrap (m : Int) = (m : Int) := by rw [IntKind.wrap_u8]; omega
          clear hrow htx
          by_cases hmem : (m : Int) ∈ l
          · have HM : Hid ((m : Int) ∈ l) := hmem
            rw [decide_eq_true hmem] at gm
            clear hmem
            go_wp2_with (first
              | (at_builtin; refine wpList_append_slice rfl (.tmp 38) (.tmp 41) 229 rfl W1.heap.size 5 j0 (.int .u8 0) 1 Tryz.underlying229 hj0 hy0 hy1 hy2 rfl _ _ _ rfl (hown.alloc _) _ [.int .u8 (m : Int)] rfl (slice_one _ _ _) (by simp [Value.oneCell']) (by simp; omega) (by unfold maxLen; simp; omega) (by simp; omega) ?_; intro v3 w4 hown3 hg3 hl3)
              | go_in)
            (try go_frame)
            go_roundw
            case rel =>
              have hne : some w.heap.size ≠ Value.ownBlock u7 := fun e => by have := (hown.lt _ e.symm).1; omega
              refine ⟨m + 1, by omega, by go_num, ?_, (HR2.out.alloc _).of_block (hg3.block _ (by simp; omega) hne), (hB2.alloc hB2.size _).grown hg3 (by have := hB2.size; simp; omega) (fun j hj => by have := (hown.lt j hj).1; omega), by have := hg3.size; simp at this; omega⟩
              have hto : (UInt8.ofNat m).toNat = m := by rw [UInt8.toNat_ofNat']; omega
              rw [low_succ, if_pos HM.out, HTX.out]
              simpa [hto] using hown3
            case measure => simp [intOf]; omega
          · have HM : Hid ((m : Int) ∉ l) := hmem
            rw [decide_eq_false hmem] at gm
            clear hmem
            go_wp2
            go_roundw
            case rel => exact ⟨m + 1, by omega, by go_num, by rw [low_succ, if_neg HM.out, List.append_nil, HTX.out]; exact hown, HR2.out, hB2, hs2⟩
            case measure => simp [intOf]; omega
        · obtain rfl : m = 100 := by omega
          have hcv := convert_owned hown
          obtain ⟨tx, htx⟩ : ∃ t, lowText l 100 = t := ⟨_, rfl⟩
          rw [htx] at hcv
          have HTX : Hid (lowText l 100 = tx) := htx
          clear hrow htx hown hll
          go_wp2
          go_ret2
          refine ⟨hB2, ?_⟩
          by_cases h0 : l = []
          · refine .inr ⟨fun h => h.1 h0, ?_⟩
            have : tx = [] := by rw [← HTX.out, h0]; unfold lowText; simp
            rw [this, h0]
            rfl
          · refine .inl ⟨⟨h0, HND1.out, HIN1.out⟩, tx, by rw [← HTX.out]; exact low_text HIN1.out, ?_⟩
            have : 0 < l.length := List.length_pos_iff.2 h0
            simp [this]

end Go.Proofs.YtnnkmkhamipfiaaGreatDoor

namespace Go.Proofs.YtnnkmkhamipfiaaGreatDoor
open Go.RowKit Go.Shelf Go.Sort

attribute [local go_sem] Oper.semAt_some

/-- A face's text, of one vertex at least, of not too many. -/
abbrev Fc := { x : List UInt8 // 0 < x.length ∧ x.length ≤ 1000 }

theorem take_get {zs : List Fc} {k : Nat} (hk : k < zs.length) : zs.take (k + 1) = zs.take k ++ [zs[k]] := by
  rw [List.take_add_one, List.getElem?_eq_getElem hk]
  rfl

set_option maxRecDepth 100000 in
set_option maxHeartbeats 2000000 in
theorem values_rounds (F : Fence) (n : Nat) (hF : F.fn 145) (hro : F.round = none) (hn : 1 ≤ n) (l Bs n₀ b off cap : Nat) (zs : List Fc) (hz : zs.length ≤ 100000) (hb : b < n₀) (J Jx : List Fc → World → Prop)
    (hY : ∀ pre x W, J pre W → pre.length < zs.length → YieldAt F (n - 1) Tryz.prog l #[encStr x.1] W fun e W' =>
      (e = .returned (.bool true) ∧ J (pre ++ [x]) W' ∧ Below n₀ W W') ∨ (e = .returned (.bool false) ∧ Jx (pre ++ [x]) W'))
    (W : World) (hBs : W.cell? ⟨Bs, 0, none⟩ = some (.slice (some ⟨b, off, none⟩) zs.length cap)) (hc : ∀ j (hj : j < zs.length), W.cell? ⟨b, off + j, none⟩ = some (encStr zs[j].1)) (h0 : J [] W) :
    CallsIn F n Tryz.prog 145 #[.func (.yield l) #[] #[], .pointer (some ⟨Bs, 0, none⟩)] W fun e W' => (∃ v, e = .returned v) ∧
      ((∃ ys, ys = zs ∧ J ys W') ∨ (∃ pre, pre <+: zs ∧ Jx pre W')) := by
  refine callsIn_of_wp Tryz.func145 rfl hF ?_ hro
  simp only [Tryz.ntmps145, List.size_toArray, List.length_cons, List.length_nil, Nat.reduceAdd, Nat.reduceSub, Array.replicate_succ, Array.replicate_zero, List.push_toArray, List.append_toArray, List.nil_append, List.cons_append]
  obtain ⟨len, hlen⟩ : ∃ m, zs.length = m := ⟨_, rfl⟩
  rw [hlen] at hBs hz
  have HL : Hid (zs.length = len) := hlen
  have HY : Hid (∀ pre x W, J pre W → pre.length < zs.length → YieldAt F (n - 1) Tryz.prog l #[encStr x.1] W fun e W' =>
      (e = .returned (.bool true) ∧ J (pre ++ [x]) W' ∧ Below n₀ W W') ∨ (e = .returned (.bool false) ∧ Jx (pre ++ [x]) W')) := hY
  have HC : Hid (∀ j (hj : j < zs.length), W.cell? ⟨b, off + j, none⟩ = some (encStr zs[j].1)) := hc
  clear hlen hY hc
  gi_wp2
  gi_loopw [7] (fun i wr => ∃ k : Nat, k ≤ len ∧ i = .int .i64 k ∧ J (zs.take k) wr ∧ Below n₀ W wr) (fun i _ => len - (intOf i).toNat)
  case atStart => exact ⟨0, Nat.zero_le _, rfl, h0, Below.refl _ _⟩
  case round =>
    obtain ⟨k, hk, rfl, hJs, hnx⟩ := hrel
    by_cases hlt : k < len
    · have hkz : k < zs.length := by rw [HL.out]; exact hlt
      have hcx : wr.cell? ⟨b, off + k, none⟩ = some (encStr zs[k].1) := (hnx.cell (p := ⟨b, off + k, none⟩) hb).trans (HC.out k hkz)
      have HJ : Hid (zs.take (k + 1) = zs.take k ++ [zs[k]]) := take_get hkz
      obtain ⟨z, hze⟩ : ∃ z, zs[k] = z := ⟨_, rfl⟩
      rw [hze] at hcx HJ
      obtain ⟨fn, tmps, assign, body, hy, hR⟩ := HY.out _ z wr hJs (by simp; omega)
      clear hze
      gi_wp2
      refine hR.mono ?_
      rintro e W3 (⟨rfl, hJ3, hk3⟩ | ⟨rfl, hJx3⟩)
      · gi_wp2
        go_roundw
        case rel => exact ⟨k + 1, by omega, by simp, by rw [HJ.out]; exact hJ3, hnx.trans hk3⟩
        case measure => simp [intOf]; omega
      · gi_wp2
        refine bodyPost_ret (results_none rfl _ _ _) rfl ?_
        exact ⟨⟨_, rfl⟩, .inr ⟨_, by rw [← HJ.out]; exact List.take_prefix _ _, hJx3⟩⟩
    · have hJe : J zs wr := by
        have : zs.take k = zs := List.take_of_length_le (by rw [HL.out]; omega)
        rw [this] at hJs; exact hJs
      gi_wp2
      go_end0
      exact ⟨⟨_, rfl⟩, .inl ⟨_, rfl, hJe⟩⟩

set_option maxHeartbeats 1000000 in
theorem values_made (F : Fence) (n : Nat) (hF : F.fn 138) (hro : F.round = none) (a : Option Addr) (len cap : Nat) (w : World) :
    CallsIn F n Tryz.prog 138 #[.slice a len cap] w fun e w' => e = .returned (.func (.func 145) #[] #[.pointer (some ⟨w.heap.size, 0, none⟩)]) ∧ w' = w.alloc (.cells #[.slice a len cap] 183) := by
  refine callsIn_of_wp Tryz.func138 rfl hF ?_ hro
  simp only [Tryz.ntmps138, List.size_toArray, List.length_cons, List.length_nil, Nat.reduceAdd, Nat.reduceSub, Array.replicate_succ, Array.replicate_zero, List.push_toArray, List.append_toArray, List.nil_append, List.cons_append]
  gi_wp2
  go_ret
  exact ⟨rfl, rfl⟩

end Go.Proofs.YtnnkmkhamipfiaaGreatDoor

namespace Go.Proofs.YtnnkmkhamipfiaaGreatDoor
open Go.RowKit Go.Shelf Go.Sort Go.Maps

attribute [local go_sem] Oper.semAt_some

/-- What heap answers. -/
def HeapSays (a : Nat → Addr) (ts : List (List UInt8)) (w : World) (e : Ending) (w' : World) : Prop :=
  Below w.heap.size w w' ∧ ((∃ b F G, e = .returned (.tuple #[.map (some b), .nilIface]) ∧ PileAt w' b F G ∧ Heaped ts F G) ∨
    (Over ts ∧ e = .returned (.tuple #[.map none, .iface 250 (.pointer (some (a 1)))])))

theorem over_mono {ts us : List (List UInt8)} (h : Over ts) (hs : ∀ t ∈ ts, t ∈ us) : Over us := by
  rcases h with ⟨t, ht, hl⟩ | ⟨X, hn, hl, hx⟩
  · exact .inl ⟨t, hs t ht, hl⟩
  · exact .inr ⟨X, hn, hl, fun x hx' => by obtain ⟨h1, t, ht, h2⟩ := hx x hx'; exact ⟨h1, t, hs t ht, h2⟩⟩

theorem cell_of_block {W : World} {B : Nat} {v : Value} {t : TypeId} (h : W.heap[B]? = some (.cells #[v] t (0, 0))) : W.cell? ⟨B, 0, none⟩ = some v ∧ W.frozen? ⟨B, 0, none⟩ = false := by
  constructor <;> simp [World.cell?, World.frozen?, h]
theorem box_new (W : World) (v : Value) (t : TypeId) : (W.alloc (.cells #[v] t)).cell? ⟨W.heap.size, 0, none⟩ = some v ∧ (W.alloc (.cells #[v] t)).frozen? ⟨W.heap.size, 0, none⟩ = false :=
  cell_of_block (World.alloc_heap_new W _)
theorem box_alloc {W : World} {p : Addr} {v : Value} (o : Obj) (h : W.cell? p = some v ∧ W.frozen? p = false) : (W.alloc o).cell? p = some v ∧ (W.alloc o).frozen? p = false :=
  ⟨cell_kept h.1 (World.grownBy_alloc W o none) (fun r e => by cases e), (frozen_kept h.1 (World.grownBy_alloc W o none) (fun r e => by cases e)).trans h.2⟩

/-- The two results' variables and the map's own variable, and the map's place. -/
structure Boxes (B : Nat) (W : World) (v2 v3 : Value) : Prop where
  two : W.cell? ⟨B, 0, none⟩ = some v2 ∧ W.frozen? ⟨B, 0, none⟩ = false
  three : W.cell? ⟨B + 1, 0, none⟩ = some v3 ∧ W.frozen? ⟨B + 1, 0, none⟩ = false
  four : W.cell? ⟨B + 1 + 1 + 1, 0, none⟩ = some (.map (some (B + 1 + 1))) ∧ W.frozen? ⟨B + 1 + 1 + 1, 0, none⟩ = false
theorem Boxes.kept {B : Nat} {W W' : World} {v2 v3 : Value} {row : Option Nat} (h : Boxes B W v2 v3) (hg : W.grownBy W' row) (hr : ∀ r, row = some r → ∃ o : Obj, W.heap[r]? = some o ∧ o.isCells = false) : Boxes B W' v2 v3 :=
  ⟨⟨cell_kept h.two.1 hg hr, (frozen_kept h.two.1 hg hr).trans h.two.2⟩, ⟨cell_kept h.three.1 hg hr, (frozen_kept h.three.1 hg hr).trans h.three.2⟩, ⟨cell_kept h.four.1 hg hr, (frozen_kept h.four.1 hg hr).trans h.four.2⟩⟩
theorem Boxes.drew {B : Nat} {W : World} {v2 v3 : Value} (h : Boxes B W v2 v3) : Boxes B W.drew v2 v3 := ⟨h.two, h.three, h.four⟩
theorem boxes_new (w : World) (v2 v3 : Value) (t2 t3 t4 : TypeId) (o : Obj) : Boxes w.heap.size ((((w.alloc (.cells #[v2] t2)).alloc (.cells #[v3] t3)).alloc o).alloc (.cells #[.map (some (w.heap.size + 1 + 1))] t4)) v2 v3 := by
  refine ⟨box_alloc _ (box_alloc _ (box_alloc _ (box_new w v2 t2))), ?_, ?_⟩
  · have := box_alloc (.cells #[.map (some (w.heap.size + 1 + 1))] t4) (box_alloc o (box_new (w.alloc (.cells #[v2] t2)) v3 t3))
    rwa [World.size_alloc] at this
  · have := box_new (((w.alloc (.cells #[v2] t2)).alloc (.cells #[v3] t3)).alloc o) (.map (some (w.heap.size + 1 + 1))) t4
    rwa [World.size_alloc, World.size_alloc, World.size_alloc] at this
theorem PileAt.block {W : World} {b : Nat} {F : List (List UInt8)} {G : List UInt8 → Prop} (h : PileAt W b F G) : ∃ o : Obj, W.heap[b]? = some o ∧ o.isCells = false := by
  obtain ⟨D, ⟨es, c, hh, _⟩, _⟩ := h
  exact ⟨_, hh, rfl⟩

theorem PileAt.setCell {W : World} {b : Nat} {F : List (List UInt8)} {G : List UInt8 → Prop} (h : PileAt W b F G) {p : Addr} (hp : b ≠ p.block) (u : Value) : PileAt (W.setCell p u) b F G := by
  obtain ⟨D, h1, h2⟩ := h
  exact ⟨D, h1.setCell hp u, h2⟩
theorem boxes_set {B : Nat} {W : World} {v2 v3 : Value} (h : Boxes B W v2 v3) (x2 x3 : Value) : Boxes B ((W.setCell ⟨B, 0, none⟩ x2).setCell ⟨B + 1, 0, none⟩ x3) x2 x3 := by
  have e : ∀ (j k : Nat), j ≠ k → (⟨j, 0, none⟩ : Addr) ≠ ⟨k, 0, none⟩ := fun j k hne h => hne (by cases h; rfl)
  refine ⟨⟨?_, ?_⟩, ⟨?_, ?_⟩, ⟨?_, ?_⟩⟩
  · rw [World.cell?_setCell_other _ _ _ _ (e _ _ (by omega))]
    exact World.cell?_setCell_same' _ _ _ (by rw [h.two.1]; rfl)
  · rw [World.frozen?_setCell, World.frozen?_setCell]; exact h.two.2
  · refine World.cell?_setCell_same' _ _ _ ?_
    rw [World.cell?_setCell_other _ _ _ _ (e _ _ (by omega)), h.three.1]; rfl
  · rw [World.frozen?_setCell, World.frozen?_setCell]; exact h.three.2
  · rw [World.cell?_setCell_other _ _ _ _ (e _ _ (by omega)), World.cell?_setCell_other _ _ _ _ (e _ _ (by omega))]; exact h.four.1
  · rw [World.frozen?_setCell, World.frozen?_setCell]; exact h.four.2

/-- All blocks of cells are as they were. -/
def KeepsCells (W W' : World) : Prop := ∀ (j : Nat) (o : Obj), W.heap[j]? = some o → o.isCells = true → W'.heap[j]? = some o
/-- What was there below, and all blocks of cells, are as they were. -/
def BelowC (n : Nat) (W W' : World) : Prop := Below n W W' ∧ KeepsCells W W'
theorem KeepsCells.trans {A B C : World} (h : KeepsCells A B) (k : KeepsCells B C) : KeepsCells A C := fun j o hj ho => k j o (h j o hj ho) ho
theorem KeepsCells.refl (A : World) : KeepsCells A A := fun _ _ h _ => h
theorem belowC_t {n : Nat} {A B C : World} (h : BelowC n A B) (k : BelowC n B C) : BelowC n A C := ⟨h.1.trans k.1, h.2.trans k.2⟩
theorem cells_grown {W W' : World} {b : Nat} (hg : W.grownBy W' (some b)) (hb : ∃ o : Obj, W.heap[b]? = some o ∧ o.isCells = false) : KeepsCells W W' := fun j o hj ho => by
  have hlt := (Array.getElem?_eq_some_iff.1 hj).1
  have hne : some j ≠ some b := fun e => by
    cases e
    obtain ⟨o', h1, h2⟩ := hb
    rw [h1] at hj
    cases hj
    rw [h2] at ho; cases ho
  rw [hg.block j hlt hne]; exact hj
theorem belowC_b {n : Nat} {w : World} (hn : n ≤ w.heap.size) (W : World) (l : Nat) (o o' : Obj) (hl : w.heap.size ≤ l) (h : W.heap[l]? = some o) (hc : o.isCells = false) (hw : o.isWalk = false) : BelowC n W (W.putObj l o') :=
  ⟨belowK_b hn W l o o' hl h hc hw, cells_grown (grownBy_putObj' W l o') ⟨o, h, hc⟩⟩
theorem KeepsCells.cell {W W' : World} (h : KeepsCells W W') {p : Addr} {v : Value} (hc : W.cell? p = some v) : W'.cell? p = some v := by
  cases hb : W.heap[p.block]? with
  | none => simp [World.cell?, hb] at hc
  | some o =>
    cases ho : o.isCells with
    | true => rw [World.cell?_of_block ((h _ o hb ho).trans hb.symm)]; exact hc
    | false => cases o <;> simp_all [World.cell?, Obj.isCells]
theorem Below.cells {W W' : World} (h : Below W.heap.size W W') : KeepsCells W W' := fun j o hj _ => by
  rw [h.block j (Array.getElem?_eq_some_iff.1 hj).1]; exact hj

set_option maxRecDepth 100000 in
set_option maxHeartbeats 2000000 in
theorem heapC_ {a : Nat → Addr} {s : Nat → ByteArray} (gf : Nat) (lb : Array Value) (xs : List Fc) (w : World) (hE : Errs a s w)
    (hent : ∀ args w, (callFunc gf args).run Tryz.prog w = .ok (.enter gf args) w)
    (hseq : SeqStopsK Fence.wide 9 Tryz.prog gf lb (fun x : Fc => #[encStr x.1]) (BelowC w.heap.size) (fun ys => ys = xs) (fun pre => pre <+: xs) xs.length w) :
    Calls Tryz.prog 137 #[.func (.func gf) #[] lb] w fun e w' => HeapSays a (xs.map Subtype.val) w e w' := by
  refine (callsIn_wide (n := 10)).1 ?_
  have hmm := @run_makeMap Tryz.prog
  refine callsIn_of_wp_marks Tryz.func137 rfl trivial ?_ rfl
  simp only [Tryz.ntmps137, List.size_toArray, List.length_cons, List.length_nil, Nat.reduceAdd, Nat.reduceSub, Array.replicate_succ, Array.replicate_zero, List.push_toArray, List.append_toArray, List.nil_append, List.cons_append]
  gi_wp2
  have hbx := boxes_new w (.map none) .nilIface 179 36 179 (.map #[] 0)
  have hp0 : PileAt ((((w.alloc (.cells #[.map none] 179)).alloc (.cells #[.nilIface] 36)).alloc (.map #[] 0)).alloc (.cells #[.map (some (w.heap.size + 1 + 1))] 179)) (w.heap.size + 1 + 1) [] (fun _ => False) := by
    have hm := World.ownsMap_made (H := Unit) ((w.alloc (.cells #[.map none] 179)).alloc (.cells #[.nilIface] 36)) Tryz.prog 9 (plainElem Tryz.prog 3)
    rw [World.size_alloc, World.size_alloc] at hm
    exact ⟨.map [], hm.alloc _, fun x => by simp [Maps.has], rfl, fun x hx => by cases hx⟩
  have hB0 : Below w.heap.size w ((((w.alloc (.cells #[.map none] 179)).alloc (.cells #[.nilIface] 36)).alloc (.map #[] 0)).alloc (.cells #[.map (some (w.heap.size + 1 + 1))] 179)) :=
    ((((Below.refl _ w).alloc (Nat.le_refl _) _).alloc (by simp) _).alloc (by simp; omega) _).alloc (by simp; omega) _
  obtain ⟨W0, hW0⟩ : ∃ W0, ((((w.alloc (.cells #[.map none] 179)).alloc (.cells #[.nilIface] 36)).alloc (.map #[] 0)).alloc (.cells #[.map (some (w.heap.size + 1 + 1))] 179)) = W0 := ⟨_, rfl⟩
  have hsz : W0.heap.size = w.heap.size + 4 := by rw [← hW0]; simp
  rw [hW0] at hbx hp0 hB0 ⊢
  clear hW0 hmm
  have hle : w.heap.size ≤ W0.heap.size := by omega
  refine wpIn_rangeFunc_ownG rfl (by decide) (gf := gf) (lb := lb) rfl trivial hent hseq belowC_t (belowC_b hle) hB0 (fun _ => rfl)
    (fun pre W => (Boxes w.heap.size W (.map none) .nilIface ∧ ∃ F G, PileAt W (w.heap.size + 1 + 1) F G ∧ Heaped (pre.map Subtype.val) F G) ∧ Below w.heap.size w W)
    (fun c pre W => (c = .ret ∧ Boxes w.heap.size W (.map none) (.iface 250 (.pointer (some (a 1)))) ∧ Over (pre.map Subtype.val)) ∧ Below w.heap.size w W)
    (OwnFrom.and (fun s A B row hs hg hr => ⟨hs.1.kept hg (fun r e => (hr r e).2), by
      obtain ⟨F, G, h1, h2⟩ := hs.2
      exact ⟨F, G, h1.kept hg (fun e => by have := (hr _ e.symm).1; omega), h2⟩⟩) (ownFrom_below (Nat.le_refl _) hle))
    (fun c => OwnFrom.and (fun s A B row hs hg hr => ⟨hs.1, hs.2.1.kept hg (fun r e => (hr r e).2), hs.2.2⟩) (ownFrom_below (Nat.le_refl _) hle))
    ⟨⟨hbx, [], _, hp0, heaped_nil⟩, hB0⟩
    (fun x => { tmps := #[.func (.func gf) #[] lb, undef, .pointer (some ⟨w.heap.size, 0, none⟩), .pointer (some ⟨w.heap.size + 1, 0, none⟩), .pointer (some ⟨w.heap.size + 1 + 1 + 1, 0, none⟩), encStr x.1, .map (some (w.heap.size + 1 + 1)), .func (.func gf) #[] lb, encStr x.1, undef, undef, undef, undef, undef, undef], defers := [] }) ?assign ?body ?done ?stop
  case assign =>
    intro l x W K hK
    gi_wp2
    exact hK
  case body =>
    rintro l pre x W ⟨⟨hb, F, G, hP, hH⟩, hB⟩ _
    have HH : Hid (Heaped (pre.map Subtype.val) F G) := hH
    have HPB : Hid (∃ o : Obj, W.heap[w.heap.size + 1 + 1]? = some o ∧ o.isCells = false) := hP.block
    have hput := put_pile x.1.length x.1 F G W (w.heap.size + 1 + 1) (Nat.le_refl _) x.2.1 x.2.2 hP (hH.pile _)
    have h4 := hb.four.1
    have HBX : Hid (Boxes w.heap.size W (.map none) .nilIface) := hb
    clear hH hP hb
    gi_wp2
    refine ⟨trivial, ?_⟩
    refine (CallsIn.inRound l (callsIn_wide.2 hput)).mono ?_
    clear hput
    rintro e W' ⟨hg, ⟨rfl, F', G', hP', hGr, hin⟩ | ⟨rfl, hov⟩⟩
    · have hbx' := HBX.out.kept hg (fun r e => by cases e; exact HPB.out)
      have hB' : Below w.heap.size w W' := hB.grown hg hB.size (fun k e => by cases e; omega)
      have hBW : BelowC w.heap.size W W' := ⟨(Below.refl _ W).grown hg hB.size (fun k e => by cases e; omega), cells_grown hg HPB.out⟩
      gi_wp2
      exact ⟨KeepsFrom.of_grownBy hg (fun j e => by cases e; omega), hBW, ⟨hbx', F', G', hP', by rw [List.map_append]; exact HH.out.snoc hGr hin⟩, hB'⟩
    · have hbx' := HBX.out.kept hg (fun r e => by cases e; exact HPB.out)
      have hB' : Below w.heap.size w W' := hB.grown hg hB.size (fun k e => by cases e; omega)
      have hov' : Over ((pre ++ [x]).map Subtype.val) := by
        rw [List.map_append]
        exact HH.out.over hov []
      have hgl : W'.cell? ⟨0, 0, none⟩ = some (.iface 250 (.pointer (some (a 1)))) := (hE.below hB').glob 1 (by decide)
      have hgl2 : (W'.setCell ⟨w.heap.size, 0, none⟩ (.map none)).cell? ⟨0, 0, none⟩ = some (.iface 250 (.pointer (some (a 1)))) :=
        (((Below.refl w.heap.size W').setCell (p := ⟨w.heap.size, 0, none⟩) (Nat.le_refl _) (.map none)).cell (p := ⟨0, 0, none⟩) (cell_lt (hE.glob 1 (by decide)))).trans hgl
      have hc2 := hbx'.two
      have hc3 := hbx'.three
      have hkf : KeepsFrom W0.heap.size W W' := KeepsFrom.of_grownBy hg (fun j e => by cases e; omega)
      obtain ⟨c2, z2⟩ := hc2
      obtain ⟨c3, z3⟩ := hc3
      gi_wp2
      have hfo : Tryz.prog.follows Departure.mixedOrders = true := by kernel_rfl
      gi_region_with_o (fail)
      all_goals gi_wp2
      all_goals exact ⟨hkf.trans ((((KeepsOthers.setCell W' _ _).trans (KeepsOthers.setCell _ _ _)).trans (KeepsOthers.drew _)).from _), ⟨rfl, (boxes_set hbx' _ _).drew, hov'⟩, ((hB'.setCell (p := ⟨w.heap.size, 0, none⟩) (Nat.le_refl _) _).setCell (p := ⟨w.heap.size + 1, 0, none⟩) (by simp) _).drew⟩
  case done =>
    rintro D ys W hD rfl ⟨⟨hb, F, G, hP, hH⟩, hB⟩ hK
    have hD2 : w.heap.size ≤ D := by omega
    have hne : (w.heap.size + 1 + 1) ≠ D := by omega
    obtain ⟨c2, z2⟩ := hb.two
    obtain ⟨c3, z3⟩ := hb.three
    have c4 := hb.four.1
    have hfin := boxes_set hb (.map (some (w.heap.size + 1 + 1))) .nilIface
    have hK' := (KeepsOthers.setCell (W.setCell ⟨w.heap.size, 0, none⟩ (.map (some (w.heap.size + 1 + 1)))) ⟨w.heap.size + 1, 0, none⟩ .nilIface).same D _ ((KeepsOthers.setCell W ⟨w.heap.size, 0, none⟩ (.map (some (w.heap.size + 1 + 1)))).same D _ hK rfl) rfl
    have hB2 : Below w.heap.size w ((W.setCell ⟨w.heap.size, 0, none⟩ (.map (some (w.heap.size + 1 + 1)))).setCell ⟨w.heap.size + 1, 0, none⟩ .nilIface) := (hB.setCell (p := ⟨w.heap.size, 0, none⟩) (Nat.le_refl _) _).setCell (p := ⟨w.heap.size + 1, 0, none⟩) (by simp) _
    have hP2 := (hP.setCell (p := ⟨w.heap.size, 0, none⟩) (by show _ ≠ w.heap.size; omega) (.map (some (w.heap.size + 1 + 1)))).setCell (p := ⟨w.heap.size + 1, 0, none⟩) (by show _ ≠ w.heap.size + 1; omega) .nilIface
    gi_wp2
    refine ⟨by simp, .inl ⟨_, _, rfl, run_takeDeferred hK', ?_⟩⟩
    have hfin2 := hfin.kept (grownBy_putObj' _ D (.deferred none)) (fun r e => by cases e; exact ⟨_, hK', rfl⟩)
    have f2 := hfin2.two.1
    have f3 := hfin2.three.1
    refine ⟨.tuple #[.map (some (w.heap.size + 1 + 1)), .nilIface], ?_, hB2.trans (belowK_b (w := w) (Nat.le_refl _) _ D _ _ hD2 hK' rfl rfl), .inl ⟨_, F, G, rfl, hP2.kept (grownBy_putObj' _ D _) (fun e => by cases e; exact hne rfl), hH⟩⟩
    simp [results, Tryz.f137, go_sem, f2, f3]
  case stop =>
    rintro D c pre W hD hpre ⟨⟨rfl, hb, hov⟩, hB⟩ hK
    have hD2 : w.heap.size ≤ D := by omega
    gi_wp2
    refine ⟨by simp, .inl ⟨_, _, rfl, run_takeDeferred hK, ?_⟩⟩
    have hfin2 := hb.kept (grownBy_putObj' _ D (.deferred none)) (fun r e => by cases e; exact ⟨_, hK, rfl⟩)
    have f2 := hfin2.two.1
    have f3 := hfin2.three.1
    refine ⟨.tuple #[.map none, .iface 250 (.pointer (some (a 1)))], ?_, hB.trans (belowK_b (w := w) (Nat.le_refl _) _ D _ _ hD2 hK rfl rfl), .inr ⟨over_mono hov (fun t ht => ?_), rfl⟩⟩
    · simp [results, Tryz.f137, go_sem, f2, f3]
    · obtain ⟨x, hx, rfl⟩ := List.mem_map.1 ht
      exact List.mem_map.2 ⟨x, hpre.subset hx, rfl⟩

/-- The same of an iterator that asks less of a round. -/
theorem seq_less {gf : Nat} {lb : Array Value} {xs : List Fc} {n : Nat} {w : World} (h : SeqStopsK Fence.wide 9 Tryz.prog gf lb (fun x : Fc => #[encStr x.1]) (Below n) (fun ys => ys = xs) (fun pre => pre <+: xs) xs.length w) :
    SeqStopsK Fence.wide 9 Tryz.prog gf lb (fun x : Fc => #[encStr x.1]) (BelowC n) (fun ys => ys = xs) (fun pre => pre <+: xs) xs.length w := by
  intro l J Jx W hW hJ hJx hY h0
  refine h l J Jx W hW hJ hJx (fun pre x W1 hj hp => ?_) h0
  obtain ⟨fn, tmps, assign, body, hy, hR⟩ := hY pre x W1 hj hp
  refine ⟨fn, tmps, assign, body, hy, hR.mono ?_⟩
  rintro e W' (⟨rfl, h1, h2⟩ | ⟨rfl, h1⟩)
  · exact .inl ⟨rfl, h1, h2.1⟩
  · exact .inr ⟨rfl, h1⟩
theorem heap_ {a : Nat → Addr} {s : Nat → ByteArray} (gf : Nat) (lb : Array Value) (xs : List Fc) (w : World) (hE : Errs a s w)
    (hent : ∀ args w, (callFunc gf args).run Tryz.prog w = .ok (.enter gf args) w)
    (hseq : SeqStopsK Fence.wide 9 Tryz.prog gf lb (fun x : Fc => #[encStr x.1]) (Below w.heap.size) (fun ys => ys = xs) (fun pre => pre <+: xs) xs.length w) :
    Calls Tryz.prog 137 #[.func (.func gf) #[] lb] w fun e w' => HeapSays a (xs.map Subtype.val) w e w' := heapC_ gf lb xs w hE hent (seq_less hseq)

end Go.Proofs.YtnnkmkhamipfiaaGreatDoor
