/- What setText answers: the text of a set of vertices, rising; or that it is none. What slices.Values of texts hands on: each text in its order, as long as the loop's body asks for more. -/
import Derived.Test.YthmjdfjchhohgaaGreatDoorPutPile
import Derived.Test.YthmjdfjchhohgaaGreatDoorSorted
import Derived.Laws.IdiomStrings
import Derived.Laws.BytesArg
import Derived.RangeFuncBox
import Derived.RangeFuncWrites
import Derived.RangeFuncLeaves
import Derived.Shelf.Abstract
import Derived.OwnWalkIn
import Derived.TacticsInMore
import Derived.LoopNIn
import Derived.LoopIn
namespace Go.Proofs.YthmjdfjchhohgaaGreatDoor
open Go.RowKit Go.Sort Go.Maps Go.Deep

theorem Tryz.zeros : Tryz.zeroCells184 = Array.replicate 100 (.bool false) := by kernel_rfl

/-- The vertices below m that a set has, as bytes. -/
def lowText (l : List Int) (m : Nat) : List UInt8 := ((List.range m).filter (fun j : Nat => decide ((j : Int) ∈ l))).map UInt8.ofNat
theorem low_succ (l : List Int) (m : Nat) : lowText l (m + 1) = lowText l m ++ (if (m : Int) ∈ l then [UInt8.ofNat m] else []) := by
  unfold lowText
  rw [List.range_succ, List.filter_append, List.map_append]
  congr 1
  by_cases h : (m : Int) ∈ l <;> simp [h]
theorem low_length (l : List Int) (m : Nat) : (lowText l m).length ≤ m := by
  unfold lowText
  rw [List.length_map]
  have := List.length_filter_le (fun j : Nat => decide ((j : Int) ∈ l)) (List.range m)
  simpa using this
theorem low_text {l : List Int} (h : ∀ v ∈ l, 0 ≤ v ∧ v ≤ 99) : TextOf l (lowText l 100) := by
  have hi : ints (lowText l 100) = ((List.range 100).filter (fun j : Nat => decide ((j : Int) ∈ l))).map (fun j : Nat => (j : Int)) := by
    unfold lowText ints
    rw [List.map_map]
    refine List.map_congr_left (fun j hj => ?_)
    have : j < 100 := by have := (List.mem_filter.1 hj).1; simpa using this
    simp only [Function.comp]
    rw [UInt8.toNat_ofNat']
    omega
  refine ⟨?_, fun v => ?_⟩
  · rw [hi, Rising, List.pairwise_map]
    refine (List.pairwise_lt_range.filter _).imp ?_
    intro a b hab
    omega
  · rw [hi, List.mem_map]
    constructor
    · rintro ⟨j, hj, rfl⟩
      simpa using (List.mem_filter.1 hj).2
    · intro hv
      obtain ⟨h1, h2⟩ := h v hv
      refine ⟨v.toNat, List.mem_filter.2 ⟨List.mem_range.2 (by omega), ?_⟩, by omega⟩
      have : ((v.toNat : Nat) : Int) = v := by omega
      simp [this, hv]

theorem convert_owned {w : World} {base n : Nat} {v : Value} {t : List UInt8} (h : w.ownsRow base 5 1 v n (t.map (fun b => Value.int .u8 (b.toNat : Int)))) : (convert 185 9 v).run Tryz.prog w = .ok (encStr t) w := by
  have hs := slice_of_owns (S := anyBlock) h (fun _ _ _ => trivial)
  obtain ⟨hl, hr⟩ := h
  rcases hr with ⟨rfl, rfl⟩ | ⟨g, cap, cur, rfl, _, _, _⟩
  · have : t = [] := by simpa using hl
    subst this
    exact run_convert_bytes_nil w 185 5 Tryz.underlying185 Tryz.underlying5 0 0 9 Tryz.underlying9
  · have hn : t.length = n := by simpa using hl
    subst hn
    obtain ⟨a, c, e, _, hx⟩ := hs
    rw [List.length_map] at e
    cases e
    refine run_convert_bytes_back w 185 9 5 ⟨g, 0, none⟩ cap t Tryz.underlying185 Tryz.underlying5 Tryz.underlying9 (fun j hj => ?_)
    obtain ⟨b, off, e1, _, e3⟩ := hx (by simp; omega)
    cases e1
    rw [Addr.add_lit]
    exact e3 j _ (by simp [hj])

set_option maxRecDepth 100000 in
set_option maxHeartbeats 1000000 in
theorem set_text (vl : Value) (l : List Int) (w : World) (hl : Ints w vl l) (hx : l.length ≤ 1000) :
    Calls Tryz.prog 96 #[vl] w fun e w' => Below w.heap.size w w' ∧ ((SetOk l ∧ ∃ t, TextOf l t ∧ e = .returned (.tuple #[encStr t, .bool true])) ∨ (¬ SetOk l ∧ e = .returned (.tuple #[encStr [], .bool false]))) := by
  obtain ⟨a, ca, rfl, -, ha⟩ := hl.open_
  go_enter Tryz.func96, Tryz.ntmps96
  go_wp2
  have hrow0 : (w.alloc (.cells Tryz.zeroCells184 184)).rowIs w.heap.size 184 100 (fun j => .bool (decide ((j : Int) ∈ l.take 0))) := by
    rw [Tryz.zeros]
    have := World.rowIs_alloc w (Array.replicate 100 (.bool false)) 184 (fun j => .bool (decide ((j : Int) ∈ l.take 0))) (fun i hi => by simp at hi; simp [hi])
    simpa using this
  go_loopw [11] (fun p wr => ∃ k : Nat, k ≤ l.length ∧ p = .int .i64 k ∧ wr.rowIs w.heap.size 184 100 (fun j => .bool (decide ((j : Int) ∈ l.take k))) ∧ (∀ v ∈ l.take k, 0 ≤ v ∧ v ≤ 99) ∧ (l.take k).Nodup ∧ Below w.heap.size w wr)
    (fun p _ => l.length - (intOf p).toNat)
  case atStart => exact ⟨0, by omega, rfl, hrow0, by simp, by simp, (Below.refl _ _).alloc (Nat.le_refl _) _⟩
  case round =>
    obtain ⟨k, hk, rfl, hrow, hin, hnd, hB⟩ := hrel
    have HR : Hid (wr.rowIs w.heap.size 184 100 (fun j => .bool (decide ((j : Int) ∈ l.take k)))) := hrow
    have HIN : Hid (∀ v ∈ l.take k, 0 ≤ v ∧ v ≤ 99) := hin
    have HND : Hid ((l.take k).Nodup) := hnd
    clear hrow0 hin hnd
    by_cases hlt : k < l.length
    · obtain ⟨b, o, rfl, -, hb, c⟩ := ha (by omega)
      have g : wr.cell? ⟨b, o + k, none⟩ = some (.int .i64 (l[k]?.getD 0)) := (hB.cell (p := ⟨b, o + k, none⟩) hb).trans (c k hlt)
      obtain ⟨x, hxe⟩ : ∃ x, l[k]?.getD 0 = x := ⟨_, rfl⟩
      rw [hxe] at g
      have HX : Hid (l[k]?.getD 0 = x) := hxe
      have hxm : x ∈ l := by
        rw [← hxe, List.getElem?_eq_getElem hlt, Option.getD_some]
        exact List.getElem_mem hlt
      have HXM : Hid (x ∈ l) := hxm
      clear hxe hxm c ha
      by_cases hlo : x < 0
      · clear hrow
        go_wp2
        go_ret2
        exact ⟨hB, .inr ⟨fun h => by have := (h.2.2 x HXM.out).1; omega, rfl⟩⟩
      · by_cases hhi : 99 < x
        · clear hrow
          go_wp2
          go_ret2
          exact ⟨hB, .inr ⟨fun h => by have := (h.2.2 x HXM.out).2; omega, rfl⟩⟩
        · obtain ⟨m, rfl⟩ : ∃ m : Nat, x = m := ⟨x.toNat, by omega⟩
          have hm : m < 100 := by omega
          have gm := hrow.cell hm
          have gz := hrow.frozen m
          clear hrow
          by_cases hmem : (m : Int) ∈ l.take k
          · have HM : Hid ((m : Int) ∈ l.take k) := hmem
            rw [decide_eq_true hmem] at gm
            clear hmem
            go_wp2
            go_ret2
            refine ⟨hB, .inr ⟨fun h => ?_, rfl⟩⟩
            have h2 := ((take_nodup hlt).1 (h.2.1.sublist (List.take_sublist _ _))).2
            rw [HX.out] at h2
            exact h2 HM.out
          · have HM : Hid ((m : Int) ∉ l.take k) := hmem
            rw [decide_eq_false hmem] at gm
            clear hmem
            go_wp2
            go_roundw
            case rel =>
              refine ⟨k + 1, by omega, by go_num, (HR.out.set m _).congr (fun j _ => ?_), fun v hv => ?_, (take_nodup hlt).2 ⟨HND.out, by rw [HX.out]; exact HM.out⟩, hB.setCell (p := ⟨w.heap.size, m, none⟩) (Nat.le_refl _) _⟩
              · by_cases e : j = m
                · subst e
                  rw [if_pos rfl, decide_eq_true ((take_mem hlt _).2 (.inr HX.out.symm))]
                · rw [if_neg e]
                  have : ((j : Int) ∈ l.take (k + 1)) ↔ ((j : Int) ∈ l.take k) := by
                    rw [take_mem hlt, HX.out]
                    exact ⟨fun h => h.elim id (fun h => absurd h (by omega)), .inl⟩
                  simp only [this]
              · rcases (take_mem hlt v).1 hv with h | h
                · exact HIN.out v h
                · rw [h, HX.out]; omega
            case measure => simp [intOf]; omega
    · obtain rfl : k = l.length := by omega
      have hin := HIN.out
      have hnd := HND.out
      rw [List.take_length] at hin hnd hrow
      have HR1 : Hid (wr.rowIs w.heap.size 184 100 (fun j => .bool (decide ((j : Int) ∈ l)))) := hrow
      have HIN1 : Hid (∀ v ∈ l, 0 ≤ v ∧ v ≤ 99) := hin
      have HND1 : Hid l.Nodup := hnd
      obtain ⟨j0, hj0, hy0, hy1, hy2⟩ := info_parts Tryz.info5
      obtain ⟨W1, hW1⟩ : ∃ W, W = wr := ⟨_, rfl⟩
      subst hW1
      have hb1 : w.heap.size < W1.heap.size := hrow.lt
      clear hin hnd hrow ha HR HIN HND
      go_wp2_with (first
        | (at_make; refine wpList_make_own _ rfl _ _ 185 rfl W1.heap.size 5 j0 (.int .u8 0) 1 Tryz.underlying185 hj0 hy0 hy1 _ _ _ l.length rfl rfl rfl (by rw [hy2]; omega) (by unfold maxLen; omega) (Nat.le_refl _) ?_; intro w2 hown2 hg2)
        | go_in)
      (try go_frame)
      go_loopw [7, 32] (fun v p W => ∃ m : Nat, m ≤ 100 ∧ p = .int .i64 m ∧ W.ownsRow W1.heap.size 5 1 v (lowText l m).length ((lowText l m).map (fun b => Value.int .u8 (b.toNat : Int))) ∧ W.rowIs w.heap.size 184 100 (fun j => .bool (decide ((j : Int) ∈ l))) ∧ Below w.heap.size w W ∧ W1.heap.size ≤ W.heap.size)
        (fun _ p _ => 100 - (intOf p).toNat)
      case atStart => exact ⟨0, by omega, rfl, hown2, HR1.out.of_block (hg2.block _ hb1 (by simp)), hB.grown hg2 hB.size (fun k h => by cases h), hg2.size⟩
      case round =>
        obtain ⟨m, hm, rfl, hown, hrow, hB2, hs2⟩ := hrel
        have HR2 : Hid (wr.rowIs w.heap.size 184 100 (fun j => .bool (decide ((j : Int) ∈ l)))) := hrow
        have hll := low_length l m
        by_cases hlt2 : m < 100
        · have gm := hrow.cell hlt2
          obtain ⟨tx, htx⟩ : ∃ t, lowText l m = t := ⟨_, rfl⟩
          rw [htx] at hown hll
          have HTX : Hid (lowText l m = tx) := htx
          have hwrap : IntKind.u8.wrap (m : Int) = (m : Int) := by rw [IntKind.wrap_u8]; omega
          clear hrow htx
          by_cases hmem : (m : Int) ∈ l
          · have HM : Hid ((m : Int) ∈ l) := hmem
            rw [decide_eq_true hmem] at gm
            clear hmem
            go_wp2_with (first
              | (at_builtin; refine wpList_append_slice rfl (.tmp 38) (.tmp 41) 185 rfl W1.heap.size 5 j0 (.int .u8 0) 1 Tryz.underlying185 hj0 hy0 hy1 hy2 rfl _ _ _ rfl (hown.alloc _) _ [.int .u8 (m : Int)] rfl (slice_one _ _ _) (by simp [Value.oneCell']) (by simp; omega) (by unfold maxLen; simp; omega) (by simp; omega) ?_; intro v3 w4 hown3 hg3 hl3)
              | go_in)
            (try go_frame)
            go_roundw
            case rel =>
              have hne : some w.heap.size ≠ Value.ownBlock u7 := fun e => by have := (hown.lt _ e.symm).1; omega
              refine ⟨m + 1, by omega, by go_num, ?_, (HR2.out.alloc _).of_block (hg3.block _ (by simp; omega) hne), (hB2.alloc hB2.size _).grown hg3 (by have := hB2.size; simp; omega) (fun j hj => by have := (hown.lt j hj).1; omega), by have := hg3.size; simp at this; omega⟩
              have hto : (UInt8.ofNat m).toNat = m := by rw [UInt8.toNat_ofNat']; omega
              rw [low_succ, if_pos HM.out, HTX.out]
              simpa [hto] using hown3
            case measure => simp [intOf]; omega
          · have HM : Hid ((m : Int) ∉ l) := hmem
            rw [decide_eq_false hmem] at gm
            clear hmem
            go_wp2
            go_roundw
            case rel => exact ⟨m + 1, by omega, by go_num, by rw [low_succ, if_neg HM.out, List.append_nil, HTX.out]; exact hown, HR2.out, hB2, hs2⟩
            case measure => simp [intOf]; omega
        · obtain rfl : m = 100 := by omega
          have hcv := convert_owned hown
          obtain ⟨tx, htx⟩ : ∃ t, lowText l 100 = t := ⟨_, rfl⟩
          rw [htx] at hcv
          have HTX : Hid (lowText l 100 = tx) := htx
          clear hrow htx hown hll
          go_wp2
          go_ret2
          refine ⟨hB2, ?_⟩
          by_cases h0 : l = []
          · refine .inr ⟨fun h => h.1 h0, ?_⟩
            have : tx = [] := by rw [← HTX.out, h0]; unfold lowText; simp
            rw [this, h0]
            rfl
          · refine .inl ⟨⟨h0, HND1.out, HIN1.out⟩, tx, by rw [← HTX.out]; exact low_text HIN1.out, ?_⟩
            have : 0 < l.length := List.length_pos_iff.2 h0
            simp [this]

end Go.Proofs.YthmjdfjchhohgaaGreatDoor

namespace Go.Proofs.YthmjdfjchhohgaaGreatDoor
open Go.RowKit Go.Shelf Go.Sort

attribute [local go_sem] Oper.semAt_some

/-- A face's text, of one vertex at least, of not too many. -/
abbrev Fc := { x : List UInt8 // 0 < x.length ∧ x.length ≤ 1000 }

theorem take_get {zs : List Fc} {k : Nat} (hk : k < zs.length) : zs.take (k + 1) = zs.take k ++ [zs[k]] := by
  rw [List.take_add_one, List.getElem?_eq_getElem hk]
  rfl

set_option maxRecDepth 100000 in
set_option maxHeartbeats 2000000 in
theorem values_rounds (F : Fence) (n : Nat) (hF : F.fn 117) (hro : F.round = none) (hn : 1 ≤ n) (l Bs n₀ b off cap : Nat) (zs : List Fc) (hz : zs.length ≤ 100000) (hb : b < n₀) (J Jx : List Fc → World → Prop)
    (hY : ∀ pre x W, J pre W → pre.length < zs.length → YieldAt F (n - 1) Tryz.prog l #[encStr x.1] W fun e W' =>
      (e = .returned (.bool true) ∧ J (pre ++ [x]) W' ∧ Below n₀ W W') ∨ (e = .returned (.bool false) ∧ Jx (pre ++ [x]) W'))
    (W : World) (hBs : W.cell? ⟨Bs, 0, none⟩ = some (.slice (some ⟨b, off, none⟩) zs.length cap)) (hc : ∀ j (hj : j < zs.length), W.cell? ⟨b, off + j, none⟩ = some (encStr zs[j].1)) (h0 : J [] W) :
    CallsIn F n Tryz.prog 117 #[.func (.yield l) #[] #[], .pointer (some ⟨Bs, 0, none⟩)] W fun e W' => (∃ v, e = .returned v) ∧
      ((∃ ys, ys = zs ∧ J ys W') ∨ (∃ pre, pre <+: zs ∧ Jx pre W')) := by
  refine callsIn_of_wp Tryz.func117 rfl hF ?_ hro
  simp only [Tryz.ntmps117, List.size_toArray, List.length_cons, List.length_nil, Nat.reduceAdd, Nat.reduceSub, Array.replicate_succ, Array.replicate_zero, List.push_toArray, List.append_toArray, List.nil_append, List.cons_append]
  obtain ⟨len, hlen⟩ : ∃ m, zs.length = m := ⟨_, rfl⟩
  rw [hlen] at hBs hz
  have HL : Hid (zs.length = len) := hlen
  have HY : Hid (∀ pre x W, J pre W → pre.length < zs.length → YieldAt F (n - 1) Tryz.prog l #[encStr x.1] W fun e W' =>
      (e = .returned (.bool true) ∧ J (pre ++ [x]) W' ∧ Below n₀ W W') ∨ (e = .returned (.bool false) ∧ Jx (pre ++ [x]) W')) := hY
  have HC : Hid (∀ j (hj : j < zs.length), W.cell? ⟨b, off + j, none⟩ = some (encStr zs[j].1)) := hc
  clear hlen hY hc
  gi_wp2
  gi_loopw [7] (fun i wr => ∃ k : Nat, k ≤ len ∧ i = .int .i64 k ∧ J (zs.take k) wr ∧ Below n₀ W wr) (fun i _ => len - (intOf i).toNat)
  case atStart => exact ⟨0, Nat.zero_le _, rfl, h0, Below.refl _ _⟩
  case round =>
    obtain ⟨k, hk, rfl, hJs, hnx⟩ := hrel
    by_cases hlt : k < len
    · have hkz : k < zs.length := by rw [HL.out]; exact hlt
      have hcx : wr.cell? ⟨b, off + k, none⟩ = some (encStr zs[k].1) := (hnx.cell (p := ⟨b, off + k, none⟩) hb).trans (HC.out k hkz)
      have HJ : Hid (zs.take (k + 1) = zs.take k ++ [zs[k]]) := take_get hkz
      obtain ⟨z, hze⟩ : ∃ z, zs[k] = z := ⟨_, rfl⟩
      rw [hze] at hcx HJ
      obtain ⟨fn, tmps, assign, body, hy, hR⟩ := HY.out _ z wr hJs (by simp; omega)
      clear hze
      gi_wp2
      refine hR.mono ?_
      rintro e W3 (⟨rfl, hJ3, hk3⟩ | ⟨rfl, hJx3⟩)
      · gi_wp2
        go_roundw
        case rel => exact ⟨k + 1, by omega, by simp, by rw [HJ.out]; exact hJ3, hnx.trans hk3⟩
        case measure => simp [intOf]; omega
      · gi_wp2
        refine bodyPost_ret (results_none rfl _ _ _) rfl ?_
        exact ⟨⟨_, rfl⟩, .inr ⟨_, by rw [← HJ.out]; exact List.take_prefix _ _, hJx3⟩⟩
    · have hJe : J zs wr := by
        have : zs.take k = zs := List.take_of_length_le (by rw [HL.out]; omega)
        rw [this] at hJs; exact hJs
      gi_wp2
      go_end0
      exact ⟨⟨_, rfl⟩, .inl ⟨_, rfl, hJe⟩⟩

set_option maxHeartbeats 1000000 in
theorem values_made (F : Fence) (n : Nat) (hF : F.fn 98) (hro : F.round = none) (a : Option Addr) (len cap : Nat) (w : World) :
    CallsIn F n Tryz.prog 98 #[.slice a len cap] w fun e w' => e = .returned (.func (.func 117) #[] #[.pointer (some ⟨w.heap.size, 0, none⟩)]) ∧ w' = w.alloc (.cells #[.slice a len cap] 129) := by
  refine callsIn_of_wp Tryz.func98 rfl hF ?_ hro
  simp only [Tryz.ntmps98, List.size_toArray, List.length_cons, List.length_nil, Nat.reduceAdd, Nat.reduceSub, Array.replicate_succ, Array.replicate_zero, List.push_toArray, List.append_toArray, List.nil_append, List.cons_append]
  gi_wp2
  go_ret
  exact ⟨rfl, rfl⟩

end Go.Proofs.YthmjdfjchhohgaaGreatDoor
