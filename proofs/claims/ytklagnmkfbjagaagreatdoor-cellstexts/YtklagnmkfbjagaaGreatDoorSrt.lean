/- A set's numbers, rising: what the text of a set tells. -/
import Derived.Test.YtklagnmkfbjagaaGreatDoorMath2
namespace Go.Proofs.YtklagnmkfbjagaaGreatDoor

/-- A set's numbers, rising. -/
def srt (l : List Int) : List Int := l.mergeSort (fun x y => decide (x ≤ y))
theorem srt_mem (l : List Int) (v : Int) : v ∈ srt l ↔ v ∈ l := (List.mergeSort_perm l _).mem_iff
theorem srt_length (l : List Int) : (srt l).length = l.length := (List.mergeSort_perm l _).length_eq
theorem srt_rising {l : List Int} (h : l.Nodup) : Rising (srt l) := by
  have hs : (srt l).Pairwise (fun a b => decide (a ≤ b) = true) := List.pairwise_mergeSort (fun a b c h1 h2 => by simp at h1 h2 ⊢; omega) (fun a b => by simp; omega) l
  have hn : (srt l).Nodup := (List.mergeSort_perm l _).nodup_iff.2 h
  refine (hs.and hn).imp ?_
  rintro a b ⟨h1, h2⟩
  simp at h1
  omega
theorem srt_told {l out : List Int} (h : l.Nodup) (hr : Rising out) (hm : ∀ v, v ∈ out ↔ v ∈ l) : out = srt l := rising_told hr (srt_rising h) (fun v => by rw [hm, srt_mem])

theorem text_srt {l : List Int} {t : List UInt8} (h : SetOk l) (ht : TextOf l t) : ints t = srt l := text_sorted ht (srt_rising h.2.1) (fun v => srt_mem l v)
theorem text_len {l : List Int} {t : List UInt8} (h : SetOk l) (ht : TextOf l t) : t.length = l.length := by rw [← ints_length, text_srt h ht, srt_length]

end Go.Proofs.YtklagnmkfbjagaaGreatDoor
