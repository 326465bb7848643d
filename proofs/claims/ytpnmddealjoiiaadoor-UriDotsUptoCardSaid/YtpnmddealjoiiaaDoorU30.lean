/-
  uri: what UriDots says, over lists of bytes.
-/
import Derived.Test.YtpnmddealjoiiaaDoorU29
namespace Go.Proofs.YtpnmddealjoiiaaDoor
open Go.ChangeShapes Go.WideShapes Go.ChangeAt Go.RowKit Uri

theorem nums_app (a b : ByteArray) : nums (a ++ b) = nums a ++ nums b := by
  unfold nums
  rw [ByteArray.data_append, Array.toList_append, List.map_append]
theorem vis_all {l : List Nat} (h : ∀ x ∈ l, vis x = true) : visible l = true := visible_of h
theorem form_app (a b : List (List Nat)) : form (a ++ b) = form a ++ form b := by unfold form; rw [List.flatMap_append]
theorem head_app {a b : List Nat} (h : a.head? = some 47) : (a ++ b).head? = some 47 := by
  cases a with
  | nil => cases h
  | cons x r => exact h
theorem tail7 : ∀ y ∈ [47, 46, 46, 47, 46, 47, 47], vis y = true := by decide
theorem tail5 : ∀ y ∈ [47, 37, 50, 101, 46], vis y = true := by decide
/-- What is added and taken away again adds nothing. -/
theorem dots_back {path : List (List Nat)} {x : List Nat} (hb : ∀ s ∈ path, ∀ y ∈ s, y < 256) (hx : ∀ y ∈ x, y < 256) (h : good path = true) (hl : path.length ≤ 11) (hgx : good [x] = true) :
    Uri.parse (form path ++ text [x] ++ [47, 46, 46, 47, 46, 47, 47]) = (path, true, 0) := by
  have hsx : seg x = true := (good_parts hgx).1 x (by simp)
  have hb2 : ∀ s ∈ path ++ [x], ∀ y ∈ s, y < 256 := fun s hs => by
    rcases List.mem_append.1 hs with hs | hs
    · exact hb s hs
    · have : s = x := by simpa using hs
      rw [this]; exact hx
  have e1 : text [x] = form [x] := by
    unfold text
    rw [if_pos hgx, if_neg (fun e => by have := form_nil.1 e; cases this)]
  have e2 : form path ++ text [x] ++ [47, 46, 46, 47, 46, 47, 47] = form (path ++ [x]) ++ 47 :: [46, 46, 47, 46, 47, 47] := by
    rw [e1, form_app]
  rw [e2]
  have hne : path ++ [x] ≠ [] := by simp
  have hh : (form (path ++ [x]) ++ 47 :: [46, 46, 47, 46, 47, 47]).head? = some 47 := head_app (form_head hne)
  have hv : visible (form (path ++ [x]) ++ 47 :: [46, 46, 47, 46, 47, 47]) = true := by
    refine vis_all (fun y hy => ?_)
    rcases List.mem_append.1 hy with hy | hy
    · exact form_vis hb2 y hy
    · exact tail7 y hy
  rw [parse_slash hh, rest_ok hv hh, pieces_form hb2]
  have := walk_segs (segs := path ++ [x]) (fun s hs => ⟨hb2 s hs, by
    rcases List.mem_append.1 hs with hs | hs
    · exact (good_parts h).1 s hs
    · have : s = x := by simpa using hs
      rw [this]; exact hsx⟩) (pieces [46, 46, 47, 46, 47, 47]) [] false
  rw [this]
  rw [show pieces [46, 46, 47, 46, 47, 47] = [[46, 46], [46], [], []] by decide, List.nil_append]
  rw [walk_some (s := [46, 46]) (by decide), if_neg (by decide), if_pos rfl, if_neg hne, List.dropLast_concat]
  rw [walk_some (s := [46]) (by decide), if_neg (by decide), if_neg (by decide), if_pos (by decide)]
  rw [walk_some (s := []) (by decide), if_neg (by decide), if_neg (by decide), if_pos (by decide)]
  rw [walk_some (s := []) (by decide), if_neg (by decide), if_neg (by decide), if_pos (by decide)]
  unfold Uri.walk
  rw [if_neg (by omega)]
def up1 : List Nat := [47, 37, 50, 101, 46]
def ups : Nat → List Nat
  | 0 => []
  | k + 1 => up1 ++ ups k
theorem ups_snoc : ∀ k, ups k ++ up1 = ups (k + 1)
  | 0 => rfl
  | k + 1 => by
    show up1 ++ ups k ++ up1 = up1 ++ ups (k + 1)
    rw [List.append_assoc, ups_snoc k]
theorem ups_len : ∀ k, (ups k).length = 5 * k
  | 0 => rfl
  | k + 1 => by
    show (up1 ++ ups k).length = _
    rw [List.length_append, ups_len k]
    show 5 + 5 * k = _
    omega
theorem ups_vis : ∀ k, ∀ y ∈ ups k, vis y = true
  | 0, y, hy => by cases hy
  | k + 1, y, hy => by
    rcases List.mem_append.1 (show y ∈ up1 ++ ups k from hy) with hy | hy
    · exact tail5 y hy
    · exact ups_vis k y hy
theorem ups_pieces : ∀ k, pieces ([37, 50, 101, 46] ++ ups k) = List.replicate (k + 1) [37, 50, 101, 46]
  | 0 => by decide
  | k + 1 => by
    show pieces ([37, 50, 101, 46] ++ 47 :: ([37, 50, 101, 46] ++ ups k)) = _
    rw [pieces_app (by decide), ups_pieces k]
    rfl
theorem walk_ups : ∀ (n : Nat) (P : List (List Nat)) (d : Bool), P.length = n → Uri.walk (List.replicate (n + 1) [37, 50, 101, 46]) P d = ([], false, 20)
  | 0, P, d, h => by
    rw [List.eq_nil_of_length_eq_zero h]
    show Uri.walk ([37, 50, 101, 46] :: []) [] d = _
    rw [walk_some (s := [46, 46]) (by decide), if_neg (by decide), if_pos rfl, if_pos rfl]
  | n + 1, P, d, h => by
    show Uri.walk ([37, 50, 101, 46] :: List.replicate (n + 1) [37, 50, 101, 46]) P d = _
    rw [walk_some (s := [46, 46]) (by decide), if_neg (by decide), if_pos rfl, if_neg (fun e => by rw [e] at h; cases h)]
    exact walk_ups n _ _ (by rw [List.length_dropLast, h]; rfl)
/-- Nobody climbs out of the root. -/
theorem dots_up {path : List (List Nat)} (hb : ∀ s ∈ path, ∀ y ∈ s, y < 256) (h : good path = true) : Uri.parse (form path ++ ups (path.length + 1)) = ([], false, 20) := by
  have e : form path ++ ups (path.length + 1) = form path ++ 47 :: ([37, 50, 101, 46] ++ ups path.length) := rfl
  have hh : (form path ++ ups (path.length + 1)).head? = some 47 := by
    by_cases hp : path = []
    · rw [hp]; rfl
    · exact head_app (form_head hp)
  have hv : visible (form path ++ ups (path.length + 1)) = true := by
    refine vis_all (fun y hy => ?_)
    rcases List.mem_append.1 hy with hy | hy
    · exact form_vis hb y hy
    · exact ups_vis _ y hy
  rw [parse_slash hh, rest_ok hv hh, e, pieces_form hb]
  have := walk_segs (segs := path) (fun s hs => ⟨hb s hs, (good_parts h).1 s hs⟩) (pieces ([37, 50, 101, 46] ++ ups path.length)) [] false
  rw [this, ups_pieces, List.nil_append]
  exact walk_ups _ _ _ rfl
end Go.Proofs.YtpnmddealjoiiaaDoor
