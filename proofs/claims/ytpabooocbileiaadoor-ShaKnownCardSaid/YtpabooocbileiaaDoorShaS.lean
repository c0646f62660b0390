/-
  The sum of a million letters a. Plain mathematics.
-/
import Derived.Test.YtpabooocbileiaaDoorShaR1
import Derived.Test.YtpabooocbileiaaDoorShaR2
import Derived.Test.YtpabooocbileiaaDoorShaR3
import Derived.Test.YtpabooocbileiaaDoorShaR4
namespace Go.Proofs.YtpabooocbileiaaDoor

theorem iterB_add (kws : List (BitVec 32)) (m n : Nat) (s : W8) : iterB kws (m + n) s = iterB kws n (iterB kws m s) := by
  induction m generalizing s with
  | zero => rw [Nat.zero_add]; rfl
  | succ m ih => rw [Nat.add_right_comm]; exact ih _

theorem iterB_succ (kws : List (BitVec 32)) (n : Nat) (s : W8) : iterB kws (n + 1) s = (iterB kws n s).add (kws.foldl rnd' (iterB kws n s)) := by
  rw [iterB_add]; rfl

theorem step_A (s : W8) : blk kk s (wordOf blk_A) = s.add (kws_A.foldl rnd' s) := by
  show s.add _ = s.add _
  rw [rds_fold, kwsOk_A]
  congr 2
  apply List.map_congr_left
  intro t ht
  rw [sch_of _ sch_A schOk_A t (by simpa using ht)]

theorem hs_A (n : Nat) (m : List UInt8) (q : Nat) (h : 64 * q ≤ n) : hs kk h0 (List.replicate n 97 ++ m) q = iterB kws_A q h0 := by
  induction q with
  | zero => rfl
  | succ q ih =>
    simp only [hs]
    rw [ih (by omega), iterB_succ, ← step_A]
    congr 2
    rw [blockAt_append _ _ _ (by simp; omega)]
    unfold blockAt
    rw [List.drop_replicate, List.take_replicate, show min 64 (n - 64 * q) = 64 by omega]
    decide

theorem iter_all : iterB kws_A 15625 h0 = st_16 := by
  have e : h0 = st_0 := rfl
  rw [e, show (15625 : Nat) = 1000 + (1000 + (1000 + (1000 + (1000 + (1000 + (1000 + (1000 + (1000 + (1000 + (1000 + (1000 + (1000 + (1000 + (1000 + (625))))))))))))))) from rfl]
  rw [iterB_add, it_0]
  rw [iterB_add, it_1]
  rw [iterB_add, it_2]
  rw [iterB_add, it_3]
  rw [iterB_add, it_4]
  rw [iterB_add, it_5]
  rw [iterB_add, it_6]
  rw [iterB_add, it_7]
  rw [iterB_add, it_8]
  rw [iterB_add, it_9]
  rw [iterB_add, it_10]
  rw [iterB_add, it_11]
  rw [iterB_add, it_12]
  rw [iterB_add, it_13]
  rw [iterB_add, it_14]
  rw [it_15]

def blk_M : List UInt8 := [128, 0, 0, 0, 0, 0, 0, 0, 0, 0, 0, 0, 0, 0, 0, 0, 0, 0, 0, 0, 0, 0, 0, 0, 0, 0, 0, 0, 0, 0, 0, 0, 0, 0, 0, 0, 0, 0, 0, 0, 0, 0, 0, 0, 0, 0, 0, 0, 0, 0, 0, 0, 0, 0, 0, 0, 0, 0, 0, 0, 0, 122, 18, 0]
def sch_M : List (BitVec 32) := [2147483648#32, 0#32, 0#32, 0#32, 0#32, 0#32, 0#32, 0#32, 0#32, 0#32, 0#32, 0#32, 0#32, 0#32, 0#32, 8000000#32, 2147483648#32, 1262493366#32, 2117632#32, 211762383#32, 570427392#32, 2046640147#32, 92448578#32, 2283121809#32, 1384661390#32, 1679376483#32, 897678804#32, 2854543583#32, 190528578#32, 4058075312#32, 105968916#32, 3866399270#32, 2861918589#32, 1882462722#32, 347738344#32, 2891709883#32, 3625323515#32, 788249414#32, 165857473#32, 3825405546#32, 2592799897#32, 1363320750#32, 2516457357#32, 3906925102#32, 794612764#32, 3098572565#32, 1348865003#32, 1788789610#32, 3436928097#32, 377046093#32, 1625690001#32, 3568280806#32, 3191616668#32, 3613147469#32, 474395344#32, 4175109608#32, 832216967#32, 739729553#32, 2200874594#32, 203359767#32, 2872635362#32, 2534957989#32, 482703327#32, 3872903274#32]
def kws_M : List (BitVec 32) := [3263836056#32, 1899447441#32, 3049323471#32, 3921009573#32, 961987163#32, 1508970993#32, 2453635748#32, 2870763221#32, 3624381080#32, 310598401#32, 607225278#32, 1426881987#32, 1925078388#32, 2162078206#32, 2614888103#32, 3256222580#32, 1687906753#32, 989750844#32, 266464710#32, 816570011#32, 1340683375#32, 3295790269#32, 1647530270#32, 4279186795#32, 3938882272#32, 206243536#32, 3850675612#32, 1769889958#32, 3527100469#32, 3347636727#32, 219895909#32, 4204641165#32, 3528225794#32, 2655992634#32, 1642495716#32, 4287892174#32, 1025539919#32, 2774910465#32, 2342883823#32, 1987394287#32, 1028318522#32, 4183623161#32, 1481220861#32, 2957722577#32, 15711285#32, 2403958073#32, 1148469616#32, 2064212954#32, 3867155831#32, 883994709#32, 2284750557#32, 157311387#32, 4149756239#32, 641002391#32, 2011397407#32, 1628016091#32, 2787779189#32, 2763834368#32, 133637750#32, 2565212191#32, 1006104540#32, 996724880#32, 3686734806#32, 2907261276#32]
theorem schOk_M : schOk (wordOf blk_M) sch_M = true := by decide +kernel
theorem kwsOk_M : kws_M = (List.range 64).map fun t => kk t + sch_M.getD t 0#32 := by decide +kernel
theorem made_M : blk kk st_16 (wordOf blk_M) = ⟨3452399196#32, 2568289170#32, 2174863330#32, 2228698727#32, 4051737160#32, 2761367566#32, 74267084#32, 3339791568#32⟩ := blk_of kk _ sch_M kws_M _ _ schOk_M kwsOk_M (iter_of _ 1 _ _ (by decide +kernel))
theorem padb_M : padb 1000000 = blk_M := by decide +kernel

theorem sum_M : sumOf kk h0 (List.replicate 1000000 97) = outs ⟨3452399196#32, 2568289170#32, 2174863330#32, 2228698727#32, 4051737160#32, 2761367566#32, 74267084#32, 3339791568#32⟩ := by
  unfold sumOf
  rw [List.length_replicate, padb_M]
  have hl : (List.replicate 1000000 (97 : UInt8) ++ blk_M).length = 64 * 15626 := by rw [List.length_append, List.length_replicate]; rfl
  unfold stOf
  rw [hl, Nat.mul_div_cancel_left _ (by decide)]
  show outs (blk kk (hs kk h0 _ 15625) (wordOf (blockAt _ 15625))) = _
  rw [hs_A 1000000 _ 15625 (by decide), iter_all]
  have hb : blockAt (List.replicate 1000000 (97 : UInt8) ++ blk_M) 15625 = blk_M := by
    unfold blockAt
    rw [List.drop_append_of_le_length (by rw [List.length_replicate]; decide), List.drop_of_length_le (by rw [List.length_replicate]; decide), List.nil_append]
    exact List.take_of_length_le (by decide)
  rw [hb, made_M]
end Go.Proofs.YtpabooocbileiaaDoor
