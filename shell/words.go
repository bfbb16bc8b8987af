package shell

import (
	"strconv"

	"chronicle/api"
)

// operationWords is the operations' words, by their numbers.
func operationWords() []string {
	return []string{
		api.OpPing:        "ping",
		api.OpCreate:      "create",
		api.OpDrop:        "drop",
		api.OpList:        "list",
		api.OpPut:         "put",
		api.OpDelete:      "delete",
		api.OpGet:         "get",
		api.OpReplay:      "replay",
		api.OpSnapshot:    "snapshot",
		api.OpSubscribe:   "subscribe",
		api.OpUnsubscribe: "unsubscribe",
		api.OpJoin:        "join",
		api.OpCommit:      "commit",
		api.OpPosition:    "position",
		api.OpStat:        "stat",
		api.OpDeliver:     "deliver", // of responses alone
	}
}

// codeWords is the codes' words, by their numbers.
func codeWords() []string {
	return []string{
		api.CodeOK:            "ok",
		api.CodeBadRequest:    "bad-request",
		api.CodeNoTopic:       "no-topic",
		api.CodeExists:        "exists",
		api.CodeFull:          "full",
		api.CodeOffsets:       "offsets",
		api.CodeHorizonPassed: "horizon-passed",
		api.CodeThrottled:     "throttled",
		api.CodeSequence:      "sequence",
		api.CodeTooMany:       "too-many",
		api.CodeNoSuch:        "no-such",
		api.CodeBeyond:        "beyond",
	}
}

// kindWords is the words of the kinds of records, by their numbers.
func kindWords() []string {
	return []string{api.KValue: "value", api.KTombstone: "tombstone"}
}

// named is the word of a number, or, where it has none, of what it is the number, with the number directly behind.
func named(words []string, number int, of string) string {
	if 0 <= number && number < len(words) && words[number] != "" {
		return words[number]
	}
	return of + strconv.Itoa(number)
}
